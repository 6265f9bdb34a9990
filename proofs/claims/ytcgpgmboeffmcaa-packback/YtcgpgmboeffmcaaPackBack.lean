/-
  Proved: for every two numbers and every two slices of bytes the law PackBack (what is written behind bytes is read again as what it was, with what was written behind it left) returns true, and the slices read behind the call as they read before. Conditions: none.
  The frame below the walk was written by the guide's program (proof-skeleton); the walk is by hand.
-/
import Derived.Test.YtcgpgmboeffmcaaRows
import Derived.Test.YtcgpgmboeffmcaaMore2
import Derived.WalkKit
import Derived.ProofKit
import Derived.OpenShut
import Derived.ShutString
import Derived.ChangeOld
import Derived.Below
namespace Go.Proofs.Ytcgpgmboeffmcaa.packBack
open Go.ChangeShapes Go.WideShapes Go.ChangeAt Go.RowKit Pack
open Go.ChangeMaps (open_string shut_string)
set_option linter.unusedVariables false

theorem own : ownKnob Try.prog.godebug = none := by kernel_rfl
theorem laidOut : laidOutB Try.prog = true := by kernel_rfl

/-! ### STEP 1: THE WALK: the Go text returns true, AND WRITES NOTHING THAT WAS THERE: 'Below w.heap.size w w'' (Derived/Below.lean: '.refl', '.alloc', '.drew', '.setCell' at a new block, '.trans'). Open each 'IsRow' by 'rcases' AHEAD of 'go_enter'; part every test ahead of the walk. -/
set_option maxHeartbeats 400000 in
set_option maxRecDepth 100000 in
theorem walk (a0 : Int) (a1 : Int) (a2 : Option Addr) (len2 cap2 : Nat) (z2 : List Int) (a3 : Option Addr) (len3 cap3 : Nat) (z3 : List Int) (w : World) (w0 : (Lit.int .u64 a0).wf = true) (w1 : (Lit.int .i64 a1).wf = true) (w2 : IsRow .u8 w a2 len2 cap2 z2) (w3 : IsRow .u8 w a3 len3 cap3 z3) :
    Calls Try.prog 5 #[.int .u64 a0, .int .i64 a1, .slice a2 len2 cap2, .slice a3 len3 cap3] w fun e w' => e = .returned (.bool true) ∧ Below w.heap.size w w' := by
  obtain ⟨n, rfl⟩ : ∃ n : Nat, a0 = (n : Int) := ⟨a0.toNat, by have := bounds_u64 w0; omega⟩
  have hn : n < 18446744073709551616 := by have := bounds_u64 w0; omega
  have hm := bounds_i64 w1
  obtain ⟨s, hs, hrs⟩ := readsV_of w2
  obtain ⟨t, ht, hrt⟩ := readsV_of w3
  have hsm : len2 ≤ 9223372036854775807 := by obtain ⟨_, _, _, _, _, _, h⟩ := hrs; have := h.1; rw [maxLen_eq] at this; omega
  have htm : len3 ≤ 9223372036854775807 := by obtain ⟨_, _, _, _, _, _, h⟩ := hrt; have := h.1; rw [maxLen_eq] at this; omega
  clear w0 w1 w2 w3
  by_cases hbig : 2000 < len2
  · clear hrs hrt hs ht
    go_enter Try.func5, Try.ntmps5
    go_wp2_with (go_at_call 8; refine (works_any _).mono ?_; rintro e w' ⟨rfl, hb⟩)
    go_ret
    exact ⟨rfl, hb⟩
  by_cases hbig2 : 2000 < len3
  · clear hrs hrt hs ht
    go_enter Try.func5, Try.ntmps5
    go_wp2_with (go_at_call 8; refine (works_any _).mono ?_; rintro e w' ⟨rfl, hb⟩)
    go_ret
    exact ⟨rfl, hb⟩
  have HS : Hid (ReadsV w (.slice a2 len2 cap2) s) := hrs
  have HT : Hid (ReadsV w (.slice a3 len3 cap3) t) := hrt
  have HSL : Hid (s.length ≤ 2000) := by show _ ≤ _; omega
  have HTL : Hid (t.length ≤ 2000) := by show _ ≤ _; omega
  have HN : Hid (n < 18446744073709551616) := hn
  have HM : Hid (-9223372036854775808 ≤ a1 ∧ a1 ≤ 9223372036854775807) := hm
  have HZ : Hid (zz a1 < 18446744073709551616) := zz_lt hm.1 hm.2
  have HL1 : Hid ((urow n).length ≤ 10) := urow_len hn
  have HL2 : Hid ((urow n ++ urow (zz a1)).length ≤ 20) := by show _ ≤ _; rw [List.length_append]; have := HL1.out; have := urow_len HZ.out; omega
  have HL3 : Hid (((urow n ++ urow (zz a1)) ++ (urow s.length ++ s)).length + t.length ≤ 140737488355328) := by
    show _ ≤ _
    simp only [List.length_append]
    have := HL1.out; have := urow_len HZ.out; have := HSL.out; have := HTL.out; have := urow_len (n := s.length) (by omega)
    omega
  have HE : Hid (((urow n ++ urow (zz a1)) ++ (urow s.length ++ s)) ++ t = urow n ++ (urow (zz a1) ++ (urow s.length ++ (s ++ t)))) := by show _ = _; simp only [List.append_assoc]
  clear hrs hrt hs ht hn hm
  go_enter Try.func5, Try.ntmps5
  go_wp2_with (first
    | (go_at_call 12; refine (uint_any w.heap.size _ [] n _ (Owns.nil _ _) (Nat.le_refl _) (by decide) HN.out).mono ?_; rintro e w1 ⟨v1, rfl, ho, hB⟩; have HO1 : Hid (Owns w1 w.heap.size v1 (urow n)) := ho; have HB1 : Hid (Below w.heap.size w w1) := hB; clear ho hB)
    | (go_at_call 14; refine (int_any w.heap.size _ (urow n) a1 _ HO1.out HB1.out.size (Nat.le_trans HL1.out (by decide)) HM.out.1 HM.out.2).mono ?_; rintro e w2 ⟨v2, rfl, ho, hB⟩; have HO2 : Hid (Owns w2 w.heap.size v2 (urow n ++ urow (zz a1))) := ho; have HB2 : Hid (Below w.heap.size w w2) := HB1.out.trans hB; clear ho hB)
    | (go_at_call 15; refine (bytes_any w.heap.size _ _ (urow n ++ urow (zz a1)) s _ HO2.out (HS.out.below HB2.out) HB2.out.size (Nat.le_trans HL2.out (by decide)) (Nat.le_trans HSL.out (by decide))).mono ?_; rintro e w3 ⟨v3, rfl, ho, hB⟩; have HO3 : Hid (Owns w3 w.heap.size v3 ((urow n ++ urow (zz a1)) ++ (urow s.length ++ s))) := ho; have HB3 : Hid (Below w.heap.size w w3) := HB2.out.trans hB; clear ho hB)
    | (at_builtin; refine wpList_append_bytes rfl (.tmp 30) (.tmp 31) 22 rfl w.heap.size Try.underlying22 Try.info5 _ _ rfl HO3.out _ t rfl (HT.out.below HB3.out) HL3.out HB3.out.size ?_; intro v4 w4 ho hB; have HR4 : Hid (ReadsV w4 v4 (urow n ++ (urow (zz a1) ++ (urow s.length ++ (s ++ t))))) := HE.out ▸ ReadsV.of_own ho; have HB4 : Hid (Below w.heap.size w w4) := HB3.out.trans hB; clear ho hB)
    | (go_at_call 19; refine (ru_row _ _ n _ HR4.out HN.out).mono ?_; rintro e w5 ⟨v5, rfl, hr, hB⟩; have HR5 : Hid (ReadsV w5 v5 (urow (zz a1) ++ (urow s.length ++ (s ++ t)))) := hr; have HB5 : Hid (Below w.heap.size w w5) := below3 HB4.out hB (Nat.le_refl _); clear hr hB)
    | (go_at_call 21; refine (ri_row _ _ a1 _ HR5.out HZ.out).mono ?_; rintro e w6 ⟨v6, rfl, hr, hB⟩; have HR6 : Hid (ReadsV w6 v6 (urow s.length ++ (s ++ t))) := hr; have HB6 : Hid (Below w.heap.size w w6) := below3 HB5.out hB (Nat.le_refl _); clear hr hB)
    | (go_at_call 23; refine (rb_row _ s t _ HR6.out (Nat.lt_of_le_of_lt HSL.out (by decide))).mono ?_; rintro e w7 ⟨v7, u7, rfl, hr, hq, hB⟩; have HR7 : Hid (ReadsV w7 v7 s) := hr; have HQ7 : Hid (ReadsV w7 u7 t) := hq; have HB7 : Hid (Below w.heap.size w w7) := below3 HB6.out hB (Nat.le_refl _); clear hr hq hB)
    | (go_at_call 16; have := HDONE; refine (same_yes _ _ t _ HQ7.out (HT.out.below HB7.out)).mono ?_; rintro e w' ⟨rfl, rfl⟩)
    | (go_at_call 16; refine (same_yes _ _ s _ HR7.out (HS.out.below HB7.out)).mono ?_; rintro e w' ⟨rfl, rfl⟩; have HDONE : Hid True := trivial)
    | (go_at_call 8; refine (works_any _).mono ?_; rintro e w8 ⟨rfl, hB⟩))
  go_ret
  exact ⟨rfl, HB7.out.trans (hB.mono HB7.out.size)⟩

/-! ### THE ROW's STEP: WRITTEN OUT: LEAVE IT -/
set_option maxRecDepth 100000 in
theorem lifted (os : Os) (started : os.Started) (H : Type) (enc : TypeId × Value → H) :
    ReturnsInHanded {} Try.checked os 5 .any (Rows.packBackSpec.pre6 enc Try.prog Try.f5 Rows.packBackRow.domain false) (Rows.packBackSpec.post enc Try.prog Try.f5 false true false false) := by
  refine returnsInHanded_of_change (C := Try.checked) own started (by kernel_rfl) Try.func5
    (ChangeSpec.witness6 (enc := enc) (C := Try.checked) false ⟨#[], #[.int .u64 0, .int .i64 0, .slice none 0 0, .slice none 0 0], []⟩ 8 (by kernel_rfl) (by kernel_rfl) (by kernel_rfl) (by kernel_rfl)) ?_
  intro W base args ds gs before hval0 hW hcnd _
  have hval : ∀ (j : Nat) t v, Try.f5.params[j]? = some t → args[j]? = some v → Value.okWide Try.prog W .any base t v := hval0
  have hW' := hW
  obtain ⟨p, q, hA0, hV, rfl, hfz, hnd⟩ := hW
  have hA : DataW.TrodAll enc Try.prog W 0 (fun _ => true) true Try.f5.params.toList args.toList ds p := hA0
  rw [Try.params5] at hA hval
  obtain ⟨v0, vs0, d0, ds0, p0, q0, hargs, rfl, rfl, h0, r0⟩ := trodAll_cons hA
  obtain ⟨v1, vs1, d1, ds1, p1, q1, rfl, rfl, rfl, h1, r1⟩ := trodAll_cons r0
  obtain ⟨v2, vs2, d2, ds2, p2, q2, rfl, rfl, rfl, h2, r2⟩ := trodAll_cons r1
  obtain ⟨v3, vs3, d3, ds3, p3, q3, rfl, rfl, rfl, h3, r3⟩ := trodAll_cons r2
  obtain ⟨rfl, rfl, rfl⟩ := trodAll_nil r3
  obtain rfl : args = #[v0, v1, v2, v3] := by cases args; simp_all
  obtain ⟨rfl, rfl⟩ := trodVars_none hV
  obtain ⟨a0, rfl, rfl, rfl, w0⟩ := open_int Try.underlying23 (hval 0 23 v0 rfl rfl) h0
  obtain ⟨a1, rfl, rfl, rfl, w1⟩ := open_int Try.underlying2 (hval 1 2 v1 rfl rfl) h1
  obtain ⟨a2, len2, cap2, rfl⟩ := okWide_slice Try.underlying22 (hval 2 22 v2 rfl rfl)
  have k2 := h2
  have lt2 : ∀ x ∈ p2, x.block < W.heap.size := by obtain ⟨m, hm⟩ := k2; exact DataW.trod_lt m _ _ _ hm
  obtain ⟨z2, w2⟩ : ∃ zs, IsRow .u8 W a2 len2 cap2 zs := by
    obtain ⟨fuel, hf⟩ := h2
    rcases open_ints Try.underlying22 Try.underlying5 (by kernel_rfl) hf with ⟨hcs, _⟩ | ⟨x, l, c, zs, hcs, _, hl, hm, hz, _, hcell, hwz⟩
    · simp [Value.cells] at hcs
      obtain ⟨rfl, rfl, rfl⟩ := hcs
      exact ⟨[], .inl ⟨rfl, rfl, rfl, rfl⟩⟩
    · simp [Value.cells] at hcs
      obtain ⟨rfl, rfl, rfl⟩ := hcs
      exact ⟨zs, .inr ⟨_, rfl, hl, hm, by simpa using hz, hcell, hwz⟩⟩
  obtain ⟨a3, len3, cap3, rfl⟩ := okWide_slice Try.underlying22 (hval 3 22 v3 rfl rfl)
  have k3 := h3
  have lt3 : ∀ x ∈ p3, x.block < W.heap.size := by obtain ⟨m, hm⟩ := k3; exact DataW.trod_lt m _ _ _ hm
  obtain ⟨z3, w3⟩ : ∃ zs, IsRow .u8 W a3 len3 cap3 zs := by
    obtain ⟨fuel, hf⟩ := h3
    rcases open_ints Try.underlying22 Try.underlying5 (by kernel_rfl) hf with ⟨hcs, _⟩ | ⟨x, l, c, zs, hcs, _, hl, hm, hz, _, hcell, hwz⟩
    · simp [Value.cells] at hcs
      obtain ⟨rfl, rfl, rfl⟩ := hcs
      exact ⟨[], .inl ⟨rfl, rfl, rfl, rfl⟩⟩
    · simp [Value.cells] at hcs
      obtain ⟨rfl, rfl, rfl⟩ := hcs
      exact ⟨zs, .inr ⟨_, rfl, hl, hm, by simpa using hz, hcell, hwz⟩⟩
  clear hA0 hval0
  refine (walk a0 a1 a2 len2 cap2 z2 a3 len3 cap3 z3 W w0 w1 w2 w3).mono fun e W' ⟨he, bel⟩ => ?_
  subst he
  exact ⟨_, rfl, _, _, _, [], _, [], hW', trodAll_mk1 (shut_bool Try.underlying4 _), (trodAll_cons_mk (shut_int Try.underlying23 w0) (trodAll_cons_mk (shut_int Try.underlying2 w1) (trodAll_cons_mk (Below.trod laidOut (by kernel_rfl) (of_decide_eq_true (by kernel_rfl)) k2 bel lt2) (trodAll_cons_mk (Below.trod laidOut (by kernel_rfl) (of_decide_eq_true (by kernel_rfl)) k3 bel lt3) trodAll_mk0)))), rfl, bel.frame _, fun h => by cases h⟩

theorem over : Rows.packBackRow.holds Try.pinned (OpenSpec.ofChange Rows.packBackSpec) :=
  OpenClaim.holds_of_wide 5 Try.f5 rfl rfl rfl rfl rfl rfl rfl ⟨rfl, rfl, rfl, rfl, rfl⟩ rfl rfl rfl rfl rfl (by kernel_rfl) Try.func5 (by kernel_rfl)
    (of_decide_eq_true (by kernel_rfl)) (by unfold Func.isWrapper; first | (rw [if_pos (by decide +kernel)]; kernel_rfl) | (rw [if_neg (by decide +kernel)]; exact ⟨rfl, rfl⟩))
    (fun os started H enc _ => lifted os started H enc)

/-- ████ THE STATEMENT ████ -/
theorem proved : Rows.PackBackSaid := over
#print axioms proved
end Go.Proofs.Ytcgpgmboeffmcaa.packBack
