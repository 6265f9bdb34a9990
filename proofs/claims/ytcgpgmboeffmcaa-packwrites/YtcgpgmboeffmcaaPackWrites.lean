/-
  Proved: for every two slices of bytes, every two numbers and every text the law PackWrites (a number, a number that may be below 0, bytes behind others, and whether a text is a name, are what the document's own writing says) returns true, and the slices read behind the call as they read before. Conditions: none.
  The frame below the walk was written by the guide's program (proof-skeleton); the walk is by hand.
-/
import Derived.Test.YtcgpgmboeffmcaaRows
import Derived.Test.YtcgpgmboeffmcaaMore2
import Derived.WalkKit
import Derived.ProofKit
import Derived.OpenShut
import Derived.ShutString
import Derived.ChangeOld
import Derived.Below
namespace Go.Proofs.Ytcgpgmboeffmcaa.packWrites
open Go.ChangeShapes Go.WideShapes Go.ChangeAt Go.RowKit Pack
open Go.ChangeMaps (open_string shut_string)
set_option linter.unusedVariables false

theorem own : ownKnob Try.prog.godebug = none := by kernel_rfl
theorem laidOut : laidOutB Try.prog = true := by kernel_rfl

/-! ### STEP 1: THE WALK: the Go text returns true, AND WRITES NOTHING THAT WAS THERE: 'Below w.heap.size w w'' (Derived/Below.lean: '.refl', '.alloc', '.drew', '.setCell' at a new block, '.trans'). Open each 'IsRow' by 'rcases' AHEAD of 'go_enter'; part every test ahead of the walk. -/
set_option maxHeartbeats 400000 in
set_option maxRecDepth 100000 in
theorem walk (a0 : Option Addr) (len0 cap0 : Nat) (z0 : List Int) (a1 : Int) (a2 : Int) (a3 : Option Addr) (len3 cap3 : Nat) (z3 : List Int) (a4 : ByteArray) (w : World) (w0 : IsRow .u8 w a0 len0 cap0 z0) (w1 : (Lit.int .u64 a1).wf = true) (w2 : (Lit.int .i64 a2).wf = true) (w3 : IsRow .u8 w a3 len3 cap3 z3) (w4 : a4.size ≤ maxLen) :
    Calls Try.prog 3 #[.slice a0 len0 cap0, .int .u64 a1, .int .i64 a2, .slice a3 len3 cap3, .string a4] w fun e w' => e = .returned (.bool true) ∧ Below w.heap.size w w' := by
  obtain ⟨n, rfl⟩ : ∃ n : Nat, a1 = (n : Int) := ⟨a1.toNat, by have := bounds_u64 w1; omega⟩
  have hn : n < 18446744073709551616 := by have := bounds_u64 w1; omega
  have hm := bounds_i64 w2
  obtain ⟨b, hb, hrb⟩ := readsV_of w0
  obtain ⟨s, hs, hrs⟩ := readsV_of w3
  have hbm : len0 ≤ 9223372036854775807 := by obtain ⟨_, _, _, _, _, _, h⟩ := hrb; have := h.1; rw [maxLen_eq] at this; omega
  have hsm : len3 ≤ 9223372036854775807 := by obtain ⟨_, _, _, _, _, _, h⟩ := hrs; have := h.1; rw [maxLen_eq] at this; omega
  have H4 : Hid (a4.size ≤ 9223372036854775807) := by rw [maxLen_eq] at w4; exact w4
  clear w0 w1 w2 w3 w4
  by_cases hbig : 2000 < len0
  · clear hrb hrs hb hs
    go_enter Try.func3, Try.ntmps3
    go_wp2_with (go_at_call 8; refine (works_any _).mono ?_; rintro e w' ⟨rfl, hb⟩)
    go_ret
    exact ⟨rfl, hb⟩
  by_cases hbig2 : 2000 < len3
  · clear hrb hrs hb hs
    go_enter Try.func3, Try.ntmps3
    go_wp2_with (go_at_call 8; refine (works_any _).mono ?_; rintro e w' ⟨rfl, hb⟩)
    go_ret
    exact ⟨rfl, hb⟩
  have HRB : Hid (ReadsV w (.slice a0 len0 cap0) b) := hrb
  have HRS : Hid (ReadsV w (.slice a3 len3 cap3) s) := hrs
  have HBL : Hid (b.length ≤ 2000) := by show _ ≤ _; omega
  have HSL : Hid (s.length ≤ 2000) := by show _ ≤ _; omega
  have HB0 : Hid (([] : List (BitVec 8)).length + b.length ≤ 140737488355328) := by show 0 + b.length ≤ _; omega
  have HN : Hid (n < 18446744073709551616) := hn
  have HM : Hid (-9223372036854775808 ≤ a2 ∧ a2 ≤ 9223372036854775807) := hm
  have HU1 : Hid (b.length + (urow n).length ≤ 140737488355328) := by show _ ≤ _; have := urow_len hn; omega
  have HU2 : Hid (b.length + (urow (zz a2)).length ≤ 140737488355328) := by show _ ≤ _; have := urow_len (zz_lt hm.1 hm.2); omega
  have HU3 : Hid (b.length + (urow s.length ++ s).length ≤ 140737488355328) := by show _ ≤ _; rw [List.length_append]; have := urow_len (n := s.length) (by omega); omega
  clear hrb hrs hb hs hn hm
  go_enter Try.func3, Try.ntmps3
  go_wp2_with (first
    | (at_builtin; refine wpList_append_bytes rfl (.tmp 26) (.tmp 27) 22 rfl w.heap.size Try.underlying22 Try.info5 _ [] rfl (Owns.nil _ _) _ b rfl HRB.out HB0.out (Nat.le_refl _) ?_; intro v1 w1 ho hB; have HO1 : Hid (Owns w1 w.heap.size v1 b) := ho; have HB1 : Hid (Below w.heap.size w w1) := hB; clear ho hB)
    | (go_at_call 9; refine (ruint_any n _ HN.out).mono ?_; rintro e w2 ⟨v2, rfl, ho, hB⟩; have HO2 : Hid (Owns w2 w1.heap.size v2 (urow n)) := ho; have HB2 : Hid (Below w1.heap.size w1 w2) := hB; clear ho hB)
    | (at_builtin; refine wpList_append_bytes rfl (.tmp 28) (.tmp 30) 22 rfl w.heap.size Try.underlying22 Try.info5 _ b rfl (HO1.out.below HB2.out) _ (urow n) rfl (ReadsV.of_own HO2.out) HU1.out (Nat.le_trans HB1.out.size HB2.out.size) ?_; intro v3 w3 ho hB; have HX : Hid (ReadsV w3 v3 (b ++ urow n)) := ReadsV.of_own ho; have HB3 : Hid (Below w.heap.size w w3) := (below3 HB1.out HB2.out (Nat.le_refl _)).trans hB; clear ho hB)
    | (at_builtin; refine wpList_append_bytes rfl (.tmp 32) (.tmp 33) 22 rfl w3.heap.size Try.underlying22 Try.info5 _ [] rfl (Owns.nil _ _) _ b rfl (HRB.out.below HB3.out) HB0.out (Nat.le_refl _) ?_; intro v4 w4 ho hB; have HO4 : Hid (Owns w4 w3.heap.size v4 b) := ho; have HB4 : Hid (Below w3.heap.size w3 w4) := hB; clear ho hB)
    | (go_at_call 10; refine (rint_any a2 _ HM.out.1 HM.out.2).mono ?_; rintro e w5 ⟨v5, rfl, ho, hB⟩; have HO5 : Hid (Owns w5 w4.heap.size v5 (urow (zz a2))) := ho; have HB5 : Hid (Below w4.heap.size w4 w5) := hB; clear ho hB)
    | (at_builtin; refine wpList_append_bytes rfl (.tmp 34) (.tmp 36) 22 rfl w3.heap.size Try.underlying22 Try.info5 _ b rfl (HO4.out.below HB5.out) _ (urow (zz a2)) rfl (ReadsV.of_own HO5.out) HU2.out (Nat.le_trans HB4.out.size HB5.out.size) ?_; intro v6 w6 ho hB; have HY : Hid (ReadsV w6 v6 (b ++ urow (zz a2))) := ReadsV.of_own ho; have HB6 : Hid (Below w3.heap.size w3 w6) := (below3 HB4.out HB5.out (Nat.le_refl _)).trans hB; clear ho hB)
    | (at_builtin; refine wpList_append_bytes rfl (.tmp 38) (.tmp 39) 22 rfl w6.heap.size Try.underlying22 Try.info5 _ [] rfl (Owns.nil _ _) _ b rfl ((HRB.out.below HB3.out).below HB6.out) HB0.out (Nat.le_refl _) ?_; intro v7 w7 ho hB; have HO7 : Hid (Owns w7 w6.heap.size v7 b) := ho; have HB7 : Hid (Below w6.heap.size w6 w7) := hB; clear ho hB)
    | (go_at_call 11; refine (rbytes_any _ s _ (((HRS.out.below HB3.out).below HB6.out).below HB7.out) (Nat.le_trans HSL.out (by decide))).mono ?_; rintro e w8 ⟨v8, rfl, ho, hB⟩; have HO8 : Hid (Owns w8 w7.heap.size v8 (urow s.length ++ s)) := ho; have HB8 : Hid (Below w7.heap.size w7 w8) := hB; clear ho hB)
    | (at_builtin; refine wpList_append_bytes rfl (.tmp 40) (.tmp 42) 22 rfl w6.heap.size Try.underlying22 Try.info5 _ b rfl (HO7.out.below HB8.out) _ (urow s.length ++ s) rfl (ReadsV.of_own HO8.out) HU3.out (Nat.le_trans HB7.out.size HB8.out.size) ?_; intro v9 w9 ho hB; have HZ : Hid (ReadsV w9 v9 (b ++ (urow s.length ++ s))) := ReadsV.of_own ho; have HB9 : Hid (Below w6.heap.size w6 w9) := (below3 HB7.out HB8.out (Nat.le_refl _)).trans hB; clear ho hB)
    | (go_at_call 13; have := HP; have := HQ; refine (own_any _ b _ (((((HRB.out.below HB3.out).below HB6.out).below HB9.out).below HBP.out).below HBQ.out) (Nat.le_trans HBL.out (by decide))).mono ?_; rintro e w12 ⟨v12, rfl, ho, hB⟩; have HO12 : Hid (Owns w12 wq.heap.size v12 b) := ho; have HB12 : Hid (Below wq.heap.size wq w12) := hB; clear ho hB)
    | (go_at_call 13; have := HP; refine (own_any _ b _ ((((HRB.out.below HB3.out).below HB6.out).below HB9.out).below HBP.out) (Nat.le_trans HBL.out (by decide))).mono ?_; rintro e w11 ⟨v11, rfl, ho, hB⟩; have HO11 : Hid (Owns w11 wp.heap.size v11 b) := ho; have HB11 : Hid (Below wp.heap.size wp w11) := hB; clear ho hB)
    | (go_at_call 13; refine (own_any _ b _ (((HRB.out.below HB3.out).below HB6.out).below HB9.out) (Nat.le_trans HBL.out (by decide))).mono ?_; rintro e w10 ⟨v10, rfl, ho, hB⟩; have HO10 : Hid (Owns w10 w9.heap.size v10 b) := ho; have HB10 : Hid (Below w9.heap.size w9 w10) := hB; clear ho hB)
    | (go_at_call 12; refine (uint_any w9.heap.size _ b n _ HO10.out HB10.out.size (Nat.le_trans HBL.out (by decide)) HN.out).mono ?_; rintro e wp ⟨p, rfl, ho, hB⟩; have HP : Hid (ReadsV wp p (b ++ urow n)) := ReadsV.of_own ho; have HBP : Hid (Below w9.heap.size w9 wp) := HB10.out.trans hB; clear ho hB)
    | (go_at_call 14; refine (int_any wp.heap.size _ b a2 _ HO11.out HB11.out.size (Nat.le_trans HBL.out (by decide)) HM.out.1 HM.out.2).mono ?_; rintro e wq ⟨q, rfl, ho, hB⟩; have HQ : Hid (ReadsV wq q (b ++ urow (zz a2))) := ReadsV.of_own ho; have HBQ : Hid (Below wp.heap.size wp wq) := HB11.out.trans hB; clear ho hB)
    | (go_at_call 15; refine (bytes_any wq.heap.size _ _ b s _ HO12.out ((((((HRS.out.below HB3.out).below HB6.out).below HB9.out).below HBP.out).below HBQ.out).below HB12.out) HB12.out.size (Nat.le_trans HBL.out (by decide)) (Nat.le_trans HSL.out (by decide))).mono ?_; rintro e wr ⟨r, rfl, ho, hB⟩; have HR : Hid (ReadsV wr r (b ++ (urow s.length ++ s))) := ReadsV.of_own ho; have HBR : Hid (Below wq.heap.size wq wr) := HB12.out.trans hB; clear ho hB)
    | (go_at_call 16; have := HDONE2; refine (same_yes _ _ (b ++ (urow s.length ++ s)) _ HR.out (((HZ.out.below HBP.out).below HBQ.out).below HBR.out)).mono ?_; rintro e w' ⟨rfl, rfl⟩)
    | (go_at_call 16; have := HDONE; refine (same_yes _ _ (b ++ urow (zz a2)) _ (HQ.out.below HBR.out) ((((HY.out.below HB9.out).below HBP.out).below HBQ.out).below HBR.out)).mono ?_; rintro e w' ⟨rfl, rfl⟩; have HDONE2 : Hid True := trivial)
    | (go_at_call 16; refine (same_yes _ _ (b ++ urow n) _ ((HP.out.below HBQ.out).below HBR.out) (((((HX.out.below HB6.out).below HB9.out).below HBP.out).below HBQ.out).below HBR.out)).mono ?_; rintro e w' ⟨rfl, rfl⟩; have HDONE : Hid True := trivial)
    | (go_at_call 17; refine (name_any a4 _ H4.out).mono ?_; rintro e w' ⟨rfl, rfl⟩)
    | (go_at_call 18; refine (rname_any a4 _ H4.out).mono ?_; rintro e w' ⟨rfl, rfl⟩)
    | (go_at_call 8; refine (works_any _).mono ?_; rintro e ww ⟨rfl, hB⟩; have HBW : Hid (Below _ _ ww) := hB; clear hB))
  go_ret
  exact ⟨rfl, below3 (below3 (below3 (below3 (below3 (below3 HB3.out HB6.out (Nat.le_refl _)) HB9.out (Nat.le_refl _)) HBP.out (Nat.le_refl _)) HBQ.out (Nat.le_refl _)) HBR.out (Nat.le_refl _)) HBW.out (Nat.le_refl _)⟩

/-! ### THE ROW's STEP: WRITTEN OUT: LEAVE IT -/
set_option maxRecDepth 100000 in
theorem lifted (os : Os) (started : os.Started) (H : Type) (enc : TypeId × Value → H) :
    ReturnsInHanded {} Try.checked os 3 .any (Rows.packWritesSpec.pre6 enc Try.prog Try.f3 Rows.packWritesRow.domain false) (Rows.packWritesSpec.post enc Try.prog Try.f3 false true false false) := by
  refine returnsInHanded_of_change (C := Try.checked) own started (by kernel_rfl) Try.func3
    (ChangeSpec.witness6 (enc := enc) (C := Try.checked) false ⟨#[], #[.slice none 0 0, .int .u64 0, .int .i64 0, .slice none 0 0, .string ByteArray.empty], []⟩ 8 (by kernel_rfl) (by kernel_rfl) (by kernel_rfl) (by kernel_rfl)) ?_
  intro W base args ds gs before hval0 hW hcnd _
  have hval : ∀ (j : Nat) t v, Try.f3.params[j]? = some t → args[j]? = some v → Value.okWide Try.prog W .any base t v := hval0
  have hW' := hW
  obtain ⟨p, q, hA0, hV, rfl, hfz, hnd⟩ := hW
  have hA : DataW.TrodAll enc Try.prog W 0 (fun _ => true) true Try.f3.params.toList args.toList ds p := hA0
  rw [Try.params3] at hA hval
  obtain ⟨v0, vs0, d0, ds0, p0, q0, hargs, rfl, rfl, h0, r0⟩ := trodAll_cons hA
  obtain ⟨v1, vs1, d1, ds1, p1, q1, rfl, rfl, rfl, h1, r1⟩ := trodAll_cons r0
  obtain ⟨v2, vs2, d2, ds2, p2, q2, rfl, rfl, rfl, h2, r2⟩ := trodAll_cons r1
  obtain ⟨v3, vs3, d3, ds3, p3, q3, rfl, rfl, rfl, h3, r3⟩ := trodAll_cons r2
  obtain ⟨v4, vs4, d4, ds4, p4, q4, rfl, rfl, rfl, h4, r4⟩ := trodAll_cons r3
  obtain ⟨rfl, rfl, rfl⟩ := trodAll_nil r4
  obtain rfl : args = #[v0, v1, v2, v3, v4] := by cases args; simp_all
  obtain ⟨rfl, rfl⟩ := trodVars_none hV
  obtain ⟨a0, len0, cap0, rfl⟩ := okWide_slice Try.underlying22 (hval 0 22 v0 rfl rfl)
  have k0 := h0
  have lt0 : ∀ x ∈ p0, x.block < W.heap.size := by obtain ⟨m, hm⟩ := k0; exact DataW.trod_lt m _ _ _ hm
  obtain ⟨z0, w0⟩ : ∃ zs, IsRow .u8 W a0 len0 cap0 zs := by
    obtain ⟨fuel, hf⟩ := h0
    rcases open_ints Try.underlying22 Try.underlying5 (by kernel_rfl) hf with ⟨hcs, _⟩ | ⟨x, l, c, zs, hcs, _, hl, hm, hz, _, hcell, hwz⟩
    · simp [Value.cells] at hcs
      obtain ⟨rfl, rfl, rfl⟩ := hcs
      exact ⟨[], .inl ⟨rfl, rfl, rfl, rfl⟩⟩
    · simp [Value.cells] at hcs
      obtain ⟨rfl, rfl, rfl⟩ := hcs
      exact ⟨zs, .inr ⟨_, rfl, hl, hm, by simpa using hz, hcell, hwz⟩⟩
  obtain ⟨a1, rfl, rfl, rfl, w1⟩ := open_int Try.underlying23 (hval 1 23 v1 rfl rfl) h1
  obtain ⟨a2, rfl, rfl, rfl, w2⟩ := open_int Try.underlying2 (hval 2 2 v2 rfl rfl) h2
  obtain ⟨a3, len3, cap3, rfl⟩ := okWide_slice Try.underlying22 (hval 3 22 v3 rfl rfl)
  have k3 := h3
  have lt3 : ∀ x ∈ p3, x.block < W.heap.size := by obtain ⟨m, hm⟩ := k3; exact DataW.trod_lt m _ _ _ hm
  obtain ⟨z3, w3⟩ : ∃ zs, IsRow .u8 W a3 len3 cap3 zs := by
    obtain ⟨fuel, hf⟩ := h3
    rcases open_ints Try.underlying22 Try.underlying5 (by kernel_rfl) hf with ⟨hcs, _⟩ | ⟨x, l, c, zs, hcs, _, hl, hm, hz, _, hcell, hwz⟩
    · simp [Value.cells] at hcs
      obtain ⟨rfl, rfl, rfl⟩ := hcs
      exact ⟨[], .inl ⟨rfl, rfl, rfl, rfl⟩⟩
    · simp [Value.cells] at hcs
      obtain ⟨rfl, rfl, rfl⟩ := hcs
      exact ⟨zs, .inr ⟨_, rfl, hl, hm, by simpa using hz, hcell, hwz⟩⟩
  obtain ⟨a4, rfl, rfl, rfl, w4⟩ := open_string Try.underlying9 (hval 4 9 v4 rfl rfl) h4
  clear hA0 hval0
  refine (walk a0 len0 cap0 z0 a1 a2 a3 len3 cap3 z3 a4 W w0 w1 w2 w3 w4).mono fun e W' ⟨he, bel⟩ => ?_
  subst he
  exact ⟨_, rfl, _, _, _, [], _, [], hW', trodAll_mk1 (shut_bool Try.underlying4 _), (trodAll_cons_mk (Below.trod laidOut (by kernel_rfl) (of_decide_eq_true (by kernel_rfl)) k0 bel lt0) (trodAll_cons_mk (shut_int Try.underlying23 w1) (trodAll_cons_mk (shut_int Try.underlying2 w2) (trodAll_cons_mk (Below.trod laidOut (by kernel_rfl) (of_decide_eq_true (by kernel_rfl)) k3 bel lt3) (trodAll_cons_mk (shut_string Try.underlying9 w4) trodAll_mk0))))), rfl, bel.frame _, fun h => by cases h⟩

theorem over : Rows.packWritesRow.holds Try.pinned (OpenSpec.ofChange Rows.packWritesSpec) :=
  OpenClaim.holds_of_wide 3 Try.f3 rfl rfl rfl rfl rfl rfl rfl ⟨rfl, rfl, rfl, rfl, rfl⟩ rfl rfl rfl rfl rfl (by kernel_rfl) Try.func3 (by kernel_rfl)
    (of_decide_eq_true (by kernel_rfl)) (by unfold Func.isWrapper; first | (rw [if_pos (by decide +kernel)]; kernel_rfl) | (rw [if_neg (by decide +kernel)]; exact ⟨rfl, rfl⟩))
    (fun os started H enc _ => lifted os started H enc)

/-- ████ THE STATEMENT ████ -/
theorem proved : Rows.PackWritesSaid := over
#print axioms proved
end Go.Proofs.Ytcgpgmboeffmcaa.packWrites
