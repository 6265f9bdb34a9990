/-
  Proved: for every slice of bytes the law PackOnce (what is read was written in just that way: written again it is the bytes that it was read from) returns true, and the slice reads behind the call as it read before. Conditions: none.
  The frame below the walk was written by the guide's program (proof-skeleton); the walk is by hand.
-/
import Derived.Test.YtcgpgmboeffmcaaRows
import Derived.Test.YtcgpgmboeffmcaaGuarded
import Derived.WalkKit
import Derived.ProofKit
import Derived.OpenShut
import Derived.ShutString
import Derived.ChangeOld
import Derived.Below
namespace Go.Proofs.Ytcgpgmboeffmcaa.packOnce
open Go.ChangeShapes Go.WideShapes Go.ChangeAt Go.RowKit Pack
open Go.ChangeMaps (open_string shut_string)
set_option linter.unusedVariables false

theorem own : ownKnob Try.prog.godebug = none := by kernel_rfl
theorem laidOut : laidOutB Try.prog = true := by kernel_rfl

theorem unzz_range {m : Nat} (h : m < 18446744073709551616) : -9223372036854775808 ≤ unzz m ∧ unzz m ≤ 9223372036854775807 := by
  unfold unzz; split <;> omega

set_option maxRecDepth 100000 in
set_option maxHeartbeats 400000 in
/-- The bytes begin with a row, and with no bytes. -/
theorem once_short (v : Value) (a : Option Addr) (n cap k m : Nat) (l : List (BitVec 8)) (w : World) (HR : Hid (ReadsV w (.slice a n cap) l)) (HL : Hid (l.length ≤ 2000)) (hbig : ¬ 2000 < n) (hcm : n ≤ 9223372036854775807) (HK : Hid (rd 0 l = .ok k)) (HM : Hid (val (l.take k) = m)) (HM64 : Hid (m < 18446744073709551616)) (HU : Hid (urow m = l.take k)) (HUZ : Hid (urow (zz (unzz m)) = l.take k)) (HLE : Hid (l.length - k < m)) :
    Calls Try.prog 6 #[.slice a n cap] w fun e w' => e = .returned (.bool true) ∧ Below w.heap.size w w' := by
  have HE : Hid (l.take k ++ l.drop k = l) := List.take_append_drop _ _
  have HLT : Hid ((l.take k).length + (l.drop k).length ≤ 140737488355328) := by show _ ≤ _; rw [← List.length_append, HE.out]; exact Nat.le_trans HL.out (by decide)
  go_enter Try.func6, Try.ntmps6
  go_wp2_with (first
    | (go_at_call 19; refine (readUint_ok _ l k m _ HR.out HK.out HM.out).mono ?_; rintro e w1 ⟨a1, c1, rfl, hr, hB⟩; have HR1 : Hid (ReadsV w1 (.slice a1 (l.length - k) c1) (l.drop k)) := hr; have HB1 : Hid (Below w.heap.size w w1) := hB; clear hr hB)
    | (go_at_call 12; refine (uint_any w1.heap.size _ [] m _ (Owns.nil _ _) (Nat.le_refl _) (by decide) HM64.out).mono ?_; rintro e w2 ⟨v2, rfl, ho, hB⟩; have HO2 : Hid (Owns w2 w1.heap.size v2 (l.take k)) := HU.out ▸ ho; have HB2 : Hid (Below w1.heap.size w1 w2) := hB; clear ho hB)
    | (at_builtin; have := HR1; refine wpList_append_guarded (by first | rfl | simp [Region.wanted, yielded]) (.tmp 26) (.tmp 27) 22 rfl w1.heap.size Try.underlying22 Try.info5 _ (l.take k) rfl HO2.out _ (l.drop k) rfl (HR1.out.below HB2.out) HLT.out HB2.out.size ?_; intro v3 w3 ho hB; have HQ3 : Hid (ReadsV w3 v3 l) := HE.out ▸ ReadsV.of_own ho; have HB3 : Hid (Below w.heap.size w w3) := below3 HB1.out (HB2.out.trans hB) (Nat.le_refl _); clear ho hB)
    | (go_at_call 21; refine (readInt_ok _ l k m _ (HR.out.below HB3.out) HK.out HM.out).mono ?_; rintro e w4 ⟨a4, c4, rfl, hr, hB⟩; have HR4 : Hid (ReadsV w4 (.slice a4 (l.length - k) c4) (l.drop k)) := hr; have HB4 : Hid (Below w.heap.size w w4) := below3 HB3.out hB (Nat.le_refl _); clear hr hB)
    | (go_at_call 14; refine (int_any w4.heap.size _ [] (unzz m) _ (Owns.nil _ _) (Nat.le_refl _) (by decide) (unzz_range HM64.out).1 (unzz_range HM64.out).2).mono ?_; rintro e w5 ⟨v5, rfl, ho, hB⟩; have HO5 : Hid (Owns w5 w4.heap.size v5 (l.take k)) := HUZ.out ▸ ho; have HB5 : Hid (Below w4.heap.size w4 w5) := hB; clear ho hB)
    | (at_builtin; have := HR4; refine wpList_append_guarded (by first | rfl | simp [Region.wanted, yielded]) (.tmp 43) (.tmp 44) 22 rfl w4.heap.size Try.underlying22 Try.info5 _ (l.take k) rfl HO5.out _ (l.drop k) rfl (HR4.out.below HB5.out) HLT.out HB5.out.size ?_; intro v6 w6 ho hB; have HQ6 : Hid (ReadsV w6 v6 l) := HE.out ▸ ReadsV.of_own ho; have HB6 : Hid (Below w.heap.size w w6) := below3 HB4.out (HB5.out.trans hB) (Nat.le_refl _); clear ho hB)
    | (go_at_call 16; have := HQ6; refine (same_yes _ _ l _ HQ6.out (HR.out.below HB6.out)).mono ?_; rintro e w' ⟨rfl, rfl⟩)
    | (go_at_call 16; refine (same_yes _ _ l _ HQ3.out (HR.out.below HB3.out)).mono ?_; rintro e w' ⟨rfl, rfl⟩)
    | (go_at_call 23; refine (readBytes_short _ l k m _ (HR.out.below HB6.out) HK.out HM.out HLE.out).mono ?_; rintro e w7 ⟨rfl, hB⟩; have HB7 : Hid (Below w.heap.size w w7) := below3 HB6.out hB (Nat.le_refl _); clear hB)
    | (go_at_call 8; refine (works_any _).mono ?_; rintro e w8 ⟨rfl, hB⟩))
  go_ret
  exact ⟨rfl, HB7.out.trans (hB.mono HB7.out.size)⟩

set_option maxRecDepth 100000 in
set_option maxHeartbeats 400000 in
/-- The bytes begin with a row, and with bytes. -/
theorem once_ok (v : Value) (a : Option Addr) (n cap k m : Nat) (l : List (BitVec 8)) (w : World) (HR : Hid (ReadsV w (.slice a n cap) l)) (HL : Hid (l.length ≤ 2000)) (hbig : ¬ 2000 < n) (hcm : n ≤ 9223372036854775807) (HK : Hid (rd 0 l = .ok k)) (HM : Hid (val (l.take k) = m)) (HM64 : Hid (m < 18446744073709551616)) (HU : Hid (urow m = l.take k)) (HUZ : Hid (urow (zz (unzz m)) = l.take k)) (HLE : Hid (m ≤ l.length - k)) :
    Calls Try.prog 6 #[.slice a n cap] w fun e w' => e = .returned (.bool true) ∧ Below w.heap.size w w' := by
  have HE : Hid (l.take k ++ l.drop k = l) := List.take_append_drop _ _
  have HLT : Hid ((l.take k).length + (l.drop k).length ≤ 140737488355328) := by show _ ≤ _; rw [← List.length_append, HE.out]; exact Nat.le_trans HL.out (by decide)
  have HML : Hid (((l.drop k).take m).length = m) := by show _ = _; simp; have := HLE.out; omega
  have HE2 : Hid (([] ++ (urow ((l.drop k).take m).length ++ (l.drop k).take m)) ++ l.drop (k + m) = l) := by show _ = _; rw [HML.out, HU.out, List.nil_append, List.append_assoc, ← List.drop_drop, List.take_append_drop, List.take_append_drop]
  have HLB : Hid (([] ++ (urow ((l.drop k).take m).length ++ (l.drop k).take m)).length + (l.drop (k + m)).length ≤ 140737488355328) := by show _ ≤ _; rw [← List.length_append, HE2.out]; exact Nat.le_trans HL.out (by decide)
  have HLM : Hid (((l.drop k).take m).length ≤ 10000000000000) := by show _ ≤ _; simp; have := HL.out; omega
  go_enter Try.func6, Try.ntmps6
  go_wp2_with (first
    | (go_at_call 19; refine (readUint_ok _ l k m _ HR.out HK.out HM.out).mono ?_; rintro e w1 ⟨a1, c1, rfl, hr, hB⟩; have HR1 : Hid (ReadsV w1 (.slice a1 (l.length - k) c1) (l.drop k)) := hr; have HB1 : Hid (Below w.heap.size w w1) := hB; clear hr hB)
    | (go_at_call 12; refine (uint_any w1.heap.size _ [] m _ (Owns.nil _ _) (Nat.le_refl _) (by decide) HM64.out).mono ?_; rintro e w2 ⟨v2, rfl, ho, hB⟩; have HO2 : Hid (Owns w2 w1.heap.size v2 (l.take k)) := HU.out ▸ ho; have HB2 : Hid (Below w1.heap.size w1 w2) := hB; clear ho hB)
    | (at_builtin; have := HR1; refine wpList_append_guarded (by first | rfl | simp [Region.wanted, yielded]) (.tmp 26) (.tmp 27) 22 rfl w1.heap.size Try.underlying22 Try.info5 _ (l.take k) rfl HO2.out _ (l.drop k) rfl (HR1.out.below HB2.out) HLT.out HB2.out.size ?_; intro v3 w3 ho hB; have HQ3 : Hid (ReadsV w3 v3 l) := HE.out ▸ ReadsV.of_own ho; have HB3 : Hid (Below w.heap.size w w3) := below3 HB1.out (HB2.out.trans hB) (Nat.le_refl _); clear ho hB)
    | (go_at_call 21; refine (readInt_ok _ l k m _ (HR.out.below HB3.out) HK.out HM.out).mono ?_; rintro e w4 ⟨a4, c4, rfl, hr, hB⟩; have HR4 : Hid (ReadsV w4 (.slice a4 (l.length - k) c4) (l.drop k)) := hr; have HB4 : Hid (Below w.heap.size w w4) := below3 HB3.out hB (Nat.le_refl _); clear hr hB)
    | (go_at_call 14; refine (int_any w4.heap.size _ [] (unzz m) _ (Owns.nil _ _) (Nat.le_refl _) (by decide) (unzz_range HM64.out).1 (unzz_range HM64.out).2).mono ?_; rintro e w5 ⟨v5, rfl, ho, hB⟩; have HO5 : Hid (Owns w5 w4.heap.size v5 (l.take k)) := HUZ.out ▸ ho; have HB5 : Hid (Below w4.heap.size w4 w5) := hB; clear ho hB)
    | (at_builtin; have := HR4; refine wpList_append_guarded (by first | rfl | simp [Region.wanted, yielded]) (.tmp 43) (.tmp 44) 22 rfl w4.heap.size Try.underlying22 Try.info5 _ (l.take k) rfl HO5.out _ (l.drop k) rfl (HR4.out.below HB5.out) HLT.out HB5.out.size ?_; intro v6 w6 ho hB; have HQ6 : Hid (ReadsV w6 v6 l) := HE.out ▸ ReadsV.of_own ho; have HB6 : Hid (Below w.heap.size w w6) := below3 HB4.out (HB5.out.trans hB) (Nat.le_refl _); clear ho hB)
    | (go_at_call 23; refine (readBytes_ok _ l k m _ (HR.out.below HB6.out) HK.out HM.out HLE.out).mono ?_; rintro e w7 ⟨v7, u7, rfl, hr, hq, hB⟩; have HR7 : Hid (ReadsV w7 v7 ((l.drop k).take m)) := hr; have HQ7 : Hid (ReadsV w7 u7 (l.drop (k + m))) := hq; have HB7 : Hid (Below w.heap.size w w7) := below3 HB6.out hB (Nat.le_refl _); clear hr hq hB)
    | (go_at_call 15; refine (bytes_any w7.heap.size _ _ [] ((l.drop k).take m) _ (Owns.nil _ _) HR7.out (Nat.le_refl _) (by decide) HLM.out).mono ?_; rintro e w8 ⟨v8, rfl, ho, hB⟩; have HO8 : Hid (Owns w8 w7.heap.size v8 ([] ++ (urow ((l.drop k).take m).length ++ (l.drop k).take m))) := ho; have HB8 : Hid (Below w7.heap.size w7 w8) := hB; clear ho hB)
    | (at_builtin; have := HO8; refine wpList_append_guarded (by first | rfl | simp [Region.wanted, yielded]) (.tmp 60) (.tmp 61) 22 rfl w7.heap.size Try.underlying22 Try.info5 _ _ rfl HO8.out _ (l.drop (k + m)) rfl (HQ7.out.below HB8.out) HLB.out HB8.out.size ?_; intro v9 w9 ho hB; have HQ9 : Hid (ReadsV w9 v9 l) := HE2.out ▸ ReadsV.of_own ho; have HB9 : Hid (Below w.heap.size w w9) := below3 HB7.out (HB8.out.trans hB) (Nat.le_refl _); clear ho hB)
    | (go_at_call 16; have := HQ9; refine (same_yes _ _ l _ HQ9.out (HR.out.below HB9.out)).mono ?_; rintro e w' ⟨rfl, rfl⟩)
    | (go_at_call 16; have := HQ6; refine (same_yes _ _ l _ HQ6.out (HR.out.below HB6.out)).mono ?_; rintro e w' ⟨rfl, rfl⟩)
    | (go_at_call 16; refine (same_yes _ _ l _ HQ3.out (HR.out.below HB3.out)).mono ?_; rintro e w' ⟨rfl, rfl⟩)
    | (go_at_call 8; refine (works_any _).mono ?_; rintro e w10 ⟨rfl, hB⟩))
  go_ret
  exact ⟨rfl, HB9.out.trans (hB.mono HB9.out.size)⟩

/-! ### STEP 1: THE WALK: the Go text returns true, AND WRITES NOTHING THAT WAS THERE: 'Below w.heap.size w w'' (Derived/Below.lean: '.refl', '.alloc', '.drew', '.setCell' at a new block, '.trans'). Open each 'IsRow' by 'rcases' AHEAD of 'go_enter'; part every test ahead of the walk. -/
set_option maxHeartbeats 400000 in
set_option maxRecDepth 100000 in
theorem walk (a0 : Option Addr) (len0 cap0 : Nat) (z0 : List Int) (w : World) (w0 : IsRow .u8 w a0 len0 cap0 z0) :
    Calls Try.prog 6 #[.slice a0 len0 cap0] w fun e w' => e = .returned (.bool true) ∧ Below w.heap.size w w' := by
  obtain ⟨l, hl, hr⟩ := readsV_of w0
  clear w0
  have hcm : len0 ≤ 9223372036854775807 := by obtain ⟨_, _, _, _, _, _, h⟩ := hr; have := h.1; rw [maxLen_eq] at this; omega
  by_cases hbig : 2000 < len0
  · clear hr hl
    go_enter Try.func6, Try.ntmps6
    go_wp2_with (go_at_call 8; refine (works_any _).mono ?_; rintro e w' ⟨rfl, hb⟩)
    go_ret
    exact ⟨rfl, hb⟩
  by_cases hok : ∃ k, rd 0 l = .ok k
  case neg =>
    have HR : Hid (ReadsV w (.slice a0 len0 cap0) l) := hr
    have HK : Hid (∀ k, rd 0 l ≠ .ok k) := fun k h => hok ⟨k, h⟩
    obtain ⟨c, hc⟩ : ∃ c, code (rd 0 l) = c := ⟨_, rfl⟩
    have HC : Hid (code (rd 0 l) = c) := hc
    have hc2 : c = 2 ∨ c = 5 := by rw [← hc]; exact code_ne HK.out
    have hne : (c == 0) = false := by simp; omega
    have hne2 : (c != 0) = true := by simp; omega
    clear hok hc hr hl hc2
    go_enter Try.func6, Try.ntmps6
    go_wp2_with (first
      | (go_at_call 19; refine (readUint_err _ l c _ HR.out HK.out HC.out).mono ?_; rintro e w1 ⟨rfl, hB⟩; have HB1 : Hid (Below w.heap.size w w1) := hB; have HR1 : Hid (ReadsV w1 (.slice a0 len0 cap0) l) := HR.out.below HB1.out; clear hB)
      | (go_at_call 21; refine (readInt_err _ l c _ HR1.out HK.out HC.out).mono ?_; rintro e w2 ⟨rfl, hB⟩; have HB2 : Hid (Below w.heap.size w w2) := HB1.out.trans (hB.mono HB1.out.size); have HR2 : Hid (ReadsV w2 (.slice a0 len0 cap0) l) := HR.out.below HB2.out; clear hB)
      | (go_at_call 23; refine (readBytes_err _ l c _ HR2.out HK.out HC.out).mono ?_; rintro e w3 ⟨rfl, hB⟩; have HB3 : Hid (Below w.heap.size w w3) := HB2.out.trans (hB.mono HB2.out.size); clear hB)
      | (go_at_call 8; refine (works_any _).mono ?_; rintro e w4 ⟨rfl, hB⟩))
    go_ret
    exact ⟨rfl, HB3.out.trans (hB.mono HB3.out.size)⟩
  case pos =>
    obtain ⟨k, hk⟩ := hok
    obtain ⟨hk0, hkl, hk10, hu, hv⟩ := rd0_ok hk
    obtain ⟨m, hm⟩ : ∃ m, val (l.take k) = m := ⟨_, rfl⟩
    rw [hm] at hv hu
    have huz : urow (zz (unzz m)) = l.take k := by rw [zz_unzz]; exact hu
    by_cases hle : m ≤ l.length - k
    · exact once_ok (.bool true) a0 len0 cap0 k m l w hr (show _ ≤ _ by omega) hbig hcm hk hm hv hu huz hle
    · exact once_short (.bool true) a0 len0 cap0 k m l w hr (show _ ≤ _ by omega) hbig hcm hk hm hv hu huz (show _ < _ by omega)

/-! ### THE ROW's STEP: WRITTEN OUT: LEAVE IT -/
set_option maxRecDepth 100000 in
theorem lifted (os : Os) (started : os.Started) (H : Type) (enc : TypeId × Value → H) :
    ReturnsInHanded {} Try.checked os 6 .any (Rows.packOnceSpec.pre6 enc Try.prog Try.f6 Rows.packOnceRow.domain false) (Rows.packOnceSpec.post enc Try.prog Try.f6 false true false false) := by
  refine returnsInHanded_of_change (C := Try.checked) own started (by kernel_rfl) Try.func6
    (ChangeSpec.witness6 (enc := enc) (C := Try.checked) false ⟨#[], #[.slice none 0 0], []⟩ 8 (by kernel_rfl) (by kernel_rfl) (by kernel_rfl) (by kernel_rfl)) ?_
  intro W base args ds gs before hval0 hW hcnd _
  have hval : ∀ (j : Nat) t v, Try.f6.params[j]? = some t → args[j]? = some v → Value.okWide Try.prog W .any base t v := hval0
  have hW' := hW
  obtain ⟨p, q, hA0, hV, rfl, hfz, hnd⟩ := hW
  have hA : DataW.TrodAll enc Try.prog W 0 (fun _ => true) true Try.f6.params.toList args.toList ds p := hA0
  rw [Try.params6] at hA hval
  obtain ⟨v0, vs0, d0, ds0, p0, q0, hargs, rfl, rfl, h0, r0⟩ := trodAll_cons hA
  obtain ⟨rfl, rfl, rfl⟩ := trodAll_nil r0
  obtain rfl : args = #[v0] := by cases args; simp_all
  obtain ⟨rfl, rfl⟩ := trodVars_none hV
  obtain ⟨a0, len0, cap0, rfl⟩ := okWide_slice Try.underlying22 (hval 0 22 v0 rfl rfl)
  have k0 := h0
  have lt0 : ∀ x ∈ p0, x.block < W.heap.size := by obtain ⟨m, hm⟩ := k0; exact DataW.trod_lt m _ _ _ hm
  obtain ⟨z0, w0⟩ : ∃ zs, IsRow .u8 W a0 len0 cap0 zs := by
    obtain ⟨fuel, hf⟩ := h0
    rcases open_ints Try.underlying22 Try.underlying5 (by kernel_rfl) hf with ⟨hcs, _⟩ | ⟨x, l, c, zs, hcs, _, hl, hm, hz, _, hcell, hwz⟩
    · simp [Value.cells] at hcs
      obtain ⟨rfl, rfl, rfl⟩ := hcs
      exact ⟨[], .inl ⟨rfl, rfl, rfl, rfl⟩⟩
    · simp [Value.cells] at hcs
      obtain ⟨rfl, rfl, rfl⟩ := hcs
      exact ⟨zs, .inr ⟨_, rfl, hl, hm, by simpa using hz, hcell, hwz⟩⟩
  clear hA0 hval0
  refine (walk a0 len0 cap0 z0 W w0).mono fun e W' ⟨he, bel⟩ => ?_
  subst he
  exact ⟨_, rfl, _, _, _, [], _, [], hW', trodAll_mk1 (shut_bool Try.underlying4 _), (trodAll_cons_mk (Below.trod laidOut (by kernel_rfl) (of_decide_eq_true (by kernel_rfl)) k0 bel lt0) trodAll_mk0), rfl, bel.frame _, fun h => by cases h⟩

theorem over : Rows.packOnceRow.holds Try.pinned (OpenSpec.ofChange Rows.packOnceSpec) :=
  OpenClaim.holds_of_wide 6 Try.f6 rfl rfl rfl rfl rfl rfl rfl ⟨rfl, rfl, rfl, rfl, rfl⟩ rfl rfl rfl rfl rfl (by kernel_rfl) Try.func6 (by kernel_rfl)
    (of_decide_eq_true (by kernel_rfl)) (by unfold Func.isWrapper; first | (rw [if_pos (by decide +kernel)]; kernel_rfl) | (rw [if_neg (by decide +kernel)]; exact ⟨rfl, rfl⟩))
    (fun os started H enc _ => lifted os started H enc)

/-- ████ THE STATEMENT ████ -/
theorem proved : Rows.PackOnceSaid := over
#print axioms proved
end Go.Proofs.Ytcgpgmboeffmcaa.packOnce
