/-
  Proved: records that are written are scanned as what they were, to their end (5.3). Conditions: none.
  The frame below the walk follows the guide's program (proof-skeleton), by hand for slices of rows; the walk is by hand.
-/
import Derived.Test.YtccccclnfimcoaaRows
import Derived.Test.YtccccclnfimcoaaMore
import Derived.WalkKit
import Derived.ProofKit
import Derived.OpenShut
import Derived.ShutString
import Derived.ChangeOld
import Derived.Below
import Derived.SizedLaws
import Derived.Deep.RegionHeld3
namespace Go.Proofs.Ytccccclnfimcoaa.frameBack
open Go.ChangeShapes Go.WideShapes Go.ChangeAt Go.RowKit Crc
set_option linter.unusedVariables false

theorem own : ownKnob Try.prog.godebug = none := by kernel_rfl
theorem laidOut : laidOutB Try.prog = true := by kernel_rfl

set_option maxRecDepth 100000 in
set_option maxHeartbeats 1000000 in
theorem walk (a0 : Option Addr) (len0 cap0 : Nat) (z0 : List Row) (w : World) (w0 : RowsV w (.slice a0 len0 cap0) z0 ∧ ∀ i, i < z0.length → (z0.getD i []).length ≤ 1000000000000000) :
    Calls Try.prog 5 #[.slice a0 len0 cap0] w fun e w' => e = .returned (.bool true) ∧ Below w.heap.size w w' := by
  have HW : Hid (∀ w', Below w.heap.size w w' → Calls Try.prog 9 #[] w' fun e w2 => e = .returned (.bool true) ∧ Below w.heap.size w w2) := works_on w
  have HR : Hid (RowsV w (.slice a0 len0 cap0) z0) := w0.1
  have HLi : Hid (Calls Try.prog 16 #[.slice a0 len0 cap0] w fun e w' => e = .returned (.bool (lightB z0)) ∧ w' = w) := light_any _ _ _ w0.1 w0.2
  clear w0
  by_cases hli : lightB z0 = true
  case neg =>
    have hli' : lightB z0 = false := by simpa using hli
    clear hli
    rw [hli'] at HLi
    clear hli'
    go_enter Try.func5, Try.ntmps5
    go_wp2_with (first
      | (go_at_call 16; refine HLi.out.mono ?_; rintro e w1 ⟨rfl, hw⟩; have hw2 := hw.symm; clear hw; subst hw2)
      | (go_at_call 9; refine (HW.out _ (Below.refl _ _)).mono ?_; rintro e w2 ⟨rfl, hB⟩))
    go_ret
    exact ⟨rfl, hB⟩
  case pos =>
    have HG : Hid (Light z0) := light_of hli
    rw [hli] at HLi
    clear hli
    have HS : Hid (Scans (recds z0) z0 (recds z0).length ∧ (recds z0).length ≤ 1000000000) := ⟨scans_all HG.out.short, by rw [recds_tot]; have := HG.out.1; have := HG.out.2; omega⟩
    have HWr : Hid (Calls Try.prog 17 #[.slice a0 len0 cap0] w fun e w' => ∃ a c, e = .returned (.slice a (recds z0).length c) ∧ Owns w' w.heap.size (.slice a (recds z0).length c) (recds z0) ∧ Below w.heap.size w w') := written_any _ _ _ HR.out HG.out
    generalize recds z0 = b at HS HWr
    go_enter Try.func5, Try.ntmps5
    go_wp2_with (first
      | (go_at_call 9; have := H3; refine (HW.out _ H3.out).mono ?_; rintro e w4 ⟨rfl, hB⟩)
      | (go_at_call 15; have := H2; refine (sameAll_yes _ _ z0 _ (HR.out.below H2.out.2) H2.out.1).mono ?_; rintro e w3 ⟨rfl, hB⟩; have H3 : Hid (Below w.heap.size w w3) := H2.out.2.trans (hB.mono H2.out.2.size); clear hB)
      | (go_at_call 13; have := H1; refine (scan_is _ _ _ _ _ (ReadsV.of_own H1.out.1) HS.out.2 HS.out.1).mono ?_; rintro e w2 ⟨a2, c2, rfl, hR, hB⟩; have H2 : Hid (RowsV w2 (.slice a2 z0.length c2) z0 ∧ Below w.heap.size w w2) := ⟨hR, H1.out.2.trans (hB.mono H1.out.2.size)⟩; clear hR hB)
      | (go_at_call 17; refine HWr.out.mono ?_; rintro e w1 ⟨a1, c1, rfl, ho, hB⟩; have H1 : Hid (Owns w1 w.heap.size (.slice a1 b.length c1) b ∧ Below w.heap.size w w1) := ⟨ho, hB⟩; clear ho hB)
      | (go_at_call 16; refine HLi.out.mono ?_; rintro e w1 ⟨rfl, hw⟩; have hw2 := hw.symm; clear hw; subst hw2))
    go_ret
    exact ⟨rfl, hB⟩

set_option maxRecDepth 100000 in
theorem lifted (os : Os) (started : os.Started) (H : Type) (enc : TypeId × Value → H) :
    ReturnsInHanded {} Try.checked os 5 .any (Rows.frameBackSpec.pre6 enc Try.prog Try.f5 Rows.frameBackRow.domain false) (Rows.frameBackSpec.post enc Try.prog Try.f5 false true false false) := by
  refine returnsInHanded_of_change_sized (C := Try.checked) own started (by kernel_rfl) Try.func5
    (ChangeSpec.witness6 (enc := enc) (C := Try.checked) false ⟨#[], #[.slice none 0 0], []⟩ 8 (by kernel_rfl) (by kernel_rfl) (by kernel_rfl) (by kernel_rfl)) ?_
  intro W base args ds gs before hval0 hW hcnd hsz0 _
  have hval : ∀ (j : Nat) t v, Try.f5.params[j]? = some t → args[j]? = some v → Value.okWide Try.prog W .any base t v := hval0
  have hsz : (DataW.weightsEach Try.prog (Try.f5.params.toList ++ Rows.frameBackSpec.plain.varTypes Try.prog) (ds ++ gs)).all (· ≤ reachBytes) = true := hsz0
  have hW' := hW
  obtain ⟨p, q, hA0, hV, rfl, hfz, hnd⟩ := hW
  have hA : DataW.TrodAll enc Try.prog W 0 (fun _ => true) true Try.f5.params.toList args.toList ds p := hA0
  rw [Try.params5] at hA hval hsz
  obtain ⟨v0, vs0, d0, ds0, p0, q0, hargs, rfl, rfl, h0, r0⟩ := trodAll_cons hA
  obtain ⟨rfl, rfl, rfl⟩ := trodAll_nil r0
  obtain rfl : args = #[v0] := by cases args; simp_all
  obtain ⟨rfl, rfl⟩ := trodVars_none hV
  obtain ⟨a0, len0, cap0, rfl⟩ := okWide_slice Try.underlying27 (hval 0 27 v0 rfl rfl)
  have k0 := h0
  have lt0 : ∀ x ∈ p0, x.block < W.heap.size := by obtain ⟨m, hm⟩ := k0; exact DataW.trod_lt m _ _ _ hm
  obtain ⟨z0, w0⟩ : ∃ rs, RowsV W (.slice a0 len0 cap0) rs ∧ ∀ i, i < rs.length → (rs.getD i []).length ≤ 1000000000000000 := by
    obtain ⟨fuel, hf⟩ := h0
    exact rows_of_trod (by simpa [Value.cells] using hf) (List.all_eq_true.2 (fun n hn => List.all_eq_true.1 hsz n (DataW.weights_mem_each (j := 0) rfl rfl n hn)))
  clear hA0 hval0 hsz hsz0
  refine (walk a0 len0 cap0 z0 W w0).mono fun e W' ⟨he, bel⟩ => ?_
  subst he
  exact ⟨_, rfl, _, _, _, [], _, [], hW', trodAll_mk1 (shut_bool Try.underlying4 _), (trodAll_cons_mk (Below.trod laidOut (by kernel_rfl) (of_decide_eq_true (by kernel_rfl)) k0 bel lt0) trodAll_mk0), rfl, bel.frame _, fun h => by cases h⟩

theorem over : Rows.frameBackRow.holds Try.pinned (OpenSpec.ofChange Rows.frameBackSpec) :=
  OpenClaim.holds_of_wide 5 Try.f5 rfl rfl rfl rfl rfl rfl rfl ⟨rfl, rfl, rfl, rfl, rfl⟩ rfl rfl rfl rfl rfl (by kernel_rfl) Try.func5 (by kernel_rfl)
    (of_decide_eq_true (by kernel_rfl)) (by unfold Func.isWrapper; first | (rw [if_pos (by decide +kernel)]; kernel_rfl) | (rw [if_neg (by decide +kernel)]; exact ⟨rfl, rfl⟩))
    (fun os started H enc _ => lifted os started H enc)

/-- ████ THE STATEMENT ████ -/
theorem proved : Rows.FrameBackSaid := over
#print axioms proved
end Go.Proofs.Ytccccclnfimcoaa.frameBack
