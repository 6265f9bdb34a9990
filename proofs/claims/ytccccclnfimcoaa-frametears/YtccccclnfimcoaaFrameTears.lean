/-
  Proved: torn anywhere: records that are cut short at any byte are the first ones of them, just those that are whole, and so many bytes as these have (5.3). Conditions: none.
  The frame below the walk follows the guide's program (proof-skeleton), by hand for slices of rows; the walk is by hand.
-/
import Derived.Test.YtccccclnfimcoaaRows
import Derived.Test.YtccccclnfimcoaaTorn
import Derived.WalkKit
import Derived.ProofKit
import Derived.OpenShut
import Derived.ShutString
import Derived.ChangeOld
import Derived.Below
import Derived.SizedLaws
import Derived.Deep.RegionHeld3
namespace Go.Proofs.Ytccccclnfimcoaa.frameTears
open Go.ChangeShapes Go.WideShapes Go.ChangeAt Go.RowKit Crc
set_option linter.unusedVariables false

theorem own : ownKnob Try.prog.godebug = none := by kernel_rfl
theorem laidOut : laidOutB Try.prog = true := by kernel_rfl

set_option maxRecDepth 100000 in
set_option maxHeartbeats 2000000 in
theorem walk (a0 : Option Addr) (len0 cap0 : Nat) (z0 : List Row) (a1 : Int) (w : World) (w0 : RowsV w (.slice a0 len0 cap0) z0 ∧ ∀ i, i < z0.length → (z0.getD i []).length ≤ 1000000000000000) (w1 : (Lit.int .i64 a1).wf = true) :
    Calls Try.prog 6 #[.slice a0 len0 cap0, .int .i64 a1] w fun e w' => e = .returned (.bool true) ∧ Below w.heap.size w w' := by
  have HW : Hid (∀ w', Below w.heap.size w w' → Calls Try.prog 9 #[] w' fun e w2 => e = .returned (.bool true) ∧ Below w.heap.size w w2) := works_on w
  have HR : Hid (RowsV w (.slice a0 len0 cap0) z0) := w0.1
  have HLi : Hid (Calls Try.prog 16 #[.slice a0 len0 cap0] w fun e w' => e = .returned (.bool (lightB z0)) ∧ w' = w) := light_any _ _ _ w0.1 w0.2
  clear w0
  by_cases hli : lightB z0 = true
  case neg =>
    have hli' : lightB z0 = false := by simpa using hli
    clear hli
    rw [hli'] at HLi
    clear hli'
    go_enter Try.func6, Try.ntmps6
    go_wp2_with (first
      | (go_at_call 16; refine HLi.out.mono ?_; rintro e w1 ⟨rfl, hw⟩; have hw2 := hw.symm; clear hw; subst hw2)
      | (go_at_call 9; refine (HW.out _ (Below.refl _ _)).mono ?_; rintro e w2 ⟨rfl, hB⟩))
    go_ret
    exact ⟨rfl, hB⟩
  case pos =>
    have HG : Hid (Light z0) := light_of hli
    rw [hli] at HLi
    clear hli
    obtain ⟨L, hL⟩ : ∃ L, (recds z0).length = L := ⟨_, rfl⟩
    have hLs : L ≤ 2000 := by rw [← hL, recds_tot]; have := HG.out.1; have := HG.out.2; omega
    have HWr : Hid (Calls Try.prog 17 #[.slice a0 len0 cap0] w fun e w' => ∃ a c, e = .returned (.slice a L c) ∧ Owns w' w.heap.size (.slice a L c) (recds z0) ∧ Below w.heap.size w w') := by
      have := written_any _ _ _ HR.out HG.out
      rwa [hL] at this
    have HLL : Hid ((recds z0).length = L) := hL
    clear hL
    obtain ⟨U, hu⟩ : ∃ U : Nat, IntKind.u64.wrap a1 = (U : Int) := ⟨(IntKind.u64.wrap a1).toNat, by rw [IntKind.wrap_u64]; omega⟩
    obtain ⟨K, hK⟩ : ∃ K, U % (L + 1) = K := ⟨_, rfl⟩
    have hKL : K ≤ L := by rw [← hK]; exact Nat.le_of_lt_succ (Nat.mod_lt _ (by omega))
    have ht : (U : Int).tmod ((L : Int) + 1) = (K : Int) := by
      rw [← hK]
      rw [Int.tmod_eq_emod_of_nonneg (by omega)]
      simp
    clear hK w1
    obtain ⟨rs, n, hs⟩ := scans_ex ((recds z0).take K).length ((recds z0).take K) (Nat.le_refl _)
    obtain ⟨hnK, hcut⟩ := scans_cut hs
    obtain ⟨htk, hwh, hXZ⟩ := scans_torn HG.out.short hs
    have HGr : Hid (Light rs) := by rw [htk]; exact HG.out.take _
    obtain ⟨X, hX⟩ : ∃ X, rs.length = X := ⟨_, rfl⟩
    have hZ : z0.length = len0 := HR.out.len.1
    rw [hX] at htk hwh hXZ
    rw [hZ] at hwh hXZ
    have HTk : Hid (z0.take X = rs ∧ (recds z0).take n = recds rs ∧ rs.length = X ∧ (recds rs).length = n) := ⟨htk.symm, hcut, hX, hs.len.symm⟩
    have HSc : Hid (∀ w' p d, ReadsV w' (.slice p L d) (recds z0) → Calls Try.prog 13 #[.slice p K d] w' fun e w2 => ∃ a c, e = .returned (.tuple #[.slice a X c, .int .i64 (n : Nat)]) ∧ RowsV w2 (.slice a X c) rs ∧ Below w'.heap.size w' w2) := fun w' p d hr => by
      refine (scan_is _ _ _ _ w' (hr.front hKL) (by rw [List.length_take, HLL.out]; omega) hs).mono fun e w2 ⟨a, c, he, hR, h2⟩ => ?_
      rw [hX] at he hR
      exact ⟨a, c, he, hR, h2⟩
    have HWr2 : Hid (∀ w' p d, RowsV w' (.slice p X d) rs → Calls Try.prog 17 #[.slice p X d] w' fun e w2 => ∃ v, e = .returned v ∧ ReadsV w2 v (recds rs) ∧ Below w'.heap.size w' w2) := fun w' p d hr =>
      (written_any _ _ w' hr HGr.out).mono fun e w2 ⟨a, c, he, ho, h2⟩ => ⟨_, he, ReadsV.of_own ho, h2⟩
    have hn1 : ¬ (K : Int) < (n : Int) := by omega
    have hx1 : ¬ (len0 : Int) < (X : Int) := by omega
    have hd1 : decide ((K : Int) < (n : Int)) = false := decide_eq_false hn1
    have hd2 : decide ((len0 : Int) < (X : Int)) = false := decide_eq_false hx1
    have hd3 : decide (K < n) = false := decide_eq_false (by omega)
    have hd4 : decide (len0 < X) = false := decide_eq_false (by omega)
    have hlc : len0 ≤ cap0 := HR.out.len.2.1
    have hlx : X ≤ cap0 := by omega
    have hly : (X : Int) ≤ (cap0 : Int) := by omega
    clear hX hZ hcut htk hs
    have hl60 : len0 ≤ 60 := by have := HG.out.1; rw [HR.out.len.1] at this; exact this
    by_cases hfull : X = len0
    · subst hfull
      clear hwh hXZ
      go_enter Try.func6, Try.ntmps6
      go_wp2_with (first
        | (go_at_call 13; have := H1; refine (HSc.out _ _ _ (ReadsV.of_own H1.out.1)).mono ?_; rintro e w2 ⟨p2, d2, rfl, hR, hB⟩; have H2 : Hid (RowsV w2 (.slice p2 X d2) rs ∧ ReadsV w2 (.slice p1 L d1) (recds z0) ∧ RowsV w2 (.slice a0 X cap0) z0 ∧ Below w.heap.size w w2) := ⟨hR, (ReadsV.of_own H1.out.1).below hB, HR.out.below (H1.out.2.trans (hB.mono H1.out.2.size)), H1.out.2.trans (hB.mono H1.out.2.size)⟩; clear hR hB)
        | (go_at_call 17; refine HWr.out.mono ?_; rintro e w1 ⟨p1, d1, rfl, ho, hB⟩; have H1 : Hid (Owns w1 w.heap.size (.slice p1 L d1) (recds z0) ∧ Below w.heap.size w w1) := ⟨ho, hB⟩; have hd1 : L ≤ d1 := own_cap ho; have hd5 : n ≤ d1 := (by omega); have hd6 : (n : Int) ≤ (d1 : Int) := (by omega); clear ho hB)
        | (go_at_call 16; refine HLi.out.mono ?_; rintro e w1 ⟨rfl, hw⟩; have hw2 := hw.symm; clear hw; subst hw2))
      go_region_held3 (fun w' => True) (go_keep) (first
        | (go_at_call 11; have := H4; refine (same_yes _ _ (recds rs) _ H4.out.1 (rfront_is H4.out.2.1 (by omega) HTk.out.2.1)).mono ?_; rintro e w5 ⟨rfl, hw⟩; have H5 : Hid (Below w.heap.size w w5) := (show Below w.heap.size w w5 by rw [hw]; exact H4.out.2.2); clear hw)
        | (go_at_call 17; have := H3; refine (HWr2.out _ _ _ H3.out.1).mono ?_; rintro e w4 ⟨v4, rfl, hr, hB⟩; have H4 : Hid (ReadsV w4 v4 (recds rs) ∧ ReadsV w4 (.slice p1 L d1) (recds z0) ∧ Below w.heap.size w w4) := ⟨hr, H3.out.2.1.below hB, H3.out.2.2.trans (hB.mono H3.out.2.2.size)⟩; clear hr hB)
        | (go_at_call 15; refine (sameAll_yes _ _ rs _ (H2.out.1.below (Below.refl _ _).drew) (front_is (H2.out.2.2.1.below (Below.refl _ _).drew) (by omega) HTk.out.1)).mono ?_; rintro e w3 ⟨rfl, hB⟩; have H3 : Hid (RowsV w3 (.slice p2 X d2) rs ∧ ReadsV w3 (.slice p1 L d1) (recds z0) ∧ Below w.heap.size w w3) := drew_chain H2.out.1 H2.out.2.1 H2.out.2.2.2 hB; clear hB))
      all_goals
        go_wp2_with (go_at_call 9; refine (HW.out _ H5.out).mono ?_; rintro e w8 ⟨rfl, hB⟩)
        go_ret
        exact ⟨rfl, hB⟩
    · have hwh2 : K < n + 8 + (z0.getD X []).length := by
        rcases hwh with h | h
        · exact absurd h hfull
        · exact h
      clear hwh
      have hx2 : ¬ (X : Int) = (len0 : Int) := by omega
      obtain ⟨b0, off0, rfl, hb0, hc0⟩ := HR.out.cells (by omega)
      obtain ⟨ua, uc, hc, _⟩ := hc0 X (by omega)
      have hx600 : (z0.getD X []).length ≤ 600 := by have := tot_mem (getD_mem (rs := z0) (i := X) (by rw [HR.out.len.1]; omega)); have := HG.out.2; omega
      have HC : Hid (∀ w', Below w.heap.size w w' → w'.cell? ⟨b0, off0 + X, none⟩ = some (.slice ua (z0.getD X []).length uc)) := fun w' hB => (hB.cell (p := ⟨b0, off0 + X, none⟩) hb0).trans hc
      clear hc0 hc
      generalize (z0.getD X []).length = x at HC hx600 hwh2
      have hfin : (K : Int) < (n : Int) + 8 + (x : Int) := by omega
      go_enter Try.func6, Try.ntmps6
      go_wp2_with (first
        | (go_at_call 13; have := H1; refine (HSc.out _ _ _ (ReadsV.of_own H1.out.1)).mono ?_; rintro e w2 ⟨p2, d2, rfl, hR, hB⟩; have H2 : Hid (RowsV w2 (.slice p2 X d2) rs ∧ ReadsV w2 (.slice p1 L d1) (recds z0) ∧ RowsV w2 (.slice (some ⟨b0, off0, none⟩) len0 cap0) z0 ∧ Below w.heap.size w w2) := ⟨hR, (ReadsV.of_own H1.out.1).below hB, HR.out.below (H1.out.2.trans (hB.mono H1.out.2.size)), H1.out.2.trans (hB.mono H1.out.2.size)⟩; clear hR hB)
        | (go_at_call 17; refine HWr.out.mono ?_; rintro e w1 ⟨p1, d1, rfl, ho, hB⟩; have H1 : Hid (Owns w1 w.heap.size (.slice p1 L d1) (recds z0) ∧ Below w.heap.size w w1) := ⟨ho, hB⟩; have hd1 : L ≤ d1 := own_cap ho; have hd5 : n ≤ d1 := (by omega); have hd6 : (n : Int) ≤ (d1 : Int) := (by omega); clear ho hB)
        | (go_at_call 16; refine HLi.out.mono ?_; rintro e w1 ⟨rfl, hw⟩; have hw2 := hw.symm; clear hw; subst hw2))
      go_region_held3 (fun w' => True) (go_keep) (first
        | (go_at_call 11; have := H4; refine (same_yes _ _ (recds rs) _ H4.out.1 (rfront_is H4.out.2.1 (by omega) HTk.out.2.1)).mono ?_; rintro e w5 ⟨rfl, hw⟩; have H5 : Hid (Below w.heap.size w w5) := (show Below w.heap.size w w5 by rw [hw]; exact H4.out.2.2); clear hw)
        | (go_at_call 17; have := H3; refine (HWr2.out _ _ _ H3.out.1).mono ?_; rintro e w4 ⟨v4, rfl, hr, hB⟩; have H4 : Hid (ReadsV w4 v4 (recds rs) ∧ ReadsV w4 (.slice p1 L d1) (recds z0) ∧ Below w.heap.size w w4) := ⟨hr, H3.out.2.1.below hB, H3.out.2.2.trans (hB.mono H3.out.2.2.size)⟩; clear hr hB)
        | (go_at_call 15; refine (sameAll_yes _ _ rs _ (H2.out.1.below (Below.refl _ _).drew) (front_is (H2.out.2.2.1.below (Below.refl _ _).drew) (by omega) HTk.out.1)).mono ?_; rintro e w3 ⟨rfl, hB⟩; have H3 : Hid (RowsV w3 (.slice p2 X d2) rs ∧ ReadsV w3 (.slice p1 L d1) (recds z0) ∧ Below w.heap.size w w3) := drew_chain H2.out.1 H2.out.2.1 H2.out.2.2.2 hB; clear hB))
      all_goals
        have f5 := HC.out _ H5.out
        go_wp2_with (go_at_call 9; refine (HW.out _ H5.out).mono ?_; rintro e w8 ⟨rfl, hB⟩)
        go_ret
        exact ⟨rfl, hB⟩

set_option maxRecDepth 100000 in
theorem lifted (os : Os) (started : os.Started) (H : Type) (enc : TypeId × Value → H) :
    ReturnsInHanded {} Try.checked os 6 .any (Rows.frameTearsSpec.pre6 enc Try.prog Try.f6 Rows.frameTearsRow.domain false) (Rows.frameTearsSpec.post enc Try.prog Try.f6 false true false false) := by
  refine returnsInHanded_of_change_sized (C := Try.checked) own started (by kernel_rfl) Try.func6
    (ChangeSpec.witness6 (enc := enc) (C := Try.checked) false ⟨#[], #[.slice none 0 0, .int .i64 0], []⟩ 8 (by kernel_rfl) (by kernel_rfl) (by kernel_rfl) (by kernel_rfl)) ?_
  intro W base args ds gs before hval0 hW hcnd hsz0 _
  have hval : ∀ (j : Nat) t v, Try.f6.params[j]? = some t → args[j]? = some v → Value.okWide Try.prog W .any base t v := hval0
  have hsz : (DataW.weightsEach Try.prog (Try.f6.params.toList ++ Rows.frameTearsSpec.plain.varTypes Try.prog) (ds ++ gs)).all (· ≤ reachBytes) = true := hsz0
  have hW' := hW
  obtain ⟨p, q, hA0, hV, rfl, hfz, hnd⟩ := hW
  have hA : DataW.TrodAll enc Try.prog W 0 (fun _ => true) true Try.f6.params.toList args.toList ds p := hA0
  rw [Try.params6] at hA hval hsz
  obtain ⟨v0, vs0, d0, ds0, p0, q0, hargs, rfl, rfl, h0, r0⟩ := trodAll_cons hA
  obtain ⟨v1, vs1, d1, ds1, p1, q1, rfl, rfl, rfl, h1, r1⟩ := trodAll_cons r0
  obtain ⟨rfl, rfl, rfl⟩ := trodAll_nil r1
  obtain rfl : args = #[v0, v1] := by cases args; simp_all
  obtain ⟨rfl, rfl⟩ := trodVars_none hV
  obtain ⟨a0, len0, cap0, rfl⟩ := okWide_slice Try.underlying27 (hval 0 27 v0 rfl rfl)
  have k0 := h0
  have lt0 : ∀ x ∈ p0, x.block < W.heap.size := by obtain ⟨m, hm⟩ := k0; exact DataW.trod_lt m _ _ _ hm
  obtain ⟨z0, w0⟩ : ∃ rs, RowsV W (.slice a0 len0 cap0) rs ∧ ∀ i, i < rs.length → (rs.getD i []).length ≤ 1000000000000000 := by
    obtain ⟨fuel, hf⟩ := h0
    exact rows_of_trod (by simpa [Value.cells] using hf) (List.all_eq_true.2 (fun n hn => List.all_eq_true.1 hsz n (DataW.weights_mem_each (j := 0) rfl rfl n hn)))
  obtain ⟨a1, rfl, rfl, rfl, w1⟩ := open_int Try.underlying3 (hval 1 3 v1 rfl rfl) h1
  clear hA0 hval0 hsz hsz0
  refine (walk a0 len0 cap0 z0 a1 W w0 w1).mono fun e W' ⟨he, bel⟩ => ?_
  subst he
  exact ⟨_, rfl, _, _, _, [], _, [], hW', trodAll_mk1 (shut_bool Try.underlying4 _), (trodAll_cons_mk (Below.trod laidOut (by kernel_rfl) (of_decide_eq_true (by kernel_rfl)) k0 bel lt0) (trodAll_cons_mk (shut_int Try.underlying3 w1) trodAll_mk0)), rfl, bel.frame _, fun h => by cases h⟩

theorem over : Rows.frameTearsRow.holds Try.pinned (OpenSpec.ofChange Rows.frameTearsSpec) :=
  OpenClaim.holds_of_wide 6 Try.f6 rfl rfl rfl rfl rfl rfl rfl ⟨rfl, rfl, rfl, rfl, rfl⟩ rfl rfl rfl rfl rfl (by kernel_rfl) Try.func6 (by kernel_rfl)
    (of_decide_eq_true (by kernel_rfl)) (by unfold Func.isWrapper; first | (rw [if_pos (by decide +kernel)]; kernel_rfl) | (rw [if_neg (by decide +kernel)]; exact ⟨rfl, rfl⟩))
    (fun os started H enc _ => lifted os started H enc)

/-- ████ THE STATEMENT ████ -/
theorem proved : Rows.FrameTearsSaid := over
#print axioms proved
end Go.Proofs.Ytccccclnfimcoaa.frameTears
