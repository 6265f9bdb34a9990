/-
  Proved: a byte that is turned is never scanned as part of a record: at most the records ahead of it are told (5.3). Conditions: none.
  The frame below the walk follows the guide's program (proof-skeleton), by hand for slices of rows; the walk is by hand.
-/
import Derived.Test.YtccccclnfimcoaaRows
import Derived.Test.YtccccclnfimcoaaFlip
import Derived.WalkKit
import Derived.ProofKit
import Derived.OpenShut
import Derived.ShutString
import Derived.ChangeOld
import Derived.Below
import Derived.SizedLaws
import Derived.Deep.RegionHeld3
namespace Go.Proofs.Ytccccclnfimcoaa.frameFlips
open Go.ChangeShapes Go.WideShapes Go.ChangeAt Go.RowKit Crc
set_option linter.unusedVariables false

theorem own : ownKnob Try.prog.godebug = none := by kernel_rfl
theorem laidOut : laidOutB Try.prog = true := by kernel_rfl

set_option maxRecDepth 100000 in
set_option maxHeartbeats 1000000 in
theorem walk (a0 : Option Addr) (len0 cap0 : Nat) (z0 : List Row) (a1 : Int) (a2 : Int) (a3 : Int) (w : World) (w0 : RowsV w (.slice a0 len0 cap0) z0 ∧ ∀ i, i < z0.length → (z0.getD i []).length ≤ 1000000000000000) (w1 : (Lit.int .i64 a1).wf = true) (w2 : (Lit.int .i64 a2).wf = true) (w3 : (Lit.int .u8 a3).wf = true) :
    Calls Try.prog 7 #[.slice a0 len0 cap0, .int .i64 a1, .int .i64 a2, .int .u8 a3] w fun e w' => e = .returned (.bool true) ∧ Below w.heap.size w w' := by
  have HW : Hid (∀ w', Below w.heap.size w w' → Calls Try.prog 9 #[] w' fun e w2 => e = .returned (.bool true) ∧ Below w.heap.size w w2) := works_on w
  have HR : Hid (RowsV w (.slice a0 len0 cap0) z0) := w0.1
  have HLi : Hid (Calls Try.prog 16 #[.slice a0 len0 cap0] w fun e w' => e = .returned (.bool (lightB z0)) ∧ w' = w) := light_any _ _ _ w0.1 w0.2
  clear w0
  by_cases hli : lightB z0 = true
  case neg =>
    have hli' : lightB z0 = false := by simpa using hli
    clear hli
    rw [hli'] at HLi
    clear hli'
    go_enter Try.func7, Try.ntmps7
    go_wp2_with (first
      | (go_at_call 16; refine HLi.out.mono ?_; rintro e w1 ⟨rfl, hw⟩; have hw2 := hw.symm; clear hw; subst hw2)
      | (go_at_call 9; refine (HW.out _ (Below.refl _ _)).mono ?_; rintro e w2 ⟨rfl, hB⟩))
    go_ret
    exact ⟨rfl, hB⟩
  have HG : Hid (Light z0) := light_of hli
  rw [hli] at HLi
  clear hli
  by_cases hl0 : len0 = 0
  · subst hl0
    go_enter Try.func7, Try.ntmps7
    go_wp2_with (first
      | (go_at_call 16; refine HLi.out.mono ?_; rintro e w1 ⟨rfl, hw⟩; have hw2 := hw.symm; clear hw; subst hw2)
      | (go_at_call 9; refine (HW.out _ (Below.refl _ _)).mono ?_; rintro e w2 ⟨rfl, hB⟩))
    go_ret
    exact ⟨rfl, hB⟩
  by_cases hby : a3 = 0
  · subst hby
    have hl1 : ¬ (len0 : Int) = 0 := by omega
    go_enter Try.func7, Try.ntmps7
    go_wp2_with (first
      | (go_at_call 16; refine HLi.out.mono ?_; rintro e w1 ⟨rfl, hw⟩; have hw2 := hw.symm; clear hw; subst hw2)
      | (go_at_call 9; refine (HW.out _ (Below.refl _ _)).mono ?_; rintro e w2 ⟨rfl, hB⟩))
    go_ret
    exact ⟨rfl, hB⟩
  have hl1 : ¬ (len0 : Int) = 0 := by omega
  have hl60 : len0 ≤ 60 := by have := HG.out.1; rw [HR.out.len.1] at this; exact this
  have hlc : len0 ≤ cap0 := HR.out.len.2.1
  -- which record
  obtain ⟨U, hu⟩ : ∃ U : Nat, IntKind.u64.wrap a1 = (U : Int) := ⟨(IntKind.u64.wrap a1).toNat, by rw [IntKind.wrap_u64]; omega⟩
  obtain ⟨X, hX⟩ : ∃ X, U % len0 = X := ⟨_, rfl⟩
  have hXl : X < len0 := by rw [← hX]; exact Nat.mod_lt _ (by omega)
  have ht : (U : Int).tmod (len0 : Int) = (X : Int) := by
    rw [← hX, Int.tmod_eq_emod_of_nonneg (by omega)]
    simp
  clear hX
  obtain ⟨r, hr⟩ : ∃ r, z0.getD X [] = r := ⟨_, rfl⟩
  have hr600 : r.length ≤ 600 := by rw [← hr]; have := tot_mem (getD_mem (rs := z0) (i := X) (by rw [HR.out.len.1]; omega)); have := HG.out.2; omega
  obtain ⟨x, hx⟩ : ∃ x, r.length = x := ⟨_, rfl⟩
  rw [hx] at hr600
  -- which byte
  obtain ⟨V, hv⟩ : ∃ V : Nat, IntKind.u64.wrap a2 = (V : Int) := ⟨(IntKind.u64.wrap a2).toNat, by rw [IntKind.wrap_u64]; omega⟩
  obtain ⟨j, hj⟩ : ∃ j, V % (4 + x) = j := ⟨_, rfl⟩
  have hjl : j < 4 + x := by rw [← hj]; exact Nat.mod_lt _ (by omega)
  have ht2 : (V : Int).tmod (4 + (x : Int)) = (j : Int) := by
    rw [← hj, Int.tmod_eq_emod_of_nonneg (by omega)]
    simp
  clear hj
  obtain ⟨by8, hb8⟩ := byte_of w3
  have hb8' : a3 = B by8 := hb8
  clear hb8
  subst hb8'
  have hne : by8 ≠ 0#8 := fun e => hby (by rw [e]; rfl)
  obtain ⟨A, hA⟩ : ∃ A, (recds (z0.take X)).length = A := ⟨_, rfl⟩
  obtain ⟨L, hL⟩ : ∃ L, (recds z0).length = L := ⟨_, rfl⟩
  have hZ : X < z0.length := by rw [HR.out.len.1]; exact hXl
  obtain ⟨hkL, hs⟩ := flip_scans HG.out hZ hA (by rw [hr, hx]; exact hjl) hne
  rw [hL] at hkL
  have hLs : L ≤ 2000 := by rw [← hL, recds_tot]; have := HG.out.1; have := HG.out.2; omega
  have HLL : Hid ((recds z0).length = L ∧ (z0.take X).length = X) := ⟨hL, by rw [List.length_take]; omega⟩
  have HWa : Hid (Calls Try.prog 17 #[.slice a0 X cap0] w fun e w' => ∃ a c, e = .returned (.slice a A c) ∧ Below w.heap.size w w') := by
    have := written_any _ _ _ (HR.out.front (m := X) (by omega)) (HG.out.take X)
    rw [hA] at this
    exact this.mono fun e w' ⟨a, c, he, _, hB⟩ => ⟨a, c, he, hB⟩
  have HWb : Hid (∀ w1, Below w.heap.size w w1 → Calls Try.prog 17 #[.slice a0 len0 cap0] w1 fun e w' => ∃ a c, e = .returned (.slice a L c) ∧ ReadsV w' (.slice a L c) (recds z0) ∧ Below w.heap.size w w') := fun w1 hB => by
    have := written_any _ _ _ (HR.out.below hB) HG.out
    rw [hL] at this
    exact this.mono fun e w' ⟨a, c, he, ho, h2⟩ => ⟨a, c, he, ReadsV.of_own ho, hB.trans (h2.mono hB.size)⟩
  have HS : Hid (∀ w' v, ReadsV w' v ((recds z0).set (A + 4 + j) (nth (recds z0) (A + 4 + j) ^^^ by8)) → Calls Try.prog 13 #[v] w' fun e w2 => ∃ a c, e = .returned (.tuple #[.slice a X c, .int .i64 (A : Nat)]) ∧ RowsV w2 (.slice a X c) (z0.take X) ∧ Below w'.heap.size w' w2) := fun w' v hrd => by
    refine (scan_is _ _ _ _ w' hrd (by rw [List.length_set, HLL.out.1]; omega) hs).mono fun e w2 ⟨a, c, he, hR, h2⟩ => ?_
    rw [HLL.out.2] at he hR
    exact ⟨a, c, he, hR, h2⟩
  have HLe : Hid (([] : Row).length + (recds z0).length ≤ 140737488355328) := by
    show 0 + (recds z0).length ≤ _
    rw [HLL.out.1]; omega
  have HkL : Hid (A + 4 + j < (recds z0).length) := by show _ < _; rw [HLL.out.1]; exact hkL
  have HLp : Hid (0 < L) := by show 0 < L; omega
  obtain ⟨b0, off0, rfl, hb0, hc0⟩ := HR.out.cells (by omega)
  obtain ⟨ua, uc, hc, _⟩ := hc0 X hXl
  rw [hr, hx] at hc
  have HC : Hid (∀ w', Below w.heap.size w w' → w'.cell? ⟨b0, off0 + X, none⟩ = some (.slice ua x uc)) := fun w' hB => (hB.cell (p := ⟨b0, off0 + X, none⟩) hb0).trans hc
  clear hc0 hc hA hL hs hr hx hZ
  obtain ⟨y, hy⟩ : ∃ y, nth (recds z0) (A + 4 + j) = y := ⟨_, rfl⟩
  rw [hy] at HS
  have HY : Hid (nth (recds z0) (A + 4 + j) = y) := hy
  clear hy
  obtain ⟨ly, uy⟩ := B_range y
  obtain ⟨lb, ub⟩ := B_range by8
  have hxor := xor_B y by8
  have i1 : (X : Int) < (len0 : Int) := by omega
  have i2 : ¬ (L : Int) ≤ (A : Int) + 4 + (j : Int) := by omega
  have i3 : (A : Int) + 4 + (j : Int) < (L : Int) := by omega
  have hAL : A ≤ 2000 := by omega
  have hz1 : ((len0 : Int) == 0) = false := by rw [beq_eq_false_iff_ne]; omega
  have hz2 : (B by8 == 0) = false := by rw [beq_eq_false_iff_ne]; exact hby
  clear w1 w2 w3 hby
  go_enter Try.func7, Try.ntmps7
  go_wp2_with (first
    | (go_at_call 9; have := H6; refine (HW.out _ H6.out).mono ?_; rintro e w8 ⟨rfl, hB⟩)
    | (go_at_call 15; have := H5; refine (sameAll_yes _ _ (z0.take X) _ H5.out.1 ((HR.out.below H5.out.2).front (by omega))).mono ?_; rintro e w7 ⟨rfl, hB⟩; have H6 : Hid (Below w.heap.size w w7) := H5.out.2.trans (hB.mono H5.out.2.size); clear hB)
    | (go_at_call 13; have := H3; refine (HS.out _ _ (ReadsV.of_own H3.out.2.1)).mono ?_; rintro e w5 ⟨p5, d5, rfl, hR, hB⟩; have H5 : Hid (RowsV w5 (.slice p5 X d5) (z0.take X) ∧ Below w.heap.size w w5) := ⟨hR, H3.out.2.2.trans (hB.mono H3.out.2.2.size)⟩; clear hR hB H3)
    | (at_builtin; have := H2; go_loud (refine wpList_append_bytes rfl (.tmp 63) (.tmp 64) 22 rfl wb.heap.size Try.underlying22 Try.info5 _ [] rfl (Owns.nil _ _) _ (recds z0) rfl H2.out.1 HLe.out (Nat.le_refl _) ?_; intro v3 w3 hown hB; rw [List.nil_append] at hown; obtain ⟨g3, c3, hv3, hg3⟩ := own_shape hown HLL.out.1 HLp.out; subst hv3; have k3 := own_cell hown HLL.out.1 (k := A + 4 + j) HkL.out; rw [HY.out] at k3; obtain ⟨k3, f3⟩ := k3; have H3 : Hid (Owns w3 wb.heap.size (.slice (some ⟨g3, 0, none⟩) L c3) (recds z0) ∧ Owns (w3.setCell ⟨g3, A + 4 + j, none⟩ (.int .u8 (B (y ^^^ by8)))) wb.heap.size (.slice (some ⟨g3, 0, none⟩) L c3) ((recds z0).set (A + 4 + j) (y ^^^ by8)) ∧ Below w.heap.size w (w3.setCell ⟨g3, A + 4 + j, none⟩ (.int .u8 (B (y ^^^ by8))))) := ⟨hown, set_own hown HLL.out.1 _ _, H2.out.2.trans ((hB.setCell (p := ⟨g3, A + 4 + j, none⟩) hg3 _).mono H2.out.2.size)⟩; clear hown hB hg3 H2))
    | (go_at_call 17; have := H1; refine (HWb.out _ H1.out).mono ?_; rintro e wb ⟨p2, d2, rfl, hrd, hB⟩; have H2 : Hid (ReadsV wb (.slice p2 L d2) (recds z0) ∧ Below w.heap.size w wb) := ⟨hrd, hB⟩; have fx := HC.out _ hB; clear hrd hB)
    | (go_at_call 17; refine HWa.out.mono ?_; rintro e wa ⟨p1, d1, rfl, hB⟩; have H1 : Hid (Below w.heap.size w wa) := hB; clear hB)
    | (go_at_call 16; refine HLi.out.mono ?_; rintro e w1 ⟨rfl, hw⟩; have hw2 := hw.symm; clear hw; subst hw2))
  all_goals go_ret
  all_goals exact ⟨rfl, hB⟩

set_option maxRecDepth 100000 in
theorem lifted (os : Os) (started : os.Started) (H : Type) (enc : TypeId × Value → H) :
    ReturnsInHanded {} Try.checked os 7 .any (Rows.frameFlipsSpec.pre6 enc Try.prog Try.f7 Rows.frameFlipsRow.domain false) (Rows.frameFlipsSpec.post enc Try.prog Try.f7 false true false false) := by
  refine returnsInHanded_of_change_sized (C := Try.checked) own started (by kernel_rfl) Try.func7
    (ChangeSpec.witness6 (enc := enc) (C := Try.checked) false ⟨#[], #[.slice none 0 0, .int .i64 0, .int .i64 0, .int .u8 0], []⟩ 8 (by kernel_rfl) (by kernel_rfl) (by kernel_rfl) (by kernel_rfl)) ?_
  intro W base args ds gs before hval0 hW hcnd hsz0 _
  have hval : ∀ (j : Nat) t v, Try.f7.params[j]? = some t → args[j]? = some v → Value.okWide Try.prog W .any base t v := hval0
  have hsz : (DataW.weightsEach Try.prog (Try.f7.params.toList ++ Rows.frameFlipsSpec.plain.varTypes Try.prog) (ds ++ gs)).all (· ≤ reachBytes) = true := hsz0
  have hW' := hW
  obtain ⟨p, q, hA0, hV, rfl, hfz, hnd⟩ := hW
  have hA : DataW.TrodAll enc Try.prog W 0 (fun _ => true) true Try.f7.params.toList args.toList ds p := hA0
  rw [Try.params7] at hA hval hsz
  obtain ⟨v0, vs0, d0, ds0, p0, q0, hargs, rfl, rfl, h0, r0⟩ := trodAll_cons hA
  obtain ⟨v1, vs1, d1, ds1, p1, q1, rfl, rfl, rfl, h1, r1⟩ := trodAll_cons r0
  obtain ⟨v2, vs2, d2, ds2, p2, q2, rfl, rfl, rfl, h2, r2⟩ := trodAll_cons r1
  obtain ⟨v3, vs3, d3, ds3, p3, q3, rfl, rfl, rfl, h3, r3⟩ := trodAll_cons r2
  obtain ⟨rfl, rfl, rfl⟩ := trodAll_nil r3
  obtain rfl : args = #[v0, v1, v2, v3] := by cases args; simp_all
  obtain ⟨rfl, rfl⟩ := trodVars_none hV
  obtain ⟨a0, len0, cap0, rfl⟩ := okWide_slice Try.underlying27 (hval 0 27 v0 rfl rfl)
  have k0 := h0
  have lt0 : ∀ x ∈ p0, x.block < W.heap.size := by obtain ⟨m, hm⟩ := k0; exact DataW.trod_lt m _ _ _ hm
  obtain ⟨z0, w0⟩ : ∃ rs, RowsV W (.slice a0 len0 cap0) rs ∧ ∀ i, i < rs.length → (rs.getD i []).length ≤ 1000000000000000 := by
    obtain ⟨fuel, hf⟩ := h0
    exact rows_of_trod (by simpa [Value.cells] using hf) (List.all_eq_true.2 (fun n hn => List.all_eq_true.1 hsz n (DataW.weights_mem_each (j := 0) rfl rfl n hn)))
  obtain ⟨a1, rfl, rfl, rfl, w1⟩ := open_int Try.underlying3 (hval 1 3 v1 rfl rfl) h1
  obtain ⟨a2, rfl, rfl, rfl, w2⟩ := open_int Try.underlying3 (hval 2 3 v2 rfl rfl) h2
  obtain ⟨a3, rfl, rfl, rfl, w3⟩ := open_int Try.underlying5 (hval 3 5 v3 rfl rfl) h3
  clear hA0 hval0 hsz hsz0
  refine (walk a0 len0 cap0 z0 a1 a2 a3 W w0 w1 w2 w3).mono fun e W' ⟨he, bel⟩ => ?_
  subst he
  exact ⟨_, rfl, _, _, _, [], _, [], hW', trodAll_mk1 (shut_bool Try.underlying4 _), (trodAll_cons_mk (Below.trod laidOut (by kernel_rfl) (of_decide_eq_true (by kernel_rfl)) k0 bel lt0) (trodAll_cons_mk (shut_int Try.underlying3 w1) (trodAll_cons_mk (shut_int Try.underlying3 w2) (trodAll_cons_mk (shut_int Try.underlying5 w3) trodAll_mk0)))), rfl, bel.frame _, fun h => by cases h⟩

theorem over : Rows.frameFlipsRow.holds Try.pinned (OpenSpec.ofChange Rows.frameFlipsSpec) :=
  OpenClaim.holds_of_wide 7 Try.f7 rfl rfl rfl rfl rfl rfl rfl ⟨rfl, rfl, rfl, rfl, rfl⟩ rfl rfl rfl rfl rfl (by kernel_rfl) Try.func7 (by kernel_rfl)
    (of_decide_eq_true (by kernel_rfl)) (by unfold Func.isWrapper; first | (rw [if_pos (by decide +kernel)]; kernel_rfl) | (rw [if_neg (by decide +kernel)]; exact ⟨rfl, rfl⟩))
    (fun os started H enc _ => lifted os started H enc)

/-- ████ THE STATEMENT ████ -/
theorem proved : Rows.FrameFlipsSaid := over
#print axioms proved
end Go.Proofs.Ytccccclnfimcoaa.frameFlips
