/-
  Proved: for every point of two int8, every number of parts and every factor from 1 to 200 the law CompassScales (how far a point lies plays no part for where it belongs) returns true. Conditions: none.
  The frame below the walk was written by the guide's program (proof-skeleton); the walk is by hand.
-/
import Derived.Test.YtakahpfeajjaaaaRows
import Derived.Test.YtakahpfeajjaaaaLaps
import Derived.WalkKit
import Derived.ProofKit
import Derived.OpenShut
import Derived.ShutString
namespace Go.Proofs.Ytakahpfeajjaaaa.compassScales
open Go.ChangeShapes Go.WideShapes Go.ChangeAt Go.RowKit
open Go.ChangeMaps (open_string shut_string)
set_option linter.unusedVariables false      -- a walk need not use every 'w<i>' (that an integer argument fits its kind)

theorem own : ownKnob Try.prog.godebug = none := by kernel_rfl

theorem prod_range {a k : Int} (h0 : -128 ≤ a) (h1 : a ≤ 127) (k0 : 1 ≤ k) (k1 : k ≤ 200) : -25600 ≤ a * k ∧ a * k ≤ 25600 := by
  have e1 : -128 * k ≤ a * k := Int.mul_le_mul_of_nonneg_right h0 (by omega)
  have e2 : a * k ≤ 127 * k := Int.mul_le_mul_of_nonneg_right h1 (by omega)
  omega

/-! ### STEP 1: THE WALK: the Go text returns true. 'Grown w w'': the world has at most new blocks (Derived/RowKit3.lean). Part the cases AHEAD of 'go_enter' where a test parts the walk; take each callee by a contract of your own. -/
set_option maxRecDepth 100000 in
set_option maxHeartbeats 1000000 in
theorem walk (a0 : Int) (a1 : Int) (a2 : Int) (a3 : Int) (w0 : (Lit.int .i8 a0).wf = true) (w1 : (Lit.int .i8 a1).wf = true) (w2 : (Lit.int .i64 a2).wf = true) (w3 : (Lit.int .u8 a3).wf = true) (w : World) :
    Calls Try.prog 8 #[.int .i8 a0, .int .i8 a1, .int .i64 a2, .int .u8 a3] w fun e w' => e = .returned (.bool true) ∧ Grown w w' := by
  have b0 := bounds_i8 w0
  have b1 := bounds_i8 w1
  have b3 := bounds_u8 w3
  have p0 := prod_range (k := 1 + a3 % 200) b0.1 b0.2 (by omega) (by omega)
  have p1 := prod_range (k := 1 + a3 % 200) b1.1 b1.2 (by omega) (by omega)
  have hA := at_of a0 a1 (by omega) (by omega)
  have hB := at_of (a0 * (1 + a3 % 200)) (a1 * (1 + a3 % 200)) (by omega) (by omega)
  have HT : Hid (∀ w, Calls Try.prog 15 #[.int .i16 a0, .int .i16 a1] w fun e w' => e = .returned (.complex .f64 (floatOfInt .f64 a0) (floatOfInt .f64 a1)) ∧ w' = w) := at_any a0 a1
  have HU : Hid (∀ w, Calls Try.prog 15 #[.int .i16 (a0 * (1 + a3 % 200)), .int .i16 (a1 * (1 + a3 % 200))] w fun e w' => e = .returned (.complex .f64 (floatOfInt .f64 (a0 * (1 + a3 % 200))) (floatOfInt .f64 (a1 * (1 + a3 % 200)))) ∧ w' = w) := at_any _ _
  generalize floatOfInt .f64 a0 = x at *
  generalize floatOfInt .f64 a1 = y at *
  generalize floatOfInt .f64 (a0 * (1 + a3 % 200)) = x1 at *
  generalize floatOfInt .f64 (a1 * (1 + a3 % 200)) = y1 at *
  have P1 : Hid (∀ w, Calls Try.prog 21 #[.complex .f64 x y, .int .i64 a2] w fun e w' => e = .returned (.tuple #[.int .i64 (pt a0 a1 a2), .int .i64 (pe a2)]) ∧ w' = w) := part_any x y a0 a1 a2 hA
  have P2 : Hid (∀ w, Calls Try.prog 21 #[.complex .f64 x1 y1, .int .i64 a2] w fun e w' => e = .returned (.tuple #[.int .i64 (pt a0 a1 a2), .int .i64 (pe a2)]) ∧ w' = w) := by
    intro w
    have h := part_any x1 y1 _ _ a2 hB w
    rw [far a0 a1 a2 (1 + a3 % 200) (by omega)] at h
    exact h
  have v0 := pt_pos a0 a1 a2
  have HV : Hid (1 ≤ a2 ∧ a2 ≤ 64 → pt a0 a1 a2 < a2) := pt_below a0 a1 a2
  clear hA hB w0 w1 w2 w3
  generalize pt a0 a1 a2 = V at *
  by_cases hn : 1 ≤ a2 ∧ a2 ≤ 64
  · have v1 := HV.out hn
    have he : pe a2 = 0 := if_pos hn
    rw [he] at P1 P2
    clear he hn
    go_enter Try.func8, Try.ntmps8
    go_wp2_with (first
      | (go_at_call 9; refine (works_any _).mono ?_; rintro e w' ⟨rfl, rfl⟩)
      | (go_at_call 15; have := D1; refine (HU.out _).mono ?_; rintro e w' ⟨rfl, rfl⟩)
      | (go_at_call 15; refine (HT.out _).mono ?_; rintro e w' ⟨rfl, rfl⟩)
      | (go_at_call 21; have := D1; refine (P2.out _).mono ?_; rintro e w' ⟨rfl, rfl⟩)
      | (go_at_call 21; refine (P1.out _).mono ?_; rintro e w' ⟨rfl, rfl⟩; have D1 : Hid True := trivial))
    go_ret
    exact ⟨rfl, Grown.refl _⟩
  · have he : pe a2 = 2 := if_neg hn
    rw [he] at P1 P2
    clear he hn
    go_enter Try.func8, Try.ntmps8
    go_wp2_with (first
      | (go_at_call 9; refine (works_any _).mono ?_; rintro e w' ⟨rfl, rfl⟩)
      | (go_at_call 15; have := D1; refine (HU.out _).mono ?_; rintro e w' ⟨rfl, rfl⟩)
      | (go_at_call 15; refine (HT.out _).mono ?_; rintro e w' ⟨rfl, rfl⟩)
      | (go_at_call 21; have := D1; refine (P2.out _).mono ?_; rintro e w' ⟨rfl, rfl⟩)
      | (go_at_call 21; refine (P1.out _).mono ?_; rintro e w' ⟨rfl, rfl⟩; have D1 : Hid True := trivial))
    go_ret
    exact ⟨rfl, Grown.refl _⟩

/-! ### THE ROW's STEP: WRITTEN OUT: LEAVE IT -/
set_option maxRecDepth 100000 in
theorem lifted (os : Os) (started : os.Started) (H : Type) (enc : TypeId × Value → H) :
    ReturnsInHanded {} Try.checked os 8 .any (Rows.compassScalesSpec.pre6 enc Try.prog Try.f8 Rows.compassScalesRow.domain false) (Rows.compassScalesSpec.post enc Try.prog Try.f8 false true false false) := by
  refine returnsInHanded_of_change (C := Try.checked) own started (by kernel_rfl) Try.func8
    (ChangeSpec.witness6 (enc := enc) (C := Try.checked) false ⟨#[], #[.int .i8 0, .int .i8 0, .int .i64 0, .int .u8 0], []⟩ 8 (by kernel_rfl) (by kernel_rfl) (by kernel_rfl) (by kernel_rfl)) ?_
  intro W base args ds gs before hval0 hW hcnd _
  have hval : ∀ (j : Nat) t v, Try.f8.params[j]? = some t → args[j]? = some v → Value.okWide Try.prog W .any base t v := hval0
  have hW' := hW
  obtain ⟨p, q, hA0, hV, rfl, hfz, hnd⟩ := hW
  have hA : DataW.TrodAll enc Try.prog W 0 (fun _ => true) true Try.f8.params.toList args.toList ds p := hA0
  rw [Try.params8] at hA hval
  obtain ⟨v0, vs0, d0, ds0, p0, q0, hargs, rfl, rfl, h0, r0⟩ := trodAll_cons hA
  obtain ⟨v1, vs1, d1, ds1, p1, q1, rfl, rfl, rfl, h1, r1⟩ := trodAll_cons r0
  obtain ⟨v2, vs2, d2, ds2, p2, q2, rfl, rfl, rfl, h2, r2⟩ := trodAll_cons r1
  obtain ⟨v3, vs3, d3, ds3, p3, q3, rfl, rfl, rfl, h3, r3⟩ := trodAll_cons r2
  obtain ⟨rfl, rfl, rfl⟩ := trodAll_nil r3
  obtain rfl : args = #[v0, v1, v2, v3] := by cases args; simp_all
  obtain ⟨rfl, rfl⟩ := trodVars_none hV
  obtain ⟨a0, rfl, rfl, rfl, w0⟩ := open_int Try.underlying48 (hval 0 48 v0 rfl rfl) h0
  obtain ⟨a1, rfl, rfl, rfl, w1⟩ := open_int Try.underlying48 (hval 1 48 v1 rfl rfl) h1
  obtain ⟨a2, rfl, rfl, rfl, w2⟩ := open_int Try.underlying3 (hval 2 3 v2 rfl rfl) h2
  obtain ⟨a3, rfl, rfl, rfl, w3⟩ := open_int Try.underlying5 (hval 3 5 v3 rfl rfl) h3
  clear hA0 hval0
  simp only [List.append_nil] at hW'
  refine (walk a0 a1 a2 a3 w0 w1 w2 w3 W).mono fun e W' ⟨he, hg⟩ => ?_
  subst he
  exact ⟨_, rfl, post_of_same (pa := []) (pv := []) hW' (fun _ _ _ => (trodAll_cons_mk (shut_bool Try.underlying4 _) trodAll_mk0)) (fun sp _ => (trodAll_cons_mk (shut_int Try.underlying48 w0) (trodAll_cons_mk (shut_int Try.underlying48 w1) (trodAll_cons_mk (shut_int Try.underlying3 w2) (trodAll_cons_mk (shut_int Try.underlying5 w3) trodAll_mk0))))) (fun _ _ => rfl) rfl
    (hg.frame _) hg.2.1 (ok_one (by kernel_rfl) rfl (okWide_bool_mk Try.underlying4 _))⟩

theorem over : Rows.compassScalesRow.holds Try.pinned (OpenSpec.ofChange Rows.compassScalesSpec) :=
  OpenClaim.holds_of_wide 8 Try.f8 rfl rfl rfl rfl rfl rfl rfl ⟨rfl, rfl, rfl, rfl, rfl⟩ rfl rfl rfl rfl rfl (by kernel_rfl) Try.func8 (by kernel_rfl)
    (of_decide_eq_true (by kernel_rfl)) (by unfold Func.isWrapper; first | (rw [if_pos (by decide +kernel)]; kernel_rfl) | (rw [if_neg (by decide +kernel)]; exact ⟨rfl, rfl⟩))
    (fun os started H enc _ => lifted os started H enc)

/-- ████ THE STATEMENT ████ -/
theorem proved : Rows.CompassScalesSaid :=
  over
#print axioms proved
end Go.Proofs.Ytakahpfeajjaaaa.compassScales
