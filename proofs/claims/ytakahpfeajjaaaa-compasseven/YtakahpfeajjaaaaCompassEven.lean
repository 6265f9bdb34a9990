/-
  Proved: for every point of two int16 and every number of parts that four divides, up to 64, the law CompassEven (a point turned by a quarter lies a quarter of the parts on) returns true. Conditions: none.
  The frame below the walk was written by the guide's program (proof-skeleton); the walk is by hand.
-/
import Derived.Test.YtakahpfeajjaaaaRows
import Derived.Test.YtakahpfeajjaaaaLaps
import Derived.WalkKit
import Derived.ProofKit
import Derived.OpenShut
import Derived.ShutString
namespace Go.Proofs.Ytakahpfeajjaaaa.compassEven
open Go.ChangeShapes Go.WideShapes Go.ChangeAt Go.RowKit
open Go.ChangeMaps (open_string shut_string)
set_option linter.unusedVariables false      -- a walk need not use every 'w<i>' (that an integer argument fits its kind)

theorem own : ownKnob Try.prog.godebug = none := by kernel_rfl

/-! ### STEP 1: THE WALK: the Go text returns true. 'Grown w w'': the world has at most new blocks (Derived/RowKit3.lean). Part the cases AHEAD of 'go_enter' where a test parts the walk; take each callee by a contract of your own. -/
set_option maxRecDepth 100000 in
set_option maxHeartbeats 1000000 in
theorem walk (a0 : Int) (a1 : Int) (a2 : Int) (w0 : (Lit.int .i16 a0).wf = true) (w1 : (Lit.int .i16 a1).wf = true) (w2 : (Lit.int .u8 a2).wf = true) (w : World) :
    Calls Try.prog 7 #[.int .i16 a0, .int .i16 a1, .int .u8 a2] w fun e w' => e = .returned (.bool true) ∧ Grown w w' := by
  have b0 := bounds_i16 w0
  have b1 := bounds_i16 w1
  have b2 := bounds_u8 w2
  by_cases hz : a0 = 0 ∧ a1 = 0
  · obtain ⟨rfl, rfl⟩ := hz
    clear w0 w1 w2 b0 b1
    go_enter Try.func7, Try.ntmps7
    go_wp2_with (go_at_call 9; refine (works_any _).mono ?_; rintro e w' ⟨rfl, rfl⟩)
    go_ret
    exact ⟨rfl, Grown.refl _⟩
  have hA := at_of a0 a1 (by omega) (by omega)
  have HT : Hid (∀ w, Calls Try.prog 15 #[.int .i16 a0, .int .i16 a1] w fun e w' => e = .returned (.complex .f64 (floatOfInt .f64 a0) (floatOfInt .f64 a1)) ∧ w' = w) := at_any a0 a1
  generalize floatOfInt .f64 a0 = x at *
  generalize floatOfInt .f64 a1 = y at *
  have hB : At (tx 1 x y) (ty 1 x y) (-a1) a0 := turn_is 1 hA
  have HU : Hid (∀ w, Calls Try.prog 16 #[.complex .f64 x y, .int .i64 1] w fun e w' => e = .returned (.complex .f64 (tx 1 x y) (ty 1 x y)) ∧ w' = w) := turn_any x y a0 a1 1 hA
  generalize tx 1 x y = x1 at *
  generalize ty 1 x y = y1 at *
  obtain ⟨v1, v2, v3⟩ := even a0 a1 (1 + a2 % 16) hz (by omega) (by omega)
  have hn : 1 ≤ 4 * (1 + a2 % 16) ∧ 4 * (1 + a2 % 16) ≤ 64 := by omega
  have P1 : Hid (∀ w, Calls Try.prog 21 #[.complex .f64 x y, .int .i64 (4 * (1 + a2 % 16))] w fun e w' => e = .returned (.tuple #[.int .i64 (pv a0 a1 (4 * (1 + a2 % 16))), .int .i64 0]) ∧ w' = w) := by
    intro w
    have h := part_any x y a0 a1 (4 * (1 + a2 % 16)) hA w
    rw [(pt_in (a := a0) (b := a1) hn).1, (pt_in (a := a0) (b := a1) hn).2] at h
    exact h
  have P2 : Hid (∀ w, Calls Try.prog 21 #[.complex .f64 x1 y1, .int .i64 (4 * (1 + a2 % 16))] w fun e w' => e = .returned (.tuple #[.int .i64 (pv (-a1) a0 (4 * (1 + a2 % 16))), .int .i64 0]) ∧ w' = w) := by
    intro w
    have h := part_any x1 y1 (-a1) a0 (4 * (1 + a2 % 16)) hB w
    rw [(pt_in (a := -a1) (b := a0) hn).1, (pt_in (a := -a1) (b := a0) hn).2] at h
    exact h
  generalize pv a0 a1 (4 * (1 + a2 % 16)) = X at *
  generalize pv (-a1) a0 (4 * (1 + a2 % 16)) = Y at *
  subst v1
  clear hA hB hn w0 w1 w2
  by_cases e0 : a0 = 0
  · have e1 : (a1 == 0) = false := by
      have : a1 ≠ 0 := fun f => hz ⟨e0, f⟩
      simp [this]
    subst e0
    clear hz
    go_enter Try.func7, Try.ntmps7
    go_wp2_with (first
      | (go_at_call 9; refine (works_any _).mono ?_; rintro e w' ⟨rfl, rfl⟩)
      | (go_at_call 15; refine (HT.out _).mono ?_; rintro e w' ⟨rfl, rfl⟩)
      | (go_at_call 16; refine (HU.out _).mono ?_; rintro e w' ⟨rfl, rfl⟩)
      | (go_at_call 21; have := D1; refine (P2.out _).mono ?_; rintro e w' ⟨rfl, rfl⟩)
      | (go_at_call 21; refine (P1.out _).mono ?_; rintro e w' ⟨rfl, rfl⟩; have D1 : Hid True := trivial))
    go_ret
    exact ⟨rfl, Grown.refl _⟩
  · have e1 : (a0 == 0) = false := by simp [e0]
    clear hz e0
    go_enter Try.func7, Try.ntmps7
    go_wp2_with (first
      | (go_at_call 9; refine (works_any _).mono ?_; rintro e w' ⟨rfl, rfl⟩)
      | (go_at_call 15; refine (HT.out _).mono ?_; rintro e w' ⟨rfl, rfl⟩)
      | (go_at_call 16; refine (HU.out _).mono ?_; rintro e w' ⟨rfl, rfl⟩)
      | (go_at_call 21; have := D1; refine (P2.out _).mono ?_; rintro e w' ⟨rfl, rfl⟩)
      | (go_at_call 21; refine (P1.out _).mono ?_; rintro e w' ⟨rfl, rfl⟩; have D1 : Hid True := trivial))
    go_ret
    exact ⟨rfl, Grown.refl _⟩

/-! ### THE ROW's STEP: WRITTEN OUT: LEAVE IT -/
set_option maxRecDepth 100000 in
theorem lifted (os : Os) (started : os.Started) (H : Type) (enc : TypeId × Value → H) :
    ReturnsInHanded {} Try.checked os 7 .any (Rows.compassEvenSpec.pre6 enc Try.prog Try.f7 Rows.compassEvenRow.domain false) (Rows.compassEvenSpec.post enc Try.prog Try.f7 false true false false) := by
  refine returnsInHanded_of_change (C := Try.checked) own started (by kernel_rfl) Try.func7
    (ChangeSpec.witness6 (enc := enc) (C := Try.checked) false ⟨#[], #[.int .i16 0, .int .i16 0, .int .u8 0], []⟩ 8 (by kernel_rfl) (by kernel_rfl) (by kernel_rfl) (by kernel_rfl)) ?_
  intro W base args ds gs before hval0 hW hcnd _
  have hval : ∀ (j : Nat) t v, Try.f7.params[j]? = some t → args[j]? = some v → Value.okWide Try.prog W .any base t v := hval0
  have hW' := hW
  obtain ⟨p, q, hA0, hV, rfl, hfz, hnd⟩ := hW
  have hA : DataW.TrodAll enc Try.prog W 0 (fun _ => true) true Try.f7.params.toList args.toList ds p := hA0
  rw [Try.params7] at hA hval
  obtain ⟨v0, vs0, d0, ds0, p0, q0, hargs, rfl, rfl, h0, r0⟩ := trodAll_cons hA
  obtain ⟨v1, vs1, d1, ds1, p1, q1, rfl, rfl, rfl, h1, r1⟩ := trodAll_cons r0
  obtain ⟨v2, vs2, d2, ds2, p2, q2, rfl, rfl, rfl, h2, r2⟩ := trodAll_cons r1
  obtain ⟨rfl, rfl, rfl⟩ := trodAll_nil r2
  obtain rfl : args = #[v0, v1, v2] := by cases args; simp_all
  obtain ⟨rfl, rfl⟩ := trodVars_none hV
  obtain ⟨a0, rfl, rfl, rfl, w0⟩ := open_int Try.underlying31 (hval 0 31 v0 rfl rfl) h0
  obtain ⟨a1, rfl, rfl, rfl, w1⟩ := open_int Try.underlying31 (hval 1 31 v1 rfl rfl) h1
  obtain ⟨a2, rfl, rfl, rfl, w2⟩ := open_int Try.underlying5 (hval 2 5 v2 rfl rfl) h2
  clear hA0 hval0
  simp only [List.append_nil] at hW'
  refine (walk a0 a1 a2 w0 w1 w2 W).mono fun e W' ⟨he, hg⟩ => ?_
  subst he
  exact ⟨_, rfl, post_of_same (pa := []) (pv := []) hW' (fun _ _ _ => (trodAll_cons_mk (shut_bool Try.underlying4 _) trodAll_mk0)) (fun sp _ => (trodAll_cons_mk (shut_int Try.underlying31 w0) (trodAll_cons_mk (shut_int Try.underlying31 w1) (trodAll_cons_mk (shut_int Try.underlying5 w2) trodAll_mk0)))) (fun _ _ => rfl) rfl
    (hg.frame _) hg.2.1 (ok_one (by kernel_rfl) rfl (okWide_bool_mk Try.underlying4 _))⟩

theorem over : Rows.compassEvenRow.holds Try.pinned (OpenSpec.ofChange Rows.compassEvenSpec) :=
  OpenClaim.holds_of_wide 7 Try.f7 rfl rfl rfl rfl rfl rfl rfl ⟨rfl, rfl, rfl, rfl, rfl⟩ rfl rfl rfl rfl rfl (by kernel_rfl) Try.func7 (by kernel_rfl)
    (of_decide_eq_true (by kernel_rfl)) (by unfold Func.isWrapper; first | (rw [if_pos (by decide +kernel)]; kernel_rfl) | (rw [if_neg (by decide +kernel)]; exact ⟨rfl, rfl⟩))
    (fun os started H enc _ => lifted os started H enc)

/-- ████ THE STATEMENT ████ -/
theorem proved : Rows.CompassEvenSaid :=
  over
#print axioms proved
end Go.Proofs.Ytakahpfeajjaaaa.compassEven
