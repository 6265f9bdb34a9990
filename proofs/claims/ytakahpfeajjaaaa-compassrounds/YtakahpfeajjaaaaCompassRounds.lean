/-
  Proved: for every point of two int16 and every two numbers of quarters the law CompassRounds (four quarters are none; there and back; turned a point lies as far, and one quarter on) returns true. Conditions: none.
  The frame below the walk was written by the guide's program (proof-skeleton); the walk is by hand.
-/
import Derived.Test.YtakahpfeajjaaaaRows
import Derived.Test.YtakahpfeajjaaaaKeys
import Derived.WalkKit
import Derived.ProofKit
import Derived.OpenShut
import Derived.ShutString
namespace Go.Proofs.Ytakahpfeajjaaaa.compassRounds
open Go.ChangeShapes Go.WideShapes Go.ChangeAt Go.RowKit
open Go.ChangeMaps (open_string shut_string)
set_option linter.unusedVariables false      -- a walk need not use every 'w<i>' (that an integer argument fits its kind)

theorem own : ownKnob Try.prog.godebug = none := by kernel_rfl

theorem turn_turn (i k a b : Int) : rx ((i + k) % 4).toNat a b = rx (k % 4).toNat (rx (i % 4).toNat a b) (ry (i % 4).toNat a b) ∧ ry ((i + k) % 4).toNat a b = ry (k % 4).toNat (rx (i % 4).toNat a b) (ry (i % 4).toNat a b) := by
  have hi : i % 4 = 0 ∨ i % 4 = 1 ∨ i % 4 = 2 ∨ i % 4 = 3 := by omega
  have hk : k % 4 = 0 ∨ k % 4 = 1 ∨ k % 4 = 2 ∨ k % 4 = 3 := by omega
  have hs : (i + k) % 4 = (i % 4 + k % 4) % 4 := by omega
  rw [hs]
  rcases hi with hi | hi | hi | hi <;> rcases hk with hk | hk | hk | hk <;> rw [hi, hk] <;> simp [rx, ry]
theorem quarter_on (a b : Int) (h : ¬ (a = 0 ∧ b = 0)) : qt (-b) a = (qt a b + 1) % 4 := by
  unfold qt
  (repeat' split) <;> omega

/-- What the walk is told of the turns: each call by a contract of its own, over words that nothing is known of but this. -/
structure Turned (x y : Nat) (n : Int) (x' y' : Nat) : Prop where
  call : ∀ w, Calls Try.prog 16 #[.complex .f64 x y, .int .i64 n] w fun e w' => e = .returned (.complex .f64 x' y') ∧ w' = w

theorem turned {x y : Nat} {a b : Int} (h : At x y a b) (n : Int) : ∃ x' y', Turned x y n x' y' ∧ At x' y' (rx (n % 4).toNat a b) (ry (n % 4).toNat a b) :=
  ⟨_, _, ⟨fun w => turn_any x y a b n h w⟩, turn_is _ h⟩

/-! ### STEP 1: THE WALK: the Go text returns true. 'Grown w w'': the world has at most new blocks (Derived/RowKit3.lean). Part the cases AHEAD of 'go_enter' where a test parts the walk; take each callee by a contract of your own. -/
set_option maxRecDepth 100000 in
set_option maxHeartbeats 1000000 in
theorem walk (a0 : Int) (a1 : Int) (a2 : Int) (a3 : Int) (w0 : (Lit.int .i16 a0).wf = true) (w1 : (Lit.int .i16 a1).wf = true) (w2 : (Lit.int .u8 a2).wf = true) (w3 : (Lit.int .u8 a3).wf = true) (w : World) :
    Calls Try.prog 6 #[.int .i16 a0, .int .i16 a1, .int .u8 a2, .int .u8 a3] w fun e w' => e = .returned (.bool true) ∧ Grown w w' := by
  have b0 := bounds_i16 w0
  have b1 := bounds_i16 w1
  have b2 := bounds_u8 w2
  have b3 := bounds_u8 w3
  have hA := at_of a0 a1 (by omega) (by omega)
  have HT : Hid (∀ w, Calls Try.prog 15 #[.int .i16 a0, .int .i16 a1] w fun e w' => e = .returned (.complex .f64 (floatOfInt .f64 a0) (floatOfInt .f64 a1)) ∧ w' = w) := at_any a0 a1
  generalize floatOfInt .f64 a0 = x at *
  generalize floatOfInt .f64 a1 = y at *
  obtain ⟨x4, y4, c4, t4⟩ := turned hA (4 * a2)
  obtain ⟨x1, y1, c1, t1⟩ := turned hA a2
  obtain ⟨x2, y2, c2, t2⟩ := turned t1 a3
  obtain ⟨x3, y3, c3, t3⟩ := turned hA (a2 + a3)
  obtain ⟨x5, y5, c5, t5⟩ := turned t1 (-a2)
  obtain ⟨x6, y6, c6, t6⟩ := turned hA 1
  rw [show ((4 * a2) % 4).toNat = 0 by omega] at t4
  rw [← (turn_turn a2 a3 a0 a1).1, ← (turn_turn a2 a3 a0 a1).2] at t2
  rw [← (turn_turn a2 (-a2) a0 a1).1, ← (turn_turn a2 (-a2) a0 a1).2, show ((a2 + -a2) % 4).toNat = 0 by omega] at t5
  have t6' : At x6 y6 (-a1) a0 := t6
  have o1 := order_eq t4.re hA.re
  have o2 := order_eq t4.im hA.im
  have o3 := order_eq t2.re t3.re
  have o4 := order_eq t2.im t3.im
  have o5 := order_eq t5.re hA.re
  have o6 := order_eq t5.im hA.im
  have C4 : Hid _ := c4
  have C1 : Hid _ := c1
  have C2 : Hid _ := c2
  have C3 : Hid _ := c3
  have C5 : Hid _ := c5
  have C6 : Hid _ := c6
  have N6 : Hid (∀ w, Calls Try.prog 19 #[.complex .f64 x6 y6] w fun e w' => e = .returned (.int .i64 (a0 * a0 + a1 * a1)) ∧ w' = w) := by
    intro w
    have h := norm_any _ _ _ _ t6' w
    rw [Int.neg_mul_neg, Int.add_comm] at h
    exact h
  have N0 : Hid (∀ w, Calls Try.prog 19 #[.complex .f64 x y] w fun e w' => e = .returned (.int .i64 (a0 * a0 + a1 * a1)) ∧ w' = w) := norm_any _ _ _ _ hA
  have Q6 : Hid (∀ w, Calls Try.prog 17 #[.complex .f64 x6 y6] w fun e w' => e = .returned (.int .i64 (qt (-a1) a0)) ∧ w' = w) := quarter_any _ _ _ _ t6'
  have Q0 : Hid (∀ w, Calls Try.prog 17 #[.complex .f64 x y] w fun e w' => e = .returned (.int .i64 (qt a0 a1)) ∧ w' = w) := quarter_any _ _ _ _ hA
  have q1 := (qt_range a0 a1).1
  have q2 := (qt_range a0 a1).2
  have HQ : Hid (¬ (a0 = 0 ∧ a1 = 0) → qt (-a1) a0 = (qt a0 a1 + 1) % 4) := quarter_on a0 a1
  clear t4 t1 t2 t3 t5 t6 t6' hA c4 c1 c2 c3 c5 c6 w0 w1 w2 w3
  generalize a0 * a0 + a1 * a1 = N at *
  generalize qt (-a1) a0 = p at *
  generalize qt a0 a1 = q at *
  by_cases hz : a0 = 0 ∧ a1 = 0
  · obtain ⟨rfl, rfl⟩ := hz
    clear HQ
    go_enter Try.func6, Try.ntmps6
    go_wp2_with (first
      | (go_at_call 9; refine (works_any _).mono ?_; rintro e w' ⟨rfl, rfl⟩)
      | (go_at_call 15; refine (HT.out _).mono ?_; rintro e w' ⟨rfl, rfl⟩)
      | (go_at_call 16; have := D6; refine (C6.out.call _).mono ?_; rintro e w' ⟨rfl, rfl⟩)
      | (go_at_call 16; have := D5; refine (C5.out.call _).mono ?_; rintro e w' ⟨rfl, rfl⟩; have D6 : Hid True := trivial)
      | (go_at_call 16; have := D4; refine (C1.out.call _).mono ?_; rintro e w' ⟨rfl, rfl⟩; have D5 : Hid True := trivial)
      | (go_at_call 16; have := D3; refine (C3.out.call _).mono ?_; rintro e w' ⟨rfl, rfl⟩; have D4 : Hid True := trivial)
      | (go_at_call 16; have := D2; refine (C2.out.call _).mono ?_; rintro e w' ⟨rfl, rfl⟩; have D3 : Hid True := trivial)
      | (go_at_call 16; have := D1; refine (C1.out.call _).mono ?_; rintro e w' ⟨rfl, rfl⟩; have D2 : Hid True := trivial)
      | (go_at_call 16; refine (C4.out.call _).mono ?_; rintro e w' ⟨rfl, rfl⟩; have D1 : Hid True := trivial)
      | (go_at_call 19; have := M1; refine (N0.out _).mono ?_; rintro e w' ⟨rfl, rfl⟩)
      | (go_at_call 19; refine (N6.out _).mono ?_; rintro e w' ⟨rfl, rfl⟩; have M1 : Hid True := trivial)
      | (go_at_call 17; have := Q1; refine (Q0.out _).mono ?_; rintro e w' ⟨rfl, rfl⟩)
      | (go_at_call 17; refine (Q6.out _).mono ?_; rintro e w' ⟨rfl, rfl⟩; have Q1 : Hid True := trivial))
    go_ret
    exact ⟨rfl, Grown.refl _⟩
  · have hp := HQ.out hz
    subst hp
    clear HQ
    by_cases e0 : a0 = 0
    · have e1 : (a1 == 0) = false := by
        have : a1 ≠ 0 := fun f => hz ⟨e0, f⟩
        simp [this]
      subst e0
      clear hz
      go_enter Try.func6, Try.ntmps6
      go_wp2_with (first
        | (go_at_call 9; refine (works_any _).mono ?_; rintro e w' ⟨rfl, rfl⟩)
        | (go_at_call 15; refine (HT.out _).mono ?_; rintro e w' ⟨rfl, rfl⟩)
        | (go_at_call 16; have := D6; refine (C6.out.call _).mono ?_; rintro e w' ⟨rfl, rfl⟩)
        | (go_at_call 16; have := D5; refine (C5.out.call _).mono ?_; rintro e w' ⟨rfl, rfl⟩; have D6 : Hid True := trivial)
        | (go_at_call 16; have := D4; refine (C1.out.call _).mono ?_; rintro e w' ⟨rfl, rfl⟩; have D5 : Hid True := trivial)
        | (go_at_call 16; have := D3; refine (C3.out.call _).mono ?_; rintro e w' ⟨rfl, rfl⟩; have D4 : Hid True := trivial)
        | (go_at_call 16; have := D2; refine (C2.out.call _).mono ?_; rintro e w' ⟨rfl, rfl⟩; have D3 : Hid True := trivial)
        | (go_at_call 16; have := D1; refine (C1.out.call _).mono ?_; rintro e w' ⟨rfl, rfl⟩; have D2 : Hid True := trivial)
        | (go_at_call 16; refine (C4.out.call _).mono ?_; rintro e w' ⟨rfl, rfl⟩; have D1 : Hid True := trivial)
        | (go_at_call 19; have := M1; refine (N0.out _).mono ?_; rintro e w' ⟨rfl, rfl⟩)
        | (go_at_call 19; refine (N6.out _).mono ?_; rintro e w' ⟨rfl, rfl⟩; have M1 : Hid True := trivial)
        | (go_at_call 17; have := Q1; refine (Q0.out _).mono ?_; rintro e w' ⟨rfl, rfl⟩)
        | (go_at_call 17; refine (Q6.out _).mono ?_; rintro e w' ⟨rfl, rfl⟩; have Q1 : Hid True := trivial))
      go_ret
      exact ⟨rfl, Grown.refl _⟩
    · have e1 : (a0 == 0) = false := by simp [e0]
      clear hz e0
      go_enter Try.func6, Try.ntmps6
      go_wp2_with (first
        | (go_at_call 9; refine (works_any _).mono ?_; rintro e w' ⟨rfl, rfl⟩)
        | (go_at_call 15; refine (HT.out _).mono ?_; rintro e w' ⟨rfl, rfl⟩)
        | (go_at_call 16; have := D6; refine (C6.out.call _).mono ?_; rintro e w' ⟨rfl, rfl⟩)
        | (go_at_call 16; have := D5; refine (C5.out.call _).mono ?_; rintro e w' ⟨rfl, rfl⟩; have D6 : Hid True := trivial)
        | (go_at_call 16; have := D4; refine (C1.out.call _).mono ?_; rintro e w' ⟨rfl, rfl⟩; have D5 : Hid True := trivial)
        | (go_at_call 16; have := D3; refine (C3.out.call _).mono ?_; rintro e w' ⟨rfl, rfl⟩; have D4 : Hid True := trivial)
        | (go_at_call 16; have := D2; refine (C2.out.call _).mono ?_; rintro e w' ⟨rfl, rfl⟩; have D3 : Hid True := trivial)
        | (go_at_call 16; have := D1; refine (C1.out.call _).mono ?_; rintro e w' ⟨rfl, rfl⟩; have D2 : Hid True := trivial)
        | (go_at_call 16; refine (C4.out.call _).mono ?_; rintro e w' ⟨rfl, rfl⟩; have D1 : Hid True := trivial)
        | (go_at_call 19; have := M1; refine (N0.out _).mono ?_; rintro e w' ⟨rfl, rfl⟩)
        | (go_at_call 19; refine (N6.out _).mono ?_; rintro e w' ⟨rfl, rfl⟩; have M1 : Hid True := trivial)
        | (go_at_call 17; have := Q1; refine (Q0.out _).mono ?_; rintro e w' ⟨rfl, rfl⟩)
        | (go_at_call 17; refine (Q6.out _).mono ?_; rintro e w' ⟨rfl, rfl⟩; have Q1 : Hid True := trivial))
      go_ret
      exact ⟨rfl, Grown.refl _⟩

/-! ### THE ROW's STEP: WRITTEN OUT: LEAVE IT -/
set_option maxRecDepth 100000 in
theorem lifted (os : Os) (started : os.Started) (H : Type) (enc : TypeId × Value → H) :
    ReturnsInHanded {} Try.checked os 6 .any (Rows.compassRoundsSpec.pre6 enc Try.prog Try.f6 Rows.compassRoundsRow.domain false) (Rows.compassRoundsSpec.post enc Try.prog Try.f6 false true false false) := by
  refine returnsInHanded_of_change (C := Try.checked) own started (by kernel_rfl) Try.func6
    (ChangeSpec.witness6 (enc := enc) (C := Try.checked) false ⟨#[], #[.int .i16 0, .int .i16 0, .int .u8 0, .int .u8 0], []⟩ 8 (by kernel_rfl) (by kernel_rfl) (by kernel_rfl) (by kernel_rfl)) ?_
  intro W base args ds gs before hval0 hW hcnd _
  have hval : ∀ (j : Nat) t v, Try.f6.params[j]? = some t → args[j]? = some v → Value.okWide Try.prog W .any base t v := hval0
  have hW' := hW
  obtain ⟨p, q, hA0, hV, rfl, hfz, hnd⟩ := hW
  have hA : DataW.TrodAll enc Try.prog W 0 (fun _ => true) true Try.f6.params.toList args.toList ds p := hA0
  rw [Try.params6] at hA hval
  obtain ⟨v0, vs0, d0, ds0, p0, q0, hargs, rfl, rfl, h0, r0⟩ := trodAll_cons hA
  obtain ⟨v1, vs1, d1, ds1, p1, q1, rfl, rfl, rfl, h1, r1⟩ := trodAll_cons r0
  obtain ⟨v2, vs2, d2, ds2, p2, q2, rfl, rfl, rfl, h2, r2⟩ := trodAll_cons r1
  obtain ⟨v3, vs3, d3, ds3, p3, q3, rfl, rfl, rfl, h3, r3⟩ := trodAll_cons r2
  obtain ⟨rfl, rfl, rfl⟩ := trodAll_nil r3
  obtain rfl : args = #[v0, v1, v2, v3] := by cases args; simp_all
  obtain ⟨rfl, rfl⟩ := trodVars_none hV
  obtain ⟨a0, rfl, rfl, rfl, w0⟩ := open_int Try.underlying31 (hval 0 31 v0 rfl rfl) h0
  obtain ⟨a1, rfl, rfl, rfl, w1⟩ := open_int Try.underlying31 (hval 1 31 v1 rfl rfl) h1
  obtain ⟨a2, rfl, rfl, rfl, w2⟩ := open_int Try.underlying5 (hval 2 5 v2 rfl rfl) h2
  obtain ⟨a3, rfl, rfl, rfl, w3⟩ := open_int Try.underlying5 (hval 3 5 v3 rfl rfl) h3
  clear hA0 hval0
  simp only [List.append_nil] at hW'
  refine (walk a0 a1 a2 a3 w0 w1 w2 w3 W).mono fun e W' ⟨he, hg⟩ => ?_
  subst he
  exact ⟨_, rfl, post_of_same (pa := []) (pv := []) hW' (fun _ _ _ => (trodAll_cons_mk (shut_bool Try.underlying4 _) trodAll_mk0)) (fun sp _ => (trodAll_cons_mk (shut_int Try.underlying31 w0) (trodAll_cons_mk (shut_int Try.underlying31 w1) (trodAll_cons_mk (shut_int Try.underlying5 w2) (trodAll_cons_mk (shut_int Try.underlying5 w3) trodAll_mk0))))) (fun _ _ => rfl) rfl
    (hg.frame _) hg.2.1 (ok_one (by kernel_rfl) rfl (okWide_bool_mk Try.underlying4 _))⟩

theorem over : Rows.compassRoundsRow.holds Try.pinned (OpenSpec.ofChange Rows.compassRoundsSpec) :=
  OpenClaim.holds_of_wide 6 Try.f6 rfl rfl rfl rfl rfl rfl rfl ⟨rfl, rfl, rfl, rfl, rfl⟩ rfl rfl rfl rfl rfl (by kernel_rfl) Try.func6 (by kernel_rfl)
    (of_decide_eq_true (by kernel_rfl)) (by unfold Func.isWrapper; first | (rw [if_pos (by decide +kernel)]; kernel_rfl) | (rw [if_neg (by decide +kernel)]; exact ⟨rfl, rfl⟩))
    (fun os started H enc _ => lifted os started H enc)

/-- ████ THE STATEMENT ████ -/
theorem proved : Rows.CompassRoundsSaid :=
  over
#print axioms proved
end Go.Proofs.Ytakahpfeajjaaaa.compassRounds
