/-
  What a tree comes to: contracts.
-/
import Derived.Test.YtjafjheffbbkmaaTyM
import Derived.Test.YtjafjheffbbkmaaNode
namespace Go.Proofs.Ytjafjheffbbkmaa
open Go.RowKit
set_option linter.unusedVariables false


set_option maxRecDepth 100000 in
set_option maxHeartbeats 400000 in
theorem wantT_any (k : Int) (w : World) : Calls Try.prog 109 #[.int .i64 k] w fun e w' => e = .returned (.bool (wantT k)) ∧ w' = w := by
  go_enter Try.func109, Try.ntmps109
  go_wp2
  all_goals (go_ret; refine ⟨?_, rfl⟩; congr 2; show Value.bool _ = Value.bool _; congr 1; unfold wantT; rw [Bool.eq_iff_iff]; simp; try omega)
set_option maxRecDepth 100000 in
set_option maxHeartbeats 400000 in
theorem wantN_any (k : Int) (w : World) : Calls Try.prog 110 #[.int .i64 k] w fun e w' => e = .returned (.bool (wantN k)) ∧ w' = w := by
  go_enter Try.func110, Try.ntmps110
  go_wp2
  all_goals (go_ret; refine ⟨?_, rfl⟩; congr 2; show Value.bool _ = Value.bool _; congr 1; unfold wantN; rw [Bool.eq_iff_iff]; simp; try omega)
set_option maxRecDepth 100000 in
set_option maxHeartbeats 400000 in
theorem truthK_any (k : Int) (w : World) : Calls Try.prog 105 #[.int .i64 k] w fun e w' => e = .returned (.bool (truthK k)) ∧ w' = w := by
  go_enter Try.func105, Try.ntmps105
  go_wp2
  all_goals (go_ret; refine ⟨?_, rfl⟩; congr 2; show Value.bool _ = Value.bool _; congr 1; unfold truthK; rw [Bool.eq_iff_iff]; simp; try omega)
set_option maxRecDepth 100000 in
set_option maxHeartbeats 800000 in
theorem sign_any (k : Int) (p : Nat) (hp : p ≤ 2) (w : World) : Calls Try.prog 108 #[.int .i64 k, .int .i64 p] w fun e w' => e = .returned (.int .i64 (sgM k p)) ∧ w' = w := by
  have H1 : Hid (∀ w, Calls Try.prog 109 #[.int .i64 k] w fun e w' => e = .returned (.bool (wantT k)) ∧ w' = w) := wantT_any k
  have H2 : Hid (∀ w, Calls Try.prog 110 #[.int .i64 k] w fun e w' => e = .returned (.bool (wantN k)) ∧ w' = w) := wantN_any k
  unfold sgM
  generalize wantT k = b1 at *
  generalize wantN k = b2 at *
  obtain rfl | rfl | rfl : p = 0 ∨ p = 1 ∨ p = 2 := by omega
  · by_cases h11 : k = 11
    · subst h11
      cases b1 <;> cases b2
      all_goals (
        go_enter Try.func108, Try.ntmps108
        go_wp2_with (first
          | (go_at_call 109; refine (H1.out _).mono ?_; rintro e w1 ⟨rfl, rfl⟩)
          | (go_at_call 110; refine (H2.out _).mono ?_; rintro e w1 ⟨rfl, rfl⟩))
        all_goals (go_ret; exact ⟨by simp, rfl⟩))
    · by_cases h12 : k = 12
      · subst h12
        cases b1 <;> cases b2
        all_goals (
          go_enter Try.func108, Try.ntmps108
          go_wp2_with (first
            | (go_at_call 109; refine (H1.out _).mono ?_; rintro e w1 ⟨rfl, rfl⟩)
            | (go_at_call 110; refine (H2.out _).mono ?_; rintro e w1 ⟨rfl, rfl⟩))
          all_goals (go_ret; exact ⟨by simp, rfl⟩))
      · cases b1 <;> cases b2
        all_goals (
          go_enter Try.func108, Try.ntmps108
          go_wp2_with (first
            | (go_at_call 109; refine (H1.out _).mono ?_; rintro e w1 ⟨rfl, rfl⟩)
            | (go_at_call 110; refine (H2.out _).mono ?_; rintro e w1 ⟨rfl, rfl⟩))
          all_goals (go_ret; exact ⟨by simp_all, rfl⟩))
  · by_cases h11 : k = 11
    · subst h11
      go_enter Try.func108, Try.ntmps108
      go_wp2_with (first
        | (go_at_call 109; refine (H1.out _).mono ?_; rintro e w1 ⟨rfl, rfl⟩)
        | (go_at_call 110; refine (H2.out _).mono ?_; rintro e w1 ⟨rfl, rfl⟩))
      all_goals (go_ret; exact ⟨by simp, rfl⟩)
    · by_cases h12 : k = 12
      · subst h12
        cases b1 <;> cases b2
        all_goals (
          go_enter Try.func108, Try.ntmps108
          go_wp2_with (first
            | (go_at_call 109; refine (H1.out _).mono ?_; rintro e w1 ⟨rfl, rfl⟩)
            | (go_at_call 110; refine (H2.out _).mono ?_; rintro e w1 ⟨rfl, rfl⟩))
          all_goals (go_ret; exact ⟨by simp, rfl⟩))
      · cases b1 <;> cases b2
        all_goals (
          go_enter Try.func108, Try.ntmps108
          go_wp2_with (first
            | (go_at_call 109; refine (H1.out _).mono ?_; rintro e w1 ⟨rfl, rfl⟩)
            | (go_at_call 110; refine (H2.out _).mono ?_; rintro e w1 ⟨rfl, rfl⟩))
          all_goals (go_ret; exact ⟨by simp_all, rfl⟩))
  · by_cases h11 : k = 11
    · subst h11
      go_enter Try.func108, Try.ntmps108
      go_wp2_with (first
        | (go_at_call 109; refine (H1.out _).mono ?_; rintro e w1 ⟨rfl, rfl⟩)
        | (go_at_call 110; refine (H2.out _).mono ?_; rintro e w1 ⟨rfl, rfl⟩))
      all_goals (go_ret; exact ⟨by simp, rfl⟩)
    · by_cases h12 : k = 12
      · subst h12
        cases b1 <;> cases b2
        all_goals (
          go_enter Try.func108, Try.ntmps108
          go_wp2_with (first
            | (go_at_call 109; refine (H1.out _).mono ?_; rintro e w1 ⟨rfl, rfl⟩)
            | (go_at_call 110; refine (H2.out _).mono ?_; rintro e w1 ⟨rfl, rfl⟩))
          all_goals (go_ret; exact ⟨by simp, rfl⟩))
      · cases b1 <;> cases b2
        all_goals (
          go_enter Try.func108, Try.ntmps108
          go_wp2_with (first
            | (go_at_call 109; refine (H1.out _).mono ?_; rintro e w1 ⟨rfl, rfl⟩)
            | (go_at_call 110; refine (H2.out _).mono ?_; rintro e w1 ⟨rfl, rfl⟩))
          all_goals (go_ret; exact ⟨by simp_all, rfl⟩))
end Go.Proofs.Ytjafjheffbbkmaa
