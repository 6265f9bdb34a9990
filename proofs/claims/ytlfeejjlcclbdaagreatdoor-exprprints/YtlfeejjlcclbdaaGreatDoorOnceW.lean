/-
  ExprOnce: the walk.
-/
import Derived.Test.YtlfeejjlcclbdaaGreatDoorWorks
import Derived.Test.YtlfeejjlcclbdaaGreatDoorCheck
import Derived.Test.YtlfeejjlcclbdaaGreatDoorRSame
import Derived.Test.YtlfeejjlcclbdaaGreatDoorNode
namespace Go.Proofs.YtlfeejjlcclbdaaGreatDoor
open Go.RowKit
set_option linter.unusedVariables false


/-- An error is never none. -/
def Errs (f : List W → Res) : Prop := ∀ ws e r, f ws = .error (e, r) → e ≠ 0
theorem loop_errs {sd : Nat → List W → Res} (hs : ∀ row, Errs (sd row)) (row : Nat) : ∀ (f last : Nat) (x : Tr) (ws : List W) (e : Nat) (r : List W), loopM sd row f last x ws = .error (e, r) → e ≠ 0
  | 0, _, _, _, e, r, h => by
    have : (Except.error (3, []) : Res) = .error (e, r) := h
    simp only [Except.error.injEq, Prod.mk.injEq] at this
    omega
  | f + 1, last, x, ws, e, r, h => by
    rw [loopM_succ] at h
    split at h
    · cases h
    · split at h
      · simp only [Except.error.injEq, Prod.mk.injEq] at h; omega
      · cases hq : sd (rowK (nextK ws) + 1) ws.tail with
        | error y => rw [hq] at h; obtain ⟨y, q⟩ := y; simp only [Except.error.injEq, Prod.mk.injEq] at h; rw [← h.1]; exact hs _ _ _ _ hq
        | ok y => rw [hq] at h; obtain ⟨y, q⟩ := y; exact loop_errs hs row f _ _ _ e r h
theorem pr_errs : ∀ d, Errs (operandM d) ∧ ∀ row, Errs (sdM d row)
  | 0 => ⟨fun ws e r h => by rw [operandM_zero] at h; simp only [Except.error.injEq, Prod.mk.injEq] at h; omega, fun row ws e r h => by rw [sdM_zero] at h; simp only [Except.error.injEq, Prod.mk.injEq] at h; omega⟩
  | d + 1 => by
    obtain ⟨h1, h2⟩ := pr_errs d
    have hw : ∀ k ws e r, wrapM k (operandM d ws) = .error (e, r) → e ≠ 0 := fun k ws e r h => by
      cases hq : operandM d ws with
      | error y => rw [hq] at h; obtain ⟨y, q⟩ := y; have h' : (Except.error (y, q) : Res) = .error (e, r) := h; simp only [Except.error.injEq, Prod.mk.injEq] at h'; rw [← h'.1]; exact h1 _ _ _ hq
      | ok y => rw [hq] at h; obtain ⟨y, q⟩ := y; cases h
    have ho : Errs (operandM (d + 1)) := fun ws e r h => by
      rw [operandM_succ] at h
      cases ws with
      | nil => have h' : (Except.error (3, []) : Res) = .error (e, r) := h; simp only [Except.error.injEq, Prod.mk.injEq] at h'; omega
      | cons x q =>
        rw [opM_cons] at h
        split at h
        · cases h
        · split at h
          · cases h
          · unfold aheadM at h
            split at h
            · exact hw _ _ _ _ h
            · split at h
              · exact hw _ _ _ _ h
              · split at h
                · cases hq : sdM d 1 (x :: q).tail with
                  | error y => rw [hq] at h; obtain ⟨y, q'⟩ := y; have h' : (Except.error (y, q') : Res) = .error (e, r) := h; simp only [Except.error.injEq, Prod.mk.injEq] at h'; rw [← h'.1]; exact h2 _ _ _ _ hq
                  | ok y =>
                    rw [hq] at h; obtain ⟨y, q'⟩ := y
                    cases q' with
                    | nil => have h' : (Except.error (3, []) : Res) = .error (e, r) := h; simp only [Except.error.injEq, Prod.mk.injEq] at h'; omega
                    | cons v q' =>
                      have h' : (if v.text = [41] then .ok (y, q') else .error (3, v :: q') : Res) = .error (e, r) := h
                      split at h'
                      · cases h'
                      · simp only [Except.error.injEq, Prod.mk.injEq] at h'; omega
                · simp only [Except.error.injEq, Prod.mk.injEq] at h; omega
    refine ⟨ho, fun row ws e r h => ?_⟩
    rw [sdM_succ] at h
    unfold sideM at h
    cases hq : operandM (d + 1) ws with
    | error y => rw [hq] at h; obtain ⟨y, q⟩ := y; simp only [Except.error.injEq, Prod.mk.injEq] at h; rw [← h.1]; exact ho _ _ _ hq
    | ok y => rw [hq] at h; obtain ⟨y, q⟩ := y; exact loop_errs h2 row _ _ _ _ e r h
theorem sd_err {d row : Nat} {ws r : List W} {e : Nat} (h : sdM d row ws = .error (e, r)) : e ≠ 0 := (pr_errs d).2 row ws e r h
end Go.Proofs.YtlfeejjlcclbdaaGreatDoor
