/-
  A condition in brackets: plain mathematics.
-/
import Derived.Test.YtlfeejjlcclbdaaDoorSide
import Derived.Test.YtlfeejjlcclbdaaDoorWordy
namespace Go.Proofs.YtlfeejjlcclbdaaDoor
set_option linter.unusedVariables false

def Lim (R : Res) : Prop := ∃ q, R = .error (6, q)
/-- What a reading deeper down comes to: the same, or too deep. -/
def Deep (g : List W → List W) (R R' : Res) : Prop := ∀ t r, R = .ok (t, r) → Lim R' ∨ R' = .ok (t, g r)
structure Shut (f : W → W) (v : W) : Prop where
  kind : ∀ x, (f x).kind = x.kind
  text : ∀ x, (f x).text = x.text
  num : ∀ x, (f x).n = x.n
  vk : v.kind = 3
  vt : v.text = [41]
section
variable {f : W → W} {v : W}
def onto (f : W → W) (v : W) (ws : List W) : List W := ws.map f ++ [v]
theorem next_onto (h : Shut f v) (ws : List W) : nextK (onto f v ws) = nextK ws := by
  cases ws with
  | nil => show kindW v = 0; unfold kindW; rw [h.vk, h.vt]; rfl
  | cons x r => show kindW (f x) = kindW x; unfold kindW; rw [h.kind, h.text]
theorem loop_deep (h : Shut f v) {s1 s0 : Nat → List W → Res} (hs : ∀ row ws, Deep (onto f v) (s1 row ws) (s0 row (onto f v ws))) (row : Nat) : ∀ (F F' last : Nat) (x : Tr) (ws : List W), F ≤ F' → Deep (onto f v) (loopM s1 row F last x ws) (loopM s0 row F' last x (onto f v ws))
  | 0, _, _, _, _, _, t, r, e => by cases e
  | F + 1, F', last, x, ws, hF, t, r, e => by
    obtain ⟨F', rfl⟩ : ∃ k, F' = k + 1 := ⟨F' - 1, by omega⟩
    rw [loopM_succ] at e
    rw [loopM_succ, next_onto h]
    by_cases h1 : nextK ws = 0 ∨ rowK (nextK ws) < row
    · rw [if_pos h1] at e ⊢
      simp only [Except.ok.injEq, Prod.mk.injEq] at e
      obtain ⟨rfl, rfl⟩ := e
      exact .inr rfl
    · rw [if_neg h1] at e ⊢
      by_cases h2 : rowK (nextK ws) = 3 ∧ last = 3
      · rw [if_pos h2] at e; cases e
      · rw [if_neg h2] at e ⊢
        cases ws with
        | nil => exact absurd (.inl rfl) h1
        | cons u q =>
          have hd := hs (rowK (nextK (u :: q)) + 1) q
          have et : (onto f v (u :: q)).tail = onto f v q := rfl
          rw [et]
          rw [List.tail_cons] at e
          cases hq : s1 (rowK (nextK (u :: q)) + 1) q with
          | error y => rw [hq] at e; cases e
          | ok y =>
            obtain ⟨y, r2⟩ := y
            rw [hq] at e
            rcases hd y r2 hq with ⟨z, hz⟩ | hz
            · rw [hz]; exact .inl ⟨z, rfl⟩
            · rw [hz]
              exact loop_deep h hs row F F' _ _ r2 (by omega) t r e
theorem pr_deep (h : Shut f v) : ∀ d, (∀ ws, Deep (onto f v) (operandM (d + 1) ws) (operandM d (onto f v ws))) ∧ ∀ row ws, Deep (onto f v) (sdM (d + 1) row ws) (sdM d row (onto f v ws))
  | 0 => ⟨fun ws t r _ => .inl ⟨_, rfl⟩, fun row ws t r _ => .inl ⟨_, rfl⟩⟩
  | d + 1 => by
    obtain ⟨h1, h2⟩ := pr_deep h d
    have hw : ∀ k ws, Deep (onto f v) (wrapM k (operandM (d + 1) ws)) (wrapM k (operandM d (onto f v ws))) := fun k ws t r e => by
      cases hq : operandM (d + 1) ws with
      | error y => rw [hq] at e; cases e
      | ok y =>
        obtain ⟨y, r2⟩ := y
        rw [hq] at e
        have e' : (Except.ok (⟨k, 0, [], [y]⟩, r2) : Res) = .ok (t, r) := e
        simp only [Except.ok.injEq, Prod.mk.injEq] at e'
        obtain ⟨rfl, rfl⟩ := e'
        rcases h1 ws y r2 hq with ⟨z, hz⟩ | hz
        · rw [hz]; exact .inl ⟨z, rfl⟩
        · rw [hz]; exact .inr rfl
    have ho : ∀ ws, Deep (onto f v) (operandM (d + 1 + 1) ws) (operandM (d + 1) (onto f v ws)) := fun ws t r e => by
      rw [operandM_succ] at e
      rw [operandM_succ]
      cases ws with
      | nil => cases e
      | cons x q =>
        have eo : onto f v (x :: q) = f x :: onto f v q := rfl
        rw [eo, opM_cons, h.kind, h.num, h.text]
        rw [opM_cons] at e
        by_cases k1 : x.kind = 1
        · rw [if_pos k1] at e ⊢
          simp only [Except.ok.injEq, Prod.mk.injEq] at e
          obtain ⟨rfl, rfl⟩ := e
          exact .inr rfl
        rw [if_neg k1] at e ⊢
        by_cases k2 : x.kind = 2
        · rw [if_pos k2] at e ⊢
          simp only [Except.ok.injEq, Prod.mk.injEq] at e
          obtain ⟨rfl, rfl⟩ := e
          exact .inr rfl
        rw [if_neg k2] at e ⊢
        unfold aheadM at e ⊢
        rw [List.tail_cons] at e ⊢
        by_cases t1 : x.text = [45]
        · rw [if_pos t1] at e ⊢; exact hw 5 q t r e
        rw [if_neg t1] at e ⊢
        by_cases t2 : x.text = [33]
        · rw [if_pos t2] at e ⊢; exact hw 6 q t r e
        rw [if_neg t2] at e ⊢
        by_cases t3 : x.text = [40]
        · rw [if_pos t3] at e ⊢
          cases hq : sdM (d + 1) 1 q with
          | error y => rw [hq] at e; cases e
          | ok y =>
            obtain ⟨y, r2⟩ := y
            rw [hq] at e
            cases r2 with
            | nil => cases e
            | cons u r2 =>
              have e' : (if u.text = [41] then .ok (y, r2) else .error (3, u :: r2) : Res) = .ok (t, r) := e
              by_cases hu : u.text = [41]
              · rw [if_pos hu] at e'
                simp only [Except.ok.injEq, Prod.mk.injEq] at e'
                obtain ⟨rfl, rfl⟩ := e'
                rcases h2 1 q y (u :: r2) hq with ⟨z, hz⟩ | hz
                · rw [hz]; exact .inl ⟨z, rfl⟩
                · rw [hz]
                  right
                  show (if (f u).text = [41] then .ok (y, onto f v r2) else .error (3, f u :: onto f v r2) : Res) = _
                  rw [h.text, if_pos hu]
              · rw [if_neg hu] at e'; cases e'
        · rw [if_neg t3] at e; cases e
    refine ⟨ho, fun row ws t r e => ?_⟩
    rw [sdM_succ] at e
    rw [sdM_succ]
    unfold sideM at e ⊢
    cases hq : operandM (d + 1 + 1) ws with
    | error y => rw [hq] at e; cases e
    | ok y =>
      obtain ⟨y, r2⟩ := y
      rw [hq] at e
      rcases ho ws y r2 hq with ⟨z, hz⟩ | hz
      · rw [hz]; exact .inl ⟨z, rfl⟩
      · rw [hz]
        exact loop_deep h h2 row _ _ 6 y r2 (by unfold onto; simp) t r e
end
end Go.Proofs.YtlfeejjlcclbdaaDoor
