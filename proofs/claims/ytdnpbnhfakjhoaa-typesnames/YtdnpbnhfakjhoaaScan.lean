/-
  Where a text's words can't go on: the document's scan, and the reader, come to the same.
-/
import Derived.Test.YtdnpbnhfakjhoaaSide
import Derived.Test.YtdnpbnhfakjhoaaWordy
namespace Go.Proofs.Ytdnpbnhfakjhoaa
set_option linter.unusedVariables false


/-- What is open: how deep, and the levels, the last one first. -/
abbrev Op1 := Nat × List Nat
def isW (x : W) (c : UInt8) : Bool := decide (x.kind = 3) && decide (x.text = [c])
def levW (x : W) : Nat := rowK (kindW x)
/-- The levels that are not above k. -/
def popK (k : Nat) : List Nat → List Nat
  | [] => []
  | x :: r => if k < x then popK k r else x :: r
def headIs (k : Nat) : List Nat → Bool
  | [] => false
  | x :: _ => decide (x = k)
def pushK (k : Nat) (l : List Nat) : List Nat := if headIs k (popK k l) then popK k l else k :: popK k l
/-- The fault and the words from there on; none: there is no fault. -/
def scanM : List W → Op1 → List Op1 → Nat → Bool → Option (Nat × List W)
  | [], top, st, un, true => if 16 < top.1 + top.2.length + un then some (6, []) else some (3, [])
  | [], top, st, un, false => if st = [] then none else some (3, [])
  | x :: r, top, st, un, true =>
    if 16 < top.1 + top.2.length + un then some (6, x :: r)
    else if isW x 45 || isW x 33 then scanM r top st (un + 1) true
    else if isW x 40 then scanM r (top.1 + top.2.length + un + 1, []) (top :: st) 0 true
    else if x.kind = 1 ∨ x.kind = 2 then scanM r top st 0 false
    else some (3, x :: r)
  | x :: r, top, st, un, false =>
    if isW x 41 && !st.isEmpty then scanM r (st.headD (0, [])) st.tail 0 false
    else if levW x = 6 ∨ headIs (levW x) (popK (levW x) top.2) = true ∧ levW x = 3 then some (3, x :: r)
    else scanM r (top.1, pushK (levW x) top.2) st 0 true
def scanE (en : Nat) (ws : List W) : Nat × Nat :=
  match scanM ws (1, []) [] 0 true with
  | some (e, q) => (e, atW en q)
  | none => (0, 0)
theorem isW_kind {x : W} {c : UInt8} (h : isW x c = true) : x.kind = 3 ∧ x.text = [c] := by
  unfold isW at h
  simp only [Bool.and_eq_true, decide_eq_true_eq] at h
  exact h
theorem isW_eq {x : W} (c : UInt8) (hk : x.kind = 3) : isW x c = decide (x.text = [c]) := by
  unfold isW; rw [decide_eq_true hk, Bool.true_and]
theorem Wd.sign {x : W} (h : Wd x) (h1 : ¬ x.kind = 1) (h2 : ¬ x.kind = 2) : x.kind = 3 := by
  rcases h with ⟨h, _⟩ | ⟨h, _⟩ | ⟨h, _⟩
  · exact absurd h h1
  · exact absurd h h2
  · exact h
theorem isW_no {x : W} {c : UInt8} (h : x.kind ≠ 3) : isW x c = false := by unfold isW; rw [decide_eq_false h]; rfl
end Go.Proofs.Ytdnpbnhfakjhoaa
