/-
  What the document says of a node and a tree: contracts.
-/
import Derived.Test.YtjafjheffbbkmabCheck
namespace Go.Proofs.Ytjafjheffbbkmab
open Go.RowKit
set_option linter.unusedVariables false



/-- May a node of a kind be that has as many kids as it must? -/
def restB (k n : Int) (t : Bs) : Bool :=
  if n < 0 ∨ n ≠ 0 ∧ k ≠ 1 then false
  else if k = 2 then nameOk t && decide (t ≠ yesB) && decide (t ≠ noB)
  else decide (t = [])
theorem fitsB_out {k n : Int} {t : Bs} {l : Nat} (h : k < 1 ∨ 14 < k ∨ l ≠ kidsK k) : fitsB k n t l = false := if_pos h
theorem fitsB_in {k n : Int} {t : Bs} {l : Nat} (h1 : 1 ≤ k) (h2 : k ≤ 14) (h3 : l = kidsK k) : fitsB k n t l = restB k n t := if_neg (by rintro (h | h | h); omega; omega; exact h h3)
end Go.Proofs.Ytjafjheffbbkmab
