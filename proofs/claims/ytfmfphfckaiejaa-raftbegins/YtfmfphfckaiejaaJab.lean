/-
  Logs as mathematics: what stands where, what is put, what is left; plain lists.
-/
import Derived.OpenShut
namespace Go.Proofs.Ytfmfphfckaiejaa
set_option linter.unusedVariables false


abbrev BB := List (BitVec 8)
/-- An entry: its term, its bytes. -/
abbrev En := Int × BB
def zE : En := (0, [])
def tOf (es : List En) (i : Nat) : Int := (es.getD i zE).1
/-- What is wrong with a log. -/
def chkM (b bt : Int) (es : List En) : Int :=
  if (0 ≤ b ∧ b ≤ 1099511627776 ∧ 0 ≤ bt ∧ bt ≤ 1099511627776 ∧ (b = 0 ↔ bt = 0)) ∧ ∀ i, i < es.length → 1 ≤ tOf es i ∧ tOf es i ≤ 1099511627776 ∧ bt ≤ tOf es i ∧ (0 < i → tOf es (i - 1) ≤ tOf es i) then 0 else 1
theorem chk_zero {b bt : Int} {es : List En} : chkM b bt es = 0 ↔ (0 ≤ b ∧ b ≤ 1099511627776 ∧ 0 ≤ bt ∧ bt ≤ 1099511627776 ∧ (b = 0 ↔ bt = 0)) ∧ ∀ i, i < es.length → 1 ≤ tOf es i ∧ tOf es i ≤ 1099511627776 ∧ bt ≤ tOf es i ∧ (0 < i → tOf es (i - 1) ≤ tOf es i) := by
  unfold chkM
  split
  · rename_i h; exact ⟨fun _ => h, fun _ => rfl⟩
  · rename_i h; exact ⟨fun e => absurd e (by decide), fun e => absurd e h⟩
theorem chk_one {b bt : Int} {es : List En} (h : ¬ chkM b bt es = 0) : chkM b bt es = 1 := by
  unfold chkM at h ⊢
  split
  · rename_i q; rw [if_pos q] at h; exact absurd rfl h
  · rfl
theorem chk_head {b bt : Int} {es : List En} (h : ¬ (0 ≤ b ∧ b ≤ 1099511627776 ∧ 0 ≤ bt ∧ bt ≤ 1099511627776 ∧ (b = 0 ↔ bt = 0))) : chkM b bt es = 1 := chk_one fun e => h (chk_zero.1 e).1
theorem chk_at {b bt : Int} {es : List En} {i : Nat} (hi : i < es.length) (h : ¬ (1 ≤ tOf es i ∧ tOf es i ≤ 1099511627776 ∧ bt ≤ tOf es i ∧ (0 < i → tOf es (i - 1) ≤ tOf es i))) : chkM b bt es = 1 := chk_one fun e => h ((chk_zero.1 e).2 i hi)
/-- What stands at a place. -/
def termM (b bt : Int) (es : List En) (p : Int) : Int × Bool :=
  if p = b then (bt, true) else if b < p ∧ p ≤ b + es.length then (tOf es (p - b - 1).toNat, true) else (0, false)
theorem term_base {b bt : Int} {es : List En} : termM b bt es b = (bt, true) := if_pos rfl
theorem term_in {b bt : Int} {es : List En} {p : Int} (h1 : b < p) (h2 : p ≤ b + es.length) : termM b bt es p = (tOf es (p - b - 1).toNat, true) := by
  unfold termM; rw [if_neg (by omega), if_pos ⟨h1, h2⟩]
theorem term_out {b bt : Int} {es : List En} {p : Int} (h : p < b ∨ b + es.length < p) : termM b bt es p = (0, false) := by
  unfold termM; rw [if_neg (by omega), if_neg (by omega)]
theorem term_at {b bt : Int} {es : List En} {i : Nat} (h : i < es.length) : termM b bt es (b + 1 + i) = (tOf es i, true) := by
  rw [term_in (by omega) (by omega), show (b + 1 + (i : Int) - b - 1).toNat = i by omega]
theorem term_where {b bt : Int} {es : List En} {p : Int} (h : (termM b bt es p).2 = true) : b ≤ p ∧ p ≤ b + es.length := by
  unfold termM at h
  split at h
  · omega
  · split at h
    · omega
    · cases h
def fromM (b : Int) (es : List En) (p most : Int) : List En := if p ≤ b then [] else (es.drop (p - b - 1).toNat).take most.toNat
def compM (b bt : Int) (es : List En) (p : Int) : (Int × Int × List En) × Int :=
  if (termM b bt es p).2 = true then ((p, (termM b bt es p).1, es.drop (p - b).toNat), 0) else ((0, 0, []), 2)
theorem tOf_drop (es : List En) (k i : Nat) : tOf (es.drop k) i = tOf es (k + i) := by
  unfold tOf; rw [List.getD_eq_getElem?_getD, List.getElem?_drop, ← List.getD_eq_getElem?_getD]
theorem tOf_take {es : List En} {k i : Nat} (h : i < k) : tOf (es.take k) i = tOf es i := by
  unfold tOf; rw [List.getD_eq_getElem?_getD, List.getElem?_take, if_pos h, ← List.getD_eq_getElem?_getD]
section
variable {b bt : Int} {es : List En}
end
end Go.Proofs.Ytfmfphfckaiejaa
