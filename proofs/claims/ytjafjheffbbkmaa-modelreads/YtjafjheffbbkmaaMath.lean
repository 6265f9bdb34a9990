/-
  The words of a text, as lists of bytes: plain mathematics.
-/
import Derived.Test.YtjafjheffbbkmaaRows
namespace Go.Proofs.Ytjafjheffbbkmaa
set_option linter.unusedVariables false



abbrev Bs := List UInt8
def digit (c : UInt8) : Bool := decide (48 ≤ c.toNat) && decide (c.toNat ≤ 57)
def letter (c : UInt8) : Bool := decide (97 ≤ c.toNat) && decide (c.toNat ≤ 122)
def signs : List UInt8 := [43, 45, 42, 47, 61, 60, 40, 41, 38, 124, 33]
def sign (c : UInt8) : Bool := signs.contains c
def kind (c : UInt8) : Nat := if digit c then 1 else if letter c then 2 else if sign c then 3 else 0
def goes (k : Nat) (c : UInt8) : Bool := if k = 1 then digit c else if k = 2 then digit c || letter c else false
def val (n : Nat) : Bs → Nat
  | [] => n
  | c :: r => val (n * 10 + (c.toNat - 48)) r
/-- A word, and where it begins. -/
structure W where
  kind : Nat
  text : Bs
  n : Nat
  pos : Nat
/-- What a text begins with. -/
structure Got where
  err : Nat
  off : Nat
  kind : Nat
  text : Bs
  n : Nat
  len : Nat
/-- A text's words, or what is wrong with it, and where. -/
structure Out where
  ws : List W
  err : Nat
  pos : Nat
def headLetter : Bs → Bool
  | [] => false
  | c :: _ => letter c
/-- The bytes of the word that a text begins with. -/
def word (c : UInt8) (r : Bs) : Bs := c :: r.takeWhile (goes (kind c))
def oneC (c : UInt8) (r : Bs) : Got :=
  if kind c = 1 then
    if 2 ^ 63 ≤ val 0 (word c r) then ⟨13, 0, 0, [], 0, 0⟩
    else if headLetter (r.dropWhile (goes (kind c))) then ⟨3, (word c r).length, 0, [], 0, 0⟩
    else ⟨0, 0, 1, [], val 0 (word c r), (word c r).length⟩
  else if kind c = 2 then
    if 32 < (word c r).length then ⟨3, 0, 0, [], 0, 0⟩ else ⟨0, 0, 2, word c r, 0, (word c r).length⟩
  else if kind c = 3 then ⟨0, 0, 3, word c r, 0, (word c r).length⟩
  else ⟨3, 0, 0, [], 0, 0⟩
def one : Bs → Got
  | [] => ⟨3, 0, 0, [], 0, 0⟩
  | c :: r => oneC c r
def join (a : List W) (r : Out) : Out := if r.err = 0 then ⟨a ++ r.ws, 0, 0⟩ else ⟨[], r.err, r.pos⟩
def spl : Nat → Bs → Nat → Out
  | 0, _, _ => ⟨[], 0, 0⟩
  | _ + 1, [], _ => ⟨[], 0, 0⟩
  | f + 1, c :: r, p =>
    if c.toNat = 32 then spl f r (p + 1)
    else if (one (c :: r)).err = 0 then join [⟨(one (c :: r)).kind, (one (c :: r)).text, (one (c :: r)).n, p⟩] (spl f ((c :: r).drop (one (c :: r)).len) (p + (one (c :: r)).len))
    else ⟨[], (one (c :: r)).err, p + (one (c :: r)).off⟩
def sp (l : Bs) (p : Nat) : Out := spl l.length l p
/-- Words stand in their order, and do not meet. -/
def Placed (l : Bs) : Nat → List W → Prop
  | _, [] => True
  | p, x :: r => p ≤ x.pos ∧ x.pos < l.length ∧ x.pos + x.text.length ≤ l.length ∧ (l.drop x.pos).take x.text.length = x.text ∧ (x.kind = 1 ∧ x.text = [] ∨ x.kind ≠ 1 ∧ x.text ≠ [] ∧ x.n = 0) ∧ x.n < 2 ^ 63 ∧ Placed l (x.pos + max 1 x.text.length) r
theorem Placed.mono {l : Bs} {p q : Nat} {ws : List W} (h : Placed l q ws) (hpq : p ≤ q) : Placed l p ws := by
  cases ws with
  | nil => trivial
  | cons x r => exact ⟨Nat.le_trans hpq h.1, h.2⟩
end Go.Proofs.Ytjafjheffbbkmaa
