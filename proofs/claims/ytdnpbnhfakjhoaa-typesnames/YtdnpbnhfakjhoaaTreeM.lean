/-
  The tree of words that are a condition: the document's, and the reader's, are the same.
-/
import Derived.Test.YtdnpbnhfakjhoaaScan
namespace Go.Proofs.Ytdnpbnhfakjhoaa
set_option linter.unusedVariables false


/-- Where the going through words stands: the place, how deep, whether an operand ended, the best sign. -/
structure Go1 where
  i : Nat
  deep : Int
  en : Bool
  best : Option (Nat × Nat)
def endW (x : W) : Bool := decide (x.kind = 1) || decide (x.kind = 2) || isW x 41
def better (i l : Nat) : Option (Nat × Nat) → Option (Nat × Nat)
  | none => some (i, l)
  | some b => if l ≤ b.2 then some (i, l) else some b
def deepW (x : W) (d : Int) : Int := (if isW x 40 then d + 1 else d) - (if isW x 41 then 1 else 0)
def stepG (g : Go1) (x : W) : Go1 :=
  ⟨g.i + 1, deepW x g.deep, endW x, if 0 < deepW x g.deep ∨ kindW x = 0 ∨ g.en = false then g.best else better g.i (levW x) g.best⟩
def splitM (l : List W) : Option Nat := ((l.foldl stepG ⟨0, 0, false, none⟩).best).map (·.1)
def nodeH (f : List W → Tr) (l : List W) : Tr :=
  match l with
  | [] => zeroT
  | x :: r =>
    if isW x 45 then ⟨5, 0, [], [f r]⟩
    else if isW x 33 then ⟨6, 0, [], [f r]⟩
    else if isW x 40 then f r.dropLast
    else if x.kind = 1 then ⟨1, x.n, [], []⟩
    else named x.text
def treeN : Nat → List W → Tr
  | 0, _ => zeroT
  | f + 1, l =>
    match splitM l with
    | some k => ⟨kindW (l.getD k noW), 0, [], [treeN f (l.take k), treeN f (l.drop (k + 1))]⟩
    | none => nodeH (treeN f) l
theorem isW_not {x : W} {c e : UInt8} (h : isW x c = true) (hne : [c] ≠ [e]) : isW x e = false := by
  obtain ⟨h1, h2⟩ := isW_kind h
  unfold isW
  rw [h2, decide_eq_false hne, Bool.and_false]
end Go.Proofs.Ytdnpbnhfakjhoaa
