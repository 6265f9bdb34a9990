/-
  Conditions as trees: plain mathematics.
-/
import Derived.Test.YtjafjheffbbkmaaMath
namespace Go.Proofs.Ytjafjheffbbkmaa
set_option linter.unusedVariables false



/-- A tree. -/
structure Tr where
  kind : Int
  n : Int
  name : Bs
  kids : List Tr
theorem Tr.ind {p : Tr → Prop} (h : ∀ t, (∀ k ∈ t.kids, p k) → p t) (t : Tr) : p t :=
  Tr.rec (motive_1 := p) (motive_2 := fun l => ∀ k ∈ l, p k) (fun k n nm ks ih => h ⟨k, n, nm, ks⟩ ih) (fun k hk => by simp at hk)
    (fun x r hx hr k hk => by rcases List.mem_cons.1 hk with rfl | hk; exact hx; exact hr k hk) t
def yesB : Bs := [121, 101, 115]
def noB : Bs := [110, 111]
/-- A tree and the words behind; or the error, and the words from there on. -/
abbrev Res := Except (Nat × List W) (Tr × List W)
/-- May a node be, whatever is below it? -/
def nameOk (t : Bs) : Bool := match t with
  | [] => false
  | c :: r => letter c && (c :: r).all (fun x => digit x || letter x) && decide ((c :: r).length ≤ 32)
def kidsK (k : Int) : Nat := if k < 5 then 0 else if k < 7 then 1 else 2
def fitsM (t : Tr) : Bool :=
  if t.kind < 1 ∨ 14 < t.kind ∨ t.kids.length ≠ kidsK t.kind then false
  else if t.n < 0 ∨ t.n ≠ 0 ∧ t.kind ≠ 1 then false
  else if t.kind = 2 then nameOk t.name && decide (t.name ≠ yesB) && decide (t.name ≠ noB)
  else decide (t.name = [])
def firstBad (f : Tr → Nat) : List Tr → Nat
  | [] => 0
  | k :: r => if f k ≠ 0 then f k else firstBad f r
/-- What is wrong with a tree, at a depth. -/
def checkM : Nat → Tr → Nat
  | 0, _ => 6
  | d + 1, t => if fitsM t = false then 1 else firstBad (checkM d) t.kids
def atW (en : Nat) : List W → Nat
  | [] => en
  | x :: _ => x.pos
def zeroT : Tr := ⟨0, 0, [], []⟩
end Go.Proofs.Ytjafjheffbbkmaa
