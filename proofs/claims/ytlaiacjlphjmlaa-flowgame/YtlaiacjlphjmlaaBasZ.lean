/-
  The words of a text, as lists of bytes: plain mathematics.
-/
import Derived.Test.YtlaiacjlphjmlaaRows
import Derived.Laws.BitsAllLaws
import Derived.OpenShut
import Derived.WalkKit
import Derived.ProofKit
import Derived.WalkLawsBesides
import Derived.Outline
import Derived.ChangeOld
import Derived.OwnWalk
import Derived.Deep.RegionLaw
import Derived.Deep.QuietTactic
import Derived.BigQuiet
namespace Go.Proofs.Ytlaiacjlphjmlaa
section
set_option linter.unusedVariables false



abbrev Bs := List UInt8
def digit (c : UInt8) : Bool := decide (48 ≤ c.toNat) && decide (c.toNat ≤ 57)
def letter (c : UInt8) : Bool := decide (97 ≤ c.toNat) && decide (c.toNat ≤ 122)
def signs : List UInt8 := [43, 45, 42, 47, 61, 60, 40, 41, 38, 124, 33]
def sign (c : UInt8) : Bool := signs.contains c
def kind (c : UInt8) : Nat := if digit c then 1 else if letter c then 2 else if sign c then 3 else 0
def goes (k : Nat) (c : UInt8) : Bool := if k = 1 then digit c else if k = 2 then digit c || letter c else false
def val (n : Nat) : Bs → Nat
  | [] => n
  | c :: r => val (n * 10 + (c.toNat - 48)) r
/-- A word, and where it begins. -/
structure W where
  kind : Nat
  text : Bs
  n : Nat
  pos : Nat
/-- What a text begins with. -/
structure Got where
  err : Nat
  off : Nat
  kind : Nat
  text : Bs
  n : Nat
  len : Nat
/-- A text's words, or what is wrong with it, and where. -/
structure Out where
  ws : List W
  err : Nat
  pos : Nat
def headLetter : Bs → Bool
  | [] => false
  | c :: _ => letter c
/-- The bytes of the word that a text begins with. -/
def word (c : UInt8) (r : Bs) : Bs := c :: r.takeWhile (goes (kind c))
def oneC (c : UInt8) (r : Bs) : Got :=
  if kind c = 1 then
    if 2 ^ 63 ≤ val 0 (word c r) then ⟨13, 0, 0, [], 0, 0⟩
    else if headLetter (r.dropWhile (goes (kind c))) then ⟨3, (word c r).length, 0, [], 0, 0⟩
    else ⟨0, 0, 1, [], val 0 (word c r), (word c r).length⟩
  else if kind c = 2 then
    if 32 < (word c r).length then ⟨3, 0, 0, [], 0, 0⟩ else ⟨0, 0, 2, word c r, 0, (word c r).length⟩
  else if kind c = 3 then ⟨0, 0, 3, word c r, 0, (word c r).length⟩
  else ⟨3, 0, 0, [], 0, 0⟩
def one : Bs → Got
  | [] => ⟨3, 0, 0, [], 0, 0⟩
  | c :: r => oneC c r
def join (a : List W) (r : Out) : Out := if r.err = 0 then ⟨a ++ r.ws, 0, 0⟩ else ⟨[], r.err, r.pos⟩
def spl : Nat → Bs → Nat → Out
  | 0, _, _ => ⟨[], 0, 0⟩
  | _ + 1, [], _ => ⟨[], 0, 0⟩
  | f + 1, c :: r, p =>
    if c.toNat = 32 then spl f r (p + 1)
    else if (one (c :: r)).err = 0 then join [⟨(one (c :: r)).kind, (one (c :: r)).text, (one (c :: r)).n, p⟩] (spl f ((c :: r).drop (one (c :: r)).len) (p + (one (c :: r)).len))
    else ⟨[], (one (c :: r)).err, p + (one (c :: r)).off⟩
def sp (l : Bs) (p : Nat) : Out := spl l.length l p
/-- Words stand in their order, and do not meet. -/
def Placed (l : Bs) : Nat → List W → Prop
  | _, [] => True
  | p, x :: r => p ≤ x.pos ∧ x.pos < l.length ∧ x.pos + x.text.length ≤ l.length ∧ (l.drop x.pos).take x.text.length = x.text ∧ (x.kind = 1 ∧ x.text = [] ∨ x.kind ≠ 1 ∧ x.text ≠ [] ∧ x.n = 0) ∧ x.n < 2 ^ 63 ∧ Placed l (x.pos + max 1 x.text.length) r
theorem Placed.mono {l : Bs} {p q : Nat} {ws : List W} (h : Placed l q ws) (hpq : p ≤ q) : Placed l p ws := by
  cases ws with
  | nil => trivial
  | cons x r => exact ⟨Nat.le_trans hpq h.1, h.2⟩
end
section
open Go.RowKit
set_option linter.unusedVariables false



def ba (l : Bs) : ByteArray := ⟨⟨l⟩⟩
theorem ba_of (s : ByteArray) : ba s.data.toList = s := by
  unfold ba; cases s; rfl
theorem le_alloc (w : World) (o : Obj) : w.heap.size ≤ (w.alloc o).heap.size := by
  show w.heap.size ≤ (w.heap.push _).size
  rw [Array.size_push]; omega
theorem cell_of_row (w : World) (b off : Nat) (cs : Array Value) (t : TypeId) (f : Nat × Nat) (h : w.heap[b]? = some (.cells cs t f)) : w.cell? ⟨b, off, none⟩ = cs[off]? := by
  simp [World.cell?, h]
theorem heap_alloc_new (w : World) (o : Obj) : (w.alloc o).heap[w.heap.size]? = some o := by
  show (w.heap.push o)[w.heap.size]? = _
  simp
theorem size_alloc (w : World) (o : Obj) : (w.alloc o).heap.size = w.heap.size + 1 := by
  show (w.heap.push o).size = _
  rw [Array.size_push]
/-- What lies at a word's four cells. -/
structure WAt (w : World) (b off : Nat) (x : W) : Prop where
  c0 : w.cell? ⟨b, off, none⟩ = some (.int .i64 x.kind)
  c1 : w.cell? ⟨b, off + 1, none⟩ = some (.string (ba x.text))
  c2 : w.cell? ⟨b, off + 2, none⟩ = some (.int .i64 x.n)
  c3 : w.cell? ⟨b, off + 3, none⟩ = some (.int .i64 x.pos)
theorem WAt.below {w w' : World} {b off : Nat} {x : W} (h : WAt w b off x) (hb : Below w.heap.size w w') : WAt w' b off x := by
  have hlt : b < w.heap.size := World.block_lt_of_cell? w _ h.c0
  exact ⟨(hb.cell (p := ⟨b, off, none⟩) hlt).trans h.c0, (hb.cell (p := ⟨b, off + 1, none⟩) hlt).trans h.c1, (hb.cell (p := ⟨b, off + 2, none⟩) hlt).trans h.c2, (hb.cell (p := ⟨b, off + 3, none⟩) hlt).trans h.c3⟩
end
section
set_option linter.unusedVariables false



/-- A tree. -/
structure Tr where
  kind : Int
  n : Int
  name : Bs
  kids : List Tr
theorem Tr.ind {p : Tr → Prop} (h : ∀ t, (∀ k ∈ t.kids, p k) → p t) (t : Tr) : p t :=
  Tr.rec (motive_1 := p) (motive_2 := fun l => ∀ k ∈ l, p k) (fun k n nm ks ih => h ⟨k, n, nm, ks⟩ ih) (fun k hk => by simp at hk)
    (fun x r hx hr k hk => by rcases List.mem_cons.1 hk with rfl | hk; exact hx; exact hr k hk) t
def yesB : Bs := [121, 101, 115]
def noB : Bs := [110, 111]
/-- A tree and the words behind; or the error, and the words from there on. -/
abbrev Res := Except (Nat × List W) (Tr × List W)
/-- May a node be, whatever is below it? -/
def nameOk (t : Bs) : Bool := match t with
  | [] => false
  | c :: r => letter c && (c :: r).all (fun x => digit x || letter x) && decide ((c :: r).length ≤ 32)
def kidsK (k : Int) : Nat := if k < 5 then 0 else if k < 7 then 1 else 2
def fitsM (t : Tr) : Bool :=
  if t.kind < 1 ∨ 14 < t.kind ∨ t.kids.length ≠ kidsK t.kind then false
  else if t.n < 0 ∨ t.n ≠ 0 ∧ t.kind ≠ 1 then false
  else if t.kind = 2 then nameOk t.name && decide (t.name ≠ yesB) && decide (t.name ≠ noB)
  else decide (t.name = [])
def firstBad (f : Tr → Nat) : List Tr → Nat
  | [] => 0
  | k :: r => if f k ≠ 0 then f k else firstBad f r
/-- What is wrong with a tree, at a depth. -/
def checkM : Nat → Tr → Nat
  | 0, _ => 6
  | d + 1, t => if fitsM t = false then 1 else firstBad (checkM d) t.kids
def atW (en : Nat) : List W → Nat
  | [] => en
  | x :: _ => x.pos
def zeroT : Tr := ⟨0, 0, [], []⟩
end
section
open Go.RowKit
set_option linter.unusedVariables false



/-- Of the blocks that there were none but rb has turned. -/
structure Fr (rb : Nat) (w w' : World) : Prop where
  os : w'.os = w.os
  tape : w'.tape = w.tape
  output : w'.output = w.output
  size : w.heap.size ≤ w'.heap.size
  block : ∀ k, k < w.heap.size → k ≠ rb → w'.heap[k]? = w.heap[k]?
theorem Fr.refl (rb : Nat) (w : World) : Fr rb w w := ⟨rfl, rfl, rfl, Nat.le_refl _, fun _ _ _ => rfl⟩
theorem Fr.trans {rb : Nat} {a b c : World} (h : Fr rb a b) (k : Fr rb b c) : Fr rb a c :=
  ⟨k.os.trans h.os, k.tape.trans h.tape, k.output.trans h.output, Nat.le_trans h.size k.size, fun i hi hr => (k.block i (Nat.lt_of_lt_of_le hi h.size) hr).trans (h.block i hi hr)⟩
theorem Fr.of_below {rb : Nat} {a b : World} (h : Below a.heap.size a b) : Fr rb a b := ⟨h.os, h.tape, h.output, h.size, fun i hi _ => h.block i hi⟩
theorem Fr.below {rb B : Nat} {a b : World} (h : Fr rb a b) (h1 : B ≤ rb) (h2 : B ≤ a.heap.size) : Below B a b := ⟨h.os, h.tape, h.output, h.size, fun i hi => h.block i (by omega) (by omega)⟩
theorem Fr.alloc {rb : Nat} {a b : World} (h : Fr rb a b) (o : Obj) : Fr rb a (b.alloc o) :=
  h.trans (.of_below ((Below.refl _ _).alloc (Nat.le_refl _) o))
theorem Fr.setCell {rb : Nat} {a b : World} (h : Fr rb a b) {p : Addr} (hp : p.block = rb ∨ a.heap.size ≤ p.block) (v : Value) : Fr rb a (b.setCell p v) := by
  have e := (Below.refl 0 b).setCell (p := p) (Nat.zero_le _) v
  refine ⟨e.os.trans h.os, e.tape.trans h.tape, e.output.trans h.output, Nat.le_trans h.size e.size, fun i hi hr => ?_⟩
  rw [Below.heap_setCell _ _ _ _ (by rcases hp with hp | hp; rw [hp]; exact hr; omega)]
  exact h.block i hi hr
theorem Fr.cell {rb : Nat} {a b : World} (h : Fr rb a b) {g o : Nat} {v : Value} (hg : g ≠ rb) (hc : a.cell? ⟨g, o, none⟩ = some v) : b.cell? ⟨g, o, none⟩ = some v := by
  have hlt : g < a.heap.size := World.block_lt_of_cell? a _ hc
  rw [← hc]
  simp only [World.cell?]
  rw [h.block g hlt hg]
theorem Fr.frozen {rb : Nat} {a b : World} (h : Fr rb a b) {g o : Nat} (hg : g ≠ rb) (hl : g < a.heap.size) : b.frozen? ⟨g, o, none⟩ = a.frozen? ⟨g, o, none⟩ := by
  simp only [World.frozen?]
  rw [h.block g hl hg]
def InR (x : Int) : Prop := -9223372036854775808 ≤ x ∧ x ≤ 9223372036854775807
theorem inR_zero : InR 0 := ⟨by decide, by decide⟩
/-- A value that reads as a tree (of so many rows), all of it in blocks of P. -/
def TrV (w : World) (P : Nat → Prop) : Nat → Value → Tr → Prop
  | 0, _, _ => False
  | d + 1, v, t => ∃ a cap, v = .agg #[.int .i64 t.kind, .int .i64 t.n, .string (ba t.name), .slice a t.kids.length cap] ∧ t.kids.length ≤ cap ∧ InR t.kind ∧ InR t.n ∧ t.name.length ≤ 9223372036854775807 ∧ t.kids.length ≤ 9223372036854775807 ∧
      ∀ i, i < t.kids.length → ∃ b o u0 u1 u2 u3, a = some ⟨b, o, none⟩ ∧ P b ∧ w.cell? ⟨b, o + i * 4, none⟩ = some u0 ∧ w.cell? ⟨b, o + i * 4 + 1, none⟩ = some u1 ∧ w.cell? ⟨b, o + i * 4 + 2, none⟩ = some u2 ∧ w.cell? ⟨b, o + i * 4 + 3, none⟩ = some u3 ∧ TrV w P d (.agg #[u0, u1, u2, u3]) (t.kids.getD i zeroT)
theorem TrV.mono {w : World} {P : Nat → Prop} : ∀ {d : Nat} {v : Value} {t : Tr}, TrV w P d v t → ∀ {e : Nat}, d ≤ e → TrV w P e v t
  | 0, _, _, h, _, _ => h.elim
  | d + 1, v, t, ⟨a, cap, h1, h2, h3, h4, h5, h6, h7⟩, e, he => by
    obtain ⟨e, rfl⟩ : ∃ k, e = k + 1 := ⟨e - 1, by omega⟩
    refine ⟨a, cap, h1, h2, h3, h4, h5, h6, fun i hi => ?_⟩
    obtain ⟨b, o, u0, u1, u2, u3, k1, k2, k3, k4, k5, k6, k7⟩ := h7 i hi
    exact ⟨b, o, u0, u1, u2, u3, k1, k2, k3, k4, k5, k6, k7.mono (by omega)⟩
/-- What reads as a tree reads so where its blocks are as they were. -/
theorem TrV.kept {w w' : World} {P Q : Nat → Prop} (hf : ∀ g, P g → g < w.heap.size → w'.heap[g]? = w.heap[g]? ∧ Q g) : ∀ {d : Nat} {v : Value} {t : Tr}, TrV w P d v t → TrV w' Q d v t
  | 0, _, _, h => h.elim
  | d + 1, v, t, ⟨a, cap, h1, h2, h3, h4, h5, h6, h7⟩ => by
    refine ⟨a, cap, h1, h2, h3, h4, h5, h6, fun i hi => ?_⟩
    obtain ⟨b, o, u0, u1, u2, u3, k1, k2, k3, k4, k5, k6, k7⟩ := h7 i hi
    have hlt : b < w.heap.size := World.block_lt_of_cell? w _ k3
    obtain ⟨e, q⟩ := hf b k2 hlt
    have hc : ∀ o, w'.cell? ⟨b, o, none⟩ = w.cell? ⟨b, o, none⟩ := fun o => by simp only [World.cell?]; rw [e]
    exact ⟨b, o, u0, u1, u2, u3, k1, q, (hc _).trans k3, (hc _).trans k4, (hc _).trans k5, (hc _).trans k6, k7.kept hf⟩
/-- A value reads as a tree. -/
def Tre (w : World) (P : Nat → Prop) (v : Value) (t : Tr) : Prop := ∃ d, TrV w P d v t
theorem Tre.kept {w w' : World} {P Q : Nat → Prop} {v : Value} {t : Tr} (h : Tre w P v t) (hf : ∀ g, P g → g < w.heap.size → w'.heap[g]? = w.heap[g]? ∧ Q g) : Tre w' Q v t := by
  obtain ⟨d, h⟩ := h; exact ⟨d, h.kept hf⟩
theorem Tre.moved {w w' : World} {rb : Nat} {P Q : Nat → Prop} {v : Value} {t : Tr} (h : Tre w P v t) (hf : Fr rb w w') (hl : ∀ g, P g → g ≠ rb ∧ Q g) : Tre w' Q v t :=
  h.kept fun g hg hlt => ⟨hf.block g hlt (hl g hg).1, (hl g hg).2⟩
theorem Tre.below {w w' : World} {P : Nat → Prop} {v : Value} {t : Tr} (h : Tre w P v t) (hf : Below w.heap.size w w') : Tre w' P v t :=
  h.kept fun g hg hlt => ⟨hf.block g hlt, hg⟩
theorem Tre.sub {w : World} {P Q : Nat → Prop} {v : Value} {t : Tr} (h : Tre w P v t) (hl : ∀ g, P g → Q g) : Tre w Q v t :=
  h.kept fun g hg _ => ⟨rfl, hl g hg⟩
theorem Tre.set {w : World} {P : Nat → Prop} {v : Value} {t : Tr} (h : Tre w P v t) {p : Addr} (hp : ¬ P p.block) (x : Value) : Tre (w.setCell p x) P v t :=
  h.kept fun g hg hlt => ⟨Below.heap_setCell _ _ _ _ (fun e => hp (e ▸ hg)), hg⟩
theorem Tre.alloc {w : World} {P : Nat → Prop} {v : Value} {t : Tr} (h : Tre w P v t) (o : Obj) : Tre (w.alloc o) P v t :=
  h.below ((Below.refl _ _).alloc (Nat.le_refl _) o)
theorem Tre.leaf (w : World) (P : Nat → Prop) {k n : Int} (hk : InR k) (hn : InR n) (nm : Bs) (hm : nm.length ≤ 9223372036854775807) : Tre w P (.agg #[.int .i64 k, .int .i64 n, .string (ba nm), .slice none 0 0]) ⟨k, n, nm, []⟩ :=
  ⟨1, none, 0, rfl, Nat.le_refl _, hk, hn, hm, Nat.zero_le _, fun i hi => by simp at hi⟩
theorem Tre.four {w : World} {P : Nat → Prop} {v : Value} {t : Tr} (h : Tre w P v t) : ∃ a cap, v = .agg #[.int .i64 t.kind, .int .i64 t.n, .string (ba t.name), .slice a t.kids.length cap] := by
  obtain ⟨d, h⟩ := h
  cases d with
  | zero => exact h.elim
  | succ d => obtain ⟨a, cap, h1, _⟩ := h; exact ⟨a, cap, h1⟩
theorem Tre.node1 {w : World} {P : Nat → Prop} {g : Nat} {k : Int} (hk : InR k) {u0 u1 u2 u3 : Value} {x : Tr} (h : Tre w P (.agg #[u0, u1, u2, u3]) x) (hg : P g)
    (c0 : w.cell? ⟨g, 0, none⟩ = some u0) (c1 : w.cell? ⟨g, 1, none⟩ = some u1) (c2 : w.cell? ⟨g, 2, none⟩ = some u2) (c3 : w.cell? ⟨g, 3, none⟩ = some u3) :
    Tre w P (.agg #[.int .i64 k, .int .i64 0, .string ⟨#[]⟩, .slice (some ⟨g, 0, none⟩) 1 1]) ⟨k, 0, [], [x]⟩ := by
  obtain ⟨d, h⟩ := h
  refine ⟨d + 1, _, 1, rfl, Nat.le_refl _, hk, inR_zero, (by show (0 : Nat) ≤ _; decide), (by show (1 : Nat) ≤ _; decide), fun i hi => ?_⟩
  have : i = 0 := by simp at hi; omega
  subst this
  exact ⟨g, 0, u0, u1, u2, u3, rfl, hg, c0, c1, c2, c3, h⟩
theorem Tre.node2 {w : World} {P : Nat → Prop} {g : Nat} {k : Int} (hk : InR k) {u0 u1 u2 u3 v0 v1 v2 v3 : Value} {x y : Tr} (h : Tre w P (.agg #[u0, u1, u2, u3]) x) (h' : Tre w P (.agg #[v0, v1, v2, v3]) y) (hg : P g)
    (c0 : w.cell? ⟨g, 0, none⟩ = some u0) (c1 : w.cell? ⟨g, 1, none⟩ = some u1) (c2 : w.cell? ⟨g, 2, none⟩ = some u2) (c3 : w.cell? ⟨g, 3, none⟩ = some u3)
    (c4 : w.cell? ⟨g, 4, none⟩ = some v0) (c5 : w.cell? ⟨g, 5, none⟩ = some v1) (c6 : w.cell? ⟨g, 6, none⟩ = some v2) (c7 : w.cell? ⟨g, 7, none⟩ = some v3) :
    Tre w P (.agg #[.int .i64 k, .int .i64 0, .string ⟨#[]⟩, .slice (some ⟨g, 0, none⟩) 2 2]) ⟨k, 0, [], [x, y]⟩ := by
  obtain ⟨d, h⟩ := h
  obtain ⟨d', h'⟩ := h'
  refine ⟨max d d' + 1, _, 2, rfl, Nat.le_refl _, hk, inR_zero, (by show (0 : Nat) ≤ _; decide), (by show (2 : Nat) ≤ _; decide), fun i hi => ?_⟩
  have : i = 0 ∨ i = 1 := by simp at hi; omega
  rcases this with rfl | rfl
  · exact ⟨g, 0, u0, u1, u2, u3, rfl, hg, c0, c1, c2, c3, h.mono (Nat.le_max_left _ _)⟩
  · exact ⟨g, 0, v0, v1, v2, v3, rfl, hg, c4, c5, c6, c7, h'.mono (Nat.le_max_right _ _)⟩
/-- Words that lie one behind the other, below rb. -/
def WsAt (w : World) (rb : Nat) : Option Addr → List W → Prop
  | _, [] => True
  | a, x :: r => ∃ b o, a = some ⟨b, o, none⟩ ∧ b < rb ∧ WAt w b o x ∧ WsAt w rb (some ⟨b, o + 4, none⟩) r
theorem WAt.fr {rb : Nat} {w w' : World} {b o : Nat} {x : W} (h : WAt w b o x) (hf : Fr rb w w') (hb : b ≠ rb) : WAt w' b o x :=
  ⟨hf.cell hb h.c0, hf.cell hb h.c1, hf.cell hb h.c2, hf.cell hb h.c3⟩
theorem WsAt.fr {rb : Nat} {w w' : World} (hf : Fr rb w w') : ∀ {a : Option Addr} {ws : List W}, WsAt w rb a ws → WsAt w' rb a ws
  | _, [], _ => True.intro
  | a, x :: r, ⟨b, o, h1, h2, h3, h4⟩ => ⟨b, o, h1, h2, h3.fr hf (by omega), h4.fr hf⟩
/-- A word of a text: signs are one byte, numbers fit. -/
def Wok (x : W) : Prop := (x.kind = 3 → ∃ c, x.text = [c]) ∧ x.n < 9223372036854775808 ∧ x.text.length ≤ 4096 ∧ x.kind ≤ 3 ∧ x.pos ≤ 4096
/-- The reader at rb has ws still to read. -/
structure Rd (w : World) (rb en : Nat) (ws : List W) : Prop where
  cells : ∃ a cap, w.cell? ⟨rb, 0, none⟩ = some (.slice a ws.length cap) ∧ ws.length ≤ cap ∧ WsAt w rb a ws
  last : w.cell? ⟨rb, 1, none⟩ = some (.int .i64 en)
  free : ∀ i, w.frozen? ⟨rb, i, none⟩ = false
  ok : ∀ x ∈ ws, Wok x
  len : ws.length ≤ 4096
theorem Rd.lt {w : World} {rb en : Nat} {ws : List W} (h : Rd w rb en ws) : rb < w.heap.size := World.block_lt_of_cell? w _ h.last
theorem Rd.below {w w' : World} {rb en : Nat} {ws : List W} (h : Rd w rb en ws) (hb : Below w.heap.size w w') : Rd w' rb en ws := by
  obtain ⟨a, cap, h1, h2, h4⟩ := h.cells
  refine ⟨⟨a, cap, (hb.cell (p := ⟨rb, 0, none⟩) h.lt).trans h1, h2, h4.fr (.of_below hb)⟩, (hb.cell (p := ⟨rb, 1, none⟩) h.lt).trans h.last, fun i => ?_, h.ok, h.len⟩
  have := h.free i
  simp only [World.frozen?] at this ⊢
  rw [hb.block rb h.lt]
  exact this
/-- Four cells of a block of the call's own. -/
structure Cell4 (w : World) (b : Nat) (v0 v1 v2 v3 : Value) : Prop where
  c0 : w.cell? ⟨b, 0, none⟩ = some v0
  c1 : w.cell? ⟨b, 1, none⟩ = some v1
  c2 : w.cell? ⟨b, 2, none⟩ = some v2
  c3 : w.cell? ⟨b, 3, none⟩ = some v3
  free : ∀ i, w.frozen? ⟨b, i, none⟩ = false
theorem Cell4.lt {w : World} {b : Nat} {v0 v1 v2 v3 : Value} (h : Cell4 w b v0 v1 v2 v3) : b < w.heap.size := World.block_lt_of_cell? w _ h.c0
theorem Cell4.new (w : World) (v0 v1 v2 v3 : Value) (t : TypeId) : Cell4 (w.alloc (.cells #[v0, v1, v2, v3] t)) w.heap.size v0 v1 v2 v3 := by
  have k := heap_alloc_new w (.cells #[v0, v1, v2, v3] t)
  refine ⟨?_, ?_, ?_, ?_, fun i => by simp only [World.frozen?]; rw [k]; simp⟩ <;> (rw [cell_of_row _ _ _ _ t (0, 0) k]; rfl)
theorem Cell4.fr {w w' : World} {rb b : Nat} {v0 v1 v2 v3 : Value} (h : Cell4 w b v0 v1 v2 v3) (hf : Fr rb w w') (hb : b ≠ rb) : Cell4 w' b v0 v1 v2 v3 :=
  ⟨hf.cell hb h.c0, hf.cell hb h.c1, hf.cell hb h.c2, hf.cell hb h.c3, fun i => (hf.frozen hb h.lt).trans (h.free i)⟩
theorem Cell4.below {w w' : World} {b : Nat} {v0 v1 v2 v3 : Value} (h : Cell4 w b v0 v1 v2 v3) (hf : Below w.heap.size w w') : Cell4 w' b v0 v1 v2 v3 :=
  h.fr (rb := b + 1) (.of_below hf) (by omega)
theorem Cell4.alloc {w : World} {b : Nat} {v0 v1 v2 v3 : Value} (h : Cell4 w b v0 v1 v2 v3) (o : Obj) : Cell4 (w.alloc o) b v0 v1 v2 v3 :=
  h.below ((Below.refl _ _).alloc (Nat.le_refl _) o)
theorem Rd.alloc {w : World} {rb en : Nat} {ws : List W} (h : Rd w rb en ws) (o : Obj) : Rd (w.alloc o) rb en ws := h.below ((Below.refl _ _).alloc (Nat.le_refl _) o)
theorem Rd.fr {w w' : World} {rb en g : Nat} {ws : List W} (h : Rd w rb en ws) (hf : Fr g w w') (hg : rb < g) : Rd w' rb en ws := by
  obtain ⟨a, cap, h1, h2, h4⟩ := h.cells
  have hws : ∀ {a : Option Addr} {ws : List W}, WsAt w rb a ws → WsAt w' rb a ws := by
    intro a ws
    induction ws generalizing a with
    | nil => exact fun _ => True.intro
    | cons x r ih => rintro ⟨b, o, k1, k2, k3, k4⟩; exact ⟨b, o, k1, k2, k3.fr hf (by omega), ih k4⟩
  exact ⟨⟨a, cap, hf.cell (by omega) h1, h2, hws h4⟩, hf.cell (by omega) h.last, fun i => (hf.frozen (by omega) h.lt).trans (h.free i), h.ok, h.len⟩
theorem Rd.set {w : World} {rb en : Nat} {ws : List W} (h : Rd w rb en ws) {p : Addr} (hp : rb < p.block) (v : Value) : Rd (w.setCell p v) rb en ws :=
  h.fr ((Fr.refl p.block w).setCell (.inl rfl) v) hp
/-- What a method of the reader leaves. -/
def Post (rb en : Nat) (w : World) (R : Res) (e : Ending) (w' : World) : Prop :=
  match R with
  | .ok (t, r) => (∃ (k n : Int) (s : ByteArray) (a : Option Addr) (l c : Nat), e = .returned (.agg #[.int .i64 k, .int .i64 n, .string s, .slice a l c]) ∧ Tre w' (fun g => w.heap.size ≤ g) (.agg #[.int .i64 k, .int .i64 n, .string s, .slice a l c]) t) ∧ Rd w' rb en r ∧ Fr rb w w'
  | .error (x, r) => e = .panicked [{ v := .iface 28 (.agg #[.int .i64 x, .int .i64 (atW en r)]), recovered := false }] ∧ Fr rb w w'
theorem Post.ok {rb en : Nat} {w w' : World} {v : Value} {t : Tr} {r : List W} (h : Tre w' (fun g => w.heap.size ≤ g) v t) (h2 : Rd w' rb en r) (h3 : Fr rb w w') : Post rb en w (.ok (t, r)) (.returned v) w' := by
  obtain ⟨a, c, rfl⟩ := h.four
  exact ⟨⟨_, _, _, _, _, _, rfl, h⟩, h2, h3⟩
end
section
open Go.RowKit



/-- A text's byte. -/
def sb (s : ByteArray) (k : Nat) : Int := if h : k < s.size then ((s[k]'h).toNat : Int) else 0
theorem sb_at {s : ByteArray} {k : Nat} (h : k < s.size) : sb s k = ((s[k]'h).toNat : Int) := dif_pos h
def lt (s : ByteArray) (k : Nat) : Bool := decide (97 ≤ sb s k ∧ sb s k ≤ 122)
def dg (s : ByteArray) (k : Nat) : Bool := decide (48 ≤ sb s k ∧ sb s k ≤ 57)
/-- Is it a name? -/
def Nm (s : ByteArray) : Prop := 0 < s.size ∧ s.size ≤ 32 ∧ lt s 0 = true ∧ ∀ j, j < s.size → (lt s j = true ∨ dg s j = true)
def nm (s : ByteArray) : Bool := decide (0 < s.size) && (decide (s.size ≤ 32) && (lt s 0 && (List.range s.size).all fun j => lt s j || dg s j))
theorem nm_iff (s : ByteArray) : nm s = true ↔ Nm s := by
  unfold nm Nm
  simp only [Bool.and_eq_true, decide_eq_true_eq, List.all_eq_true, List.mem_range, Bool.or_eq_true]
theorem nm_yes {s : ByteArray} (h : Nm s) : nm s = true := (nm_iff s).2 h
theorem nm_no {s : ByteArray} (h : ¬ Nm s) : nm s = false := by
  cases hn : nm s with
  | false => rfl
  | true => exact absurd ((nm_iff s).1 hn) h
theorem ret_yes {s : ByteArray} (h : Nm s) : Ending.returned (.bool true) = .returned (.bool (nm s)) := by rw [nm_yes h]
theorem ret_no {s : ByteArray} (h : ¬ Nm s) : Ending.returned (.bool false) = .returned (.bool (nm s)) := by rw [nm_no h]
set_option maxRecDepth 100000 in
theorem letter_any (x : Int) (w : World) (h0 : 0 ≤ x) (h1 : x ≤ 255) : Calls Try.prog 43 #[.int .u8 x] w fun e w' => e = .returned (.bool (decide (97 ≤ x ∧ x ≤ 122))) ∧ w' = w := by
  go_enter Try.func43, Try.ntmps43
  go_wp2
  · go_ret
    have : 97 ≤ x := by assumption
    exact ⟨by simp [this], rfl⟩
  · go_ret
    refine ⟨?_, rfl⟩
    have : ¬ 97 ≤ x := by omega
    simp [this]
set_option maxRecDepth 100000 in
theorem digit_any (x : Int) (w : World) (h0 : 0 ≤ x) (h1 : x ≤ 255) : Calls Try.prog 44 #[.int .u8 x] w fun e w' => e = .returned (.bool (decide (48 ≤ x ∧ x ≤ 57))) ∧ w' = w := by
  go_enter Try.func44, Try.ntmps44
  go_wp2
  · go_ret
    have : 48 ≤ x := by assumption
    exact ⟨by simp [this], rfl⟩
  · go_ret
    refine ⟨?_, rfl⟩
    have : ¬ 48 ≤ x := by omega
    simp [this]
theorem byte_range (b : UInt8) : 0 ≤ (b.toNat : Int) ∧ (b.toNat : Int) ≤ 255 := by have := b.toNat_lt; omega
theorem letter_s (s : ByteArray) (k : Nat) (h : k < s.size) (w : World) : Calls Try.prog 43 #[.int .u8 ((s[k]'h).toNat : Int)] w fun e w' => e = .returned (.bool (lt s k)) ∧ w' = w := by
  have := letter_any ((s[k]'h).toNat : Int) w (byte_range _).1 (byte_range _).2
  unfold lt
  rw [sb_at h]; exact this
theorem digit_s (s : ByteArray) (k : Nat) (h : k < s.size) (w : World) : Calls Try.prog 44 #[.int .u8 ((s[k]'h).toNat : Int)] w fun e w' => e = .returned (.bool (dg s k)) ∧ w' = w := by
  have := digit_any ((s[k]'h).toNat : Int) w (byte_range _).1 (byte_range _).2
  unfold dg
  rw [sb_at h]; exact this
set_option maxRecDepth 100000 in
set_option maxHeartbeats 1000000 in
theorem name_any (s : ByteArray) (w : World) (hs : s.size ≤ 9223372036854775807) : Calls Try.prog 29 #[.string s] w fun e w' => e = .returned (.bool (nm s)) ∧ w' = w := by
  by_cases h0 : s.size = 0
  · have HE : Hid (¬ Nm s) := by rintro ⟨h, _⟩; omega
    go_enter Try.func29, Try.ntmps29
    go_wp2_with (fail)
    go_ret
    exact ⟨ret_no HE.out, rfl⟩
  by_cases h32 : 32 < s.size
  · have HE : Hid (¬ Nm s) := by rintro ⟨_, h, _⟩; omega
    go_enter Try.func29, Try.ntmps29
    go_wp2_with (fail)
    go_ret
    exact ⟨ret_no HE.out, rfl⟩
  have hp : 0 < s.size := by omega
  have hz : ((s.size : Int) == 0) = false := by rw [beq_eq_false_iff_ne]; omega
  have hz2 : ¬ (32 : Int) < (s.size : Int) := by omega
  by_cases hl : lt s 0 = true
  case neg =>
    have HE : Hid (¬ Nm s) := by rintro ⟨_, _, h, _⟩; exact hl h
    have hl' : lt s 0 = false := by simpa using hl
    clear hl
    go_enter Try.func29, Try.ntmps29
    go_wp2_with (go_at_call 43; refine (letter_s s 0 hp _).mono ?_; rintro e w' ⟨rfl, rfl⟩)
    go_ret
    exact ⟨ret_no HE.out, rfl⟩
  case pos =>
    go_enter Try.func29, Try.ntmps29
    go_wp2_with (go_at_call 43; refine (letter_s s 0 hp _).mono ?_; rintro e w' ⟨rfl, rfl⟩)
    go_loop [20] (fun i => ∃ k : Nat, k ≤ s.size ∧ i = .int .i64 k ∧ Hid (∀ j, j < k → (lt s j = true ∨ dg s j = true))) (fun i => s.size - (intOf i).toNat)
    case atStart => exact ⟨0, Nat.zero_le _, rfl, fun j hj => absurd hj (Nat.not_lt_zero _)⟩
    case round =>
      obtain ⟨k, hk, rfl, HA⟩ := hrel
      have HL : Hid (lt s 0 = true) := hl
      clear hl
      by_cases hlt : k < s.size
      · by_cases h1 : lt s k = true
        · go_wp2_with (go_at_call 43; refine (letter_s s k hlt _).mono ?_; rintro e w' ⟨rfl, rfl⟩)
          go_round
          case rel => exact ⟨k + 1, by omega, by go_num, fun j hj => by rcases Nat.lt_succ_iff_lt_or_eq.1 hj with h | h; exact HA.out j h; rw [h]; exact .inl h1⟩
          case measure => simp [intOf]; omega
        · have h1' : lt s k = false := by simpa using h1
          clear h1
          by_cases h2 : dg s k = true
          · go_wp2_with (first
              | (go_at_call 43; refine (letter_s s k hlt _).mono ?_; rintro e w' ⟨rfl, rfl⟩)
              | (go_at_call 44; refine (digit_s s k hlt _).mono ?_; rintro e w' ⟨rfl, rfl⟩))
            go_round
            case rel => exact ⟨k + 1, by omega, by go_num, fun j hj => by rcases Nat.lt_succ_iff_lt_or_eq.1 hj with h | h; exact HA.out j h; rw [h]; exact .inr h2⟩
            case measure => simp [intOf]; omega
          · have h2' : dg s k = false := by simpa using h2
            clear h2
            have HE : Hid (¬ Nm s) := by rintro ⟨_, _, _, h⟩; rcases h k hlt with h | h; rw [h1'] at h; cases h; rw [h2'] at h; cases h
            go_wp2_with (first
              | (go_at_call 43; refine (letter_s s k hlt _).mono ?_; rintro e w' ⟨rfl, rfl⟩)
              | (go_at_call 44; refine (digit_s s k hlt _).mono ?_; rintro e w' ⟨rfl, rfl⟩))
            go_ret
            exact ⟨ret_no HE.out, rfl⟩
      · have hkn : k = s.size := by omega
        have HE : Hid (Nm s) := ⟨by omega, by omega, HL.out, by rw [← hkn]; exact HA.out⟩
        subst hkn
        go_wp2
        go_ret
        exact ⟨ret_yes HE.out, rfl⟩
theorem nm_of {s : ByteArray} (hp : 0 < s.size) (h32 : s.size ≤ 32) (h0 : 97 ≤ ((s[0]'hp).toNat : Int)) (h : ∀ j, j < s.size → (lt s j = true ∨ dg s j = true)) : Nm s := by
  refine ⟨hp, h32, ?_, h⟩
  rcases h 0 hp with h1 | h1
  · exact h1
  · unfold dg at h1
    rw [sb_at hp] at h1
    simp at h1
    omega
theorem good {s : ByteArray} {k : Nat} (h : k < s.size) (h1 : (48 ≤ ((s[k]'h).toNat : Int) ∧ ((s[k]'h).toNat : Int) ≤ 57) ∨ (97 ≤ ((s[k]'h).toNat : Int) ∧ ((s[k]'h).toNat : Int) ≤ 122)) : lt s k = true ∨ dg s k = true := by
  unfold lt dg; rw [sb_at h]
  rcases h1 with h1 | h1
  · exact .inr (decide_eq_true h1)
  · exact .inl (decide_eq_true h1)
theorem nm_bad {s : ByteArray} {k : Nat} (h : k < s.size) (h1 : ¬ ((48 ≤ ((s[k]'h).toNat : Int) ∧ ((s[k]'h).toNat : Int) ≤ 57) ∨ (97 ≤ ((s[k]'h).toNat : Int) ∧ ((s[k]'h).toNat : Int) ≤ 122))) : ¬ Nm s := by
  rintro ⟨_, _, _, ha⟩
  have := ha k h
  unfold lt dg at this; rw [sb_at h] at this
  rcases this with h2 | h2
  · exact h1 (.inr (of_decide_eq_true h2))
  · exact h1 (.inl (of_decide_eq_true h2))
set_option maxRecDepth 100000 in
set_option maxHeartbeats 1000000 in
theorem rname_any (s : ByteArray) (w : World) (hs : s.size ≤ 9223372036854775807) : Calls Try.prog 35 #[.string s] w fun e w' => e = .returned (.bool (nm s)) ∧ w' = w := by
  by_cases h0 : s.size = 0
  · have HE : Hid (¬ Nm s) := by rintro ⟨h, _⟩; omega
    go_enter Try.func35, Try.ntmps35
    go_wp2
    go_ret
    exact ⟨ret_no HE.out, rfl⟩
  by_cases h32 : 32 < s.size
  · have HE : Hid (¬ Nm s) := by rintro ⟨_, h, _⟩; omega
    go_enter Try.func35, Try.ntmps35
    go_wp2
    go_ret
    exact ⟨ret_no HE.out, rfl⟩
  have hp : 0 < s.size := by omega
  have hz : ((s.size : Int) == 0) = false := by rw [beq_eq_false_iff_ne]; omega
  have hz2 : ¬ (32 : Int) < (s.size : Int) := by omega
  by_cases hl : ((s[0]'hp).toNat : Int) < 97
  case pos =>
    have HE : Hid (¬ Nm s) := by rintro ⟨_, _, h, _⟩; unfold lt at h; rw [sb_at hp] at h; simp at h; omega
    go_enter Try.func35, Try.ntmps35
    go_wp2
    all_goals (go_ret; exact ⟨ret_no HE.out, rfl⟩)
  case neg =>
    have HL : Hid (97 ≤ ((s[0]'hp).toNat : Int)) := by show _ ≤ _; omega
    go_enter Try.func35, Try.ntmps35
    go_wp2
    clear hl
    go_loop [3] (fun i => ∃ k : Nat, k ≤ s.size ∧ i = .int .i64 k ∧ Hid (∀ j, j < k → (lt s j = true ∨ dg s j = true))) (fun i => s.size - (intOf i).toNat)
    case atStart => exact ⟨0, Nat.zero_le _, rfl, fun j hj => absurd hj (Nat.not_lt_zero _)⟩
    case round =>
      obtain ⟨k, hk, rfl, HA⟩ := hrel
      by_cases hlt : k < s.size
      · have hx : ((s[k]'hlt).toNat : Int) < 48 ∨ (48 ≤ ((s[k]'hlt).toNat : Int) ∧ ((s[k]'hlt).toNat : Int) ≤ 57) ∨ (57 < ((s[k]'hlt).toNat : Int) ∧ ((s[k]'hlt).toNat : Int) < 97) ∨ (97 ≤ ((s[k]'hlt).toNat : Int) ∧ ((s[k]'hlt).toNat : Int) ≤ 122) ∨ 122 < ((s[k]'hlt).toNat : Int) := by omega
        rcases hx with hx | ⟨hx, hy⟩ | ⟨hx, hy⟩ | ⟨hx, hy⟩ | hx
        · have HE : Hid (¬ Nm s) := nm_bad hlt (by omega)
          go_wp2
          go_ret
          exact ⟨ret_no HE.out, rfl⟩
        · have HG : Hid (lt s k = true ∨ dg s k = true) := good hlt (by omega)
          go_wp2
          go_round
          case rel => exact ⟨k + 1, by omega, by go_num, fun j hj => by rcases Nat.lt_succ_iff_lt_or_eq.1 hj with h | h; exact HA.out j h; rw [h]; exact HG.out⟩
          case measure => simp [intOf]; omega
        · have HE : Hid (¬ Nm s) := nm_bad hlt (by omega)
          have hd : ¬ (((s[k]'hlt).toNat : Int) ≤ 57) := by omega
          go_wp2
          go_ret
          exact ⟨ret_no HE.out, rfl⟩
        · have HG : Hid (lt s k = true ∨ dg s k = true) := good hlt (by omega)
          go_wp2
          go_round
          case rel => exact ⟨k + 1, by omega, by go_num, fun j hj => by rcases Nat.lt_succ_iff_lt_or_eq.1 hj with h | h; exact HA.out j h; rw [h]; exact HG.out⟩
          case measure => simp [intOf]; omega
        · have HE : Hid (¬ Nm s) := nm_bad hlt (by omega)
          have hd : ¬ (((s[k]'hlt).toNat : Int) ≤ 57) := by omega
          have hd2 : ¬ (((s[k]'hlt).toNat : Int) ≤ 122) := by omega
          go_wp2
          go_ret
          exact ⟨ret_no HE.out, rfl⟩
      · have hkn : k = s.size := by omega
        have HE : Hid (Nm s) := nm_of hp (by omega) HL.out (by rw [← hkn]; exact HA.out)
        subst hkn
        go_wp2
        go_ret
        exact ⟨ret_yes HE.out, rfl⟩
end
section
open Go.RowKit
set_option linter.unusedVariables false



theorem ba_toList (t : Bs) : (ba t).toList = t := by unfold ba; rw [ByteArray.toList_mk]
theorem ba_ne {t l : Bs} (h : ¬ t = l) : ((ba t).toList == l) = false := by rw [ba_toList]; simpa using h
theorem ba_eq {t l : Bs} (h : t = l) : ((ba t).toList == l) = true := by rw [ba_toList]; simpa using h
end
section
open Go.RowKit
set_option linter.unusedVariables false



theorem lt_letter (t : Bs) (k : Nat) (h : k < t.length) : lt (ba t) k = letter t[k] := by
  unfold lt letter
  rw [sb_at (s := ba t) h]
  have e : (ba t)[k]'h = t[k] := rfl
  rw [e, ← Bool.decide_and]
  apply decide_eq_decide.2
  omega
theorem dg_digit (t : Bs) (k : Nat) (h : k < t.length) : dg (ba t) k = digit t[k] := by
  unfold dg digit
  rw [sb_at (s := ba t) h]
  have e : (ba t)[k]'h = t[k] := rfl
  rw [e, ← Bool.decide_and]
  apply decide_eq_decide.2
  omega
theorem nm_ok (t : Bs) : nm (ba t) = nameOk t := by
  rw [Bool.eq_iff_iff, nm_iff]
  cases t with
  | nil => constructor
           · rintro ⟨h, _⟩; exact absurd h (by decide)
           · intro h; cases h
  | cons c r =>
    show Nm (ba (c :: r)) ↔ (letter c && (c :: r).all (fun x => digit x || letter x) && decide ((c :: r).length ≤ 32)) = true
    constructor
    · rintro ⟨h1, h2, h3, h4⟩
      rw [lt_letter (c :: r) 0 (by simp)] at h3
      simp only [Bool.and_eq_true, decide_eq_true_eq]
      refine ⟨⟨h3, ?_⟩, h2⟩
      rw [List.all_eq_true]
      intro x hx
      obtain ⟨j, hj, rfl⟩ := List.mem_iff_getElem.1 hx
      have := h4 j hj
      rw [lt_letter _ j hj, dg_digit _ j hj] at this
      rcases this with h | h <;> simp [h]
    · intro h
      simp only [Bool.and_eq_true, decide_eq_true_eq] at h
      obtain ⟨⟨h3, h4⟩, h2⟩ := h
      refine ⟨by show 0 < (c :: r).length; simp, h2, ?_, fun j hj => ?_⟩
      · rw [lt_letter (c :: r) 0 (by simp)]; exact h3
      · have hj' : j < (c :: r).length := hj
        rw [lt_letter _ j hj', dg_digit _ j hj']
        have := List.all_eq_true.1 h4 _ (List.getElem_mem hj')
        simp only [Bool.or_eq_true] at this
        exact this.symm
def fitsB (k n : Int) (t : Bs) (l : Nat) : Bool :=
  if k < 1 ∨ 14 < k ∨ l ≠ kidsK k then false
  else if n < 0 ∨ n ≠ 0 ∧ k ≠ 1 then false
  else if k = 2 then nameOk t && decide (t ≠ yesB) && decide (t ≠ noB)
  else decide (t = [])
set_option maxRecDepth 100000 in
theorem kids_any (k : Int) (w : World) : Calls Try.prog 89 #[.int .i64 k] w fun e w' => e = .returned (.int .i64 (kidsK k)) ∧ w' = w := by
  go_enter Try.func89, Try.ntmps89
  go_wp2
  all_goals (go_ret; refine ⟨?_, rfl⟩; congr 3; unfold kidsK; first | (rw [if_pos (by omega)]; rfl) | (rw [if_neg (by omega), if_pos (by omega)]; rfl) | (rw [if_neg (by omega), if_neg (by omega)]; rfl))
theorem below_drewN {B : Nat} {w w' : World} (h : Below B w w') : ∀ n, Below B w (w'.drewN n)
  | 0 => h
  | n + 1 => Below.drew (below_drewN h n)
set_option maxRecDepth 100000 in
set_option maxHeartbeats 800000 in
theorem fits_any (k n : Int) (t : Bs) (a : Option Addr) (l c : Nat) (w : World) (hs : t.length ≤ 9223372036854775807) (hl : l ≤ 9223372036854775807) (hk : InR k) (hn : InR n) :
    Calls Try.prog 86 #[.agg #[.int .i64 k, .int .i64 n, .string (ba t), .slice a l c]] w fun e w' => e = .returned (.bool (fitsB k n t l)) ∧ Below w.heap.size w w' := by
  have HK : Hid (∀ w, Calls Try.prog 89 #[.int .i64 k] w fun e w' => e = .returned (.int .i64 (kidsK k)) ∧ w' = w) := fun w => kids_any k w
  have HN : Hid (∀ w, Calls Try.prog 29 #[.string (ba t)] w fun e w' => e = .returned (.bool (nameOk t)) ∧ w' = w) := fun w => by rw [← nm_ok]; exact name_any (ba t) w hs
  by_cases h1 : k < 1
  · have HE : Hid (fitsB k n t l = false) := if_pos (.inl h1)
    rw [HE.out]
    have g1 : decide (k < 1) = true := decide_eq_true h1
    go_enter Try.func86, Try.ntmps86
    go_wp2
    go_quiet (fail)
    go_wp2
    go_ret
    exact ⟨rfl, below_drewN ((Below.refl _ _).alloc (Nat.le_refl _) _) _⟩
  by_cases h2 : 14 < k
  · have HE : Hid (fitsB k n t l = false) := if_pos (.inr (.inl h2))
    rw [HE.out]
    have g1 : decide (k < 1) = false := decide_eq_false h1
    have g2 : decide (14 < k) = true := decide_eq_true h2
    go_enter Try.func86, Try.ntmps86
    go_wp2
    go_quiet (fail)
    go_wp2
    go_ret
    exact ⟨rfl, below_drewN ((Below.refl _ _).alloc (Nat.le_refl _) _) _⟩
  have g1 : decide (k < 1) = false := decide_eq_false h1
  have g2 : decide (14 < k) = false := decide_eq_false h2
  by_cases h3 : l ≠ kidsK k
  · have HE : Hid (fitsB k n t l = false) := if_pos (.inr (.inr h3))
    rw [HE.out]
    generalize kidsK k = kk at *
    have g3 : ((l : Int) == (kk : Int)) = false := by simp; omega
    go_enter Try.func86, Try.ntmps86
    go_wp2
    go_quiet (first | (go_at_call 89; exact Calls.quiet_of_same (HK.out _)))
    go_wp2
    go_ret
    exact ⟨rfl, below_drewN ((Below.refl _ _).alloc (Nat.le_refl _) _) _⟩
  have h3' : l = kidsK k := by omega
  have HE : Hid (fitsB k n t l = if n < 0 ∨ n ≠ 0 ∧ k ≠ 1 then false else if k = 2 then nameOk t && decide (t ≠ yesB) && decide (t ≠ noB) else decide (t = [])) := if_neg (by rintro (h | h | h); exact h1 h; exact h2 h; exact h3 h)
  rw [HE.out]
  rw [← h3'] at HK
  clear HE h3 h3'
  by_cases h4 : n < 0
  · rw [if_pos (.inl h4)]
    have g4 : decide (n < 0) = true := decide_eq_true h4
    go_enter Try.func86, Try.ntmps86
    go_wp2
    go_quiet (first | (go_at_call 89; exact Calls.quiet_of_same (HK.out _)))
    go_wp2
    go_ret
    exact ⟨rfl, below_drewN ((Below.refl _ _).alloc (Nat.le_refl _) _) _⟩
  have g4 : decide (n < 0) = false := decide_eq_false h4
  by_cases h5 : n ≠ 0 ∧ k ≠ 1
  · rw [if_pos (.inr h5)]
    have g5 : (n != 0) = true := by simp; exact h5.1
    have g6 : (k != 1) = true := by simp; exact h5.2
    go_enter Try.func86, Try.ntmps86
    go_wp2
    go_quiet (first | (go_at_call 89; exact Calls.quiet_of_same (HK.out _)))
    go_wp2_with (go_at_call 29; refine (HN.out _).mono ?_; rintro e w4 ⟨rfl, h4⟩; have h5 := h4.symm; clear h4; subst h5)
    go_ret
    exact ⟨rfl, below_drewN ((Below.refl _ _).alloc (Nat.le_refl _) _) _⟩
  rw [if_neg (by rintro (h | h); exact h4 h; exact h5 h)]
  have g5 : (n == 0) = true ∨ ((n == 0) = false ∧ (k == 1) = true) := by
    by_cases h : n = 0
    · exact .inl (by simp [h])
    · exact .inr ⟨by simp [h], by simp; exact Classical.byContradiction fun h6 => h5 ⟨h, h6⟩⟩
  by_cases h6 : k = 2
  · rw [if_pos h6]
    subst h6
    have g6 : n = 0 := by rcases g5 with h | h; simpa using h; exact absurd h.2 (by decide)
    subst g6
    clear g5 h5 h4 g4 g1 g2 h1 h2 hk hn
    cases hnm : nameOk t with
    | false =>
      rw [hnm] at HN
      go_enter Try.func86, Try.ntmps86
      go_wp2
      go_quiet (first | (go_at_call 89; exact Calls.quiet_of_same (HK.out _)))
      go_wp2_with (go_at_call 29; refine (HN.out _).mono ?_; rintro e w4 ⟨rfl, h4⟩; have h5 := h4.symm; clear h4; subst h5)
      go_ret
      exact ⟨rfl, below_drewN ((Below.refl _ _).alloc (Nat.le_refl _) _) _⟩
    | true =>
      rw [hnm] at HN
      by_cases e1 : t = yesB
      · have e2 : ((ba t).toList == [121, 101, 115]) = true := ba_eq e1
        have e3 : decide (t ≠ yesB) = false := decide_eq_false (fun h => h e1)
        rw [e3]
        clear e1 e3 hnm
        generalize ba t = s at *
        go_enter Try.func86, Try.ntmps86
        go_wp2
        go_quiet (first | (go_at_call 89; exact Calls.quiet_of_same (HK.out _)))
        go_wp2_with (go_at_call 29; refine (HN.out _).mono ?_; rintro e w4 ⟨rfl, h4⟩; have h5 := h4.symm; clear h4; subst h5)
        go_ret
        exact ⟨rfl, below_drewN ((Below.refl _ _).alloc (Nat.le_refl _) _) _⟩
      · have e2 : ((ba t).toList == [121, 101, 115]) = false := ba_ne e1
        have e3 : decide (t ≠ yesB) = true := decide_eq_true e1
        rw [e3]
        by_cases e4 : t = noB
        · have e5 : ((ba t).toList == [110, 111]) = true := ba_eq e4
          have e6 : decide (t ≠ noB) = false := decide_eq_false (fun h => h e4)
          rw [e6]
          clear e1 e3 hnm e4 e6
          generalize ba t = s at *
          go_enter Try.func86, Try.ntmps86
          go_wp2
          go_quiet (first | (go_at_call 89; exact Calls.quiet_of_same (HK.out _)))
          go_wp2_with (go_at_call 29; refine (HN.out _).mono ?_; rintro e w4 ⟨rfl, h4⟩; have h5 := h4.symm; clear h4; subst h5)
          go_ret
          exact ⟨rfl, below_drewN ((Below.refl _ _).alloc (Nat.le_refl _) _) _⟩
        · have e5 : ((ba t).toList == [110, 111]) = false := ba_ne e4
          have e6 : decide (t ≠ noB) = true := decide_eq_true e4
          rw [e6]
          clear e1 e3 hnm e4 e6
          generalize ba t = s at *
          go_enter Try.func86, Try.ntmps86
          go_wp2
          go_quiet (first | (go_at_call 89; exact Calls.quiet_of_same (HK.out _)))
          go_wp2_with (go_at_call 29; refine (HN.out _).mono ?_; rintro e w4 ⟨rfl, h4⟩; have h5 := h4.symm; clear h4; subst h5)
          go_ret
          exact ⟨rfl, below_drewN ((Below.refl _ _).alloc (Nat.le_refl _) _) _⟩
  · rw [if_neg h6]
    have g7 : (k == 2) = false := by simpa using h6
    have g8 : (ba t).toList = t := ba_toList t
    have g9 : (t == []) = decide (t = []) := by cases t <;> rfl
    rcases g5 with g5 | ⟨g5, g6⟩
    · have g6 : n = 0 := by simpa using g5
      subst g6
      clear g5 h5
      go_enter Try.func86, Try.ntmps86
      go_wp2
      go_quiet (first | (go_at_call 89; exact Calls.quiet_of_same (HK.out _)))
      go_wp2_with (go_at_call 29; refine (HN.out _).mono ?_; rintro e w4 ⟨rfl, h4⟩; have h5 := h4.symm; clear h4; subst h5)
      go_ret
      exact ⟨rfl, below_drewN ((Below.refl _ _).alloc (Nat.le_refl _) _) _⟩
    · have g10 : k = 1 := by simpa using g6
      subst g10
      have g11 : (n != 0) = true := by simp; simpa using g5
      clear h5
      go_enter Try.func86, Try.ntmps86
      go_wp2
      go_quiet (first | (go_at_call 89; exact Calls.quiet_of_same (HK.out _)))
      go_wp2_with (go_at_call 29; refine (HN.out _).mono ?_; rintro e w4 ⟨rfl, h4⟩; have h5 := h4.symm; clear h4; subst h5)
      go_ret
      exact ⟨rfl, below_drewN ((Below.refl _ _).alloc (Nat.le_refl _) _) _⟩
end
section
open Go.RowKit
set_option linter.unusedVariables false



/-- The four cells of a tree that lies in a row. -/
structure KidAt (w : World) (P : Nat → Prop) (a : Option Addr) (i : Nat) (x : Tr) (b o : Nat) (ka : Option Addr) (kc : Nat) : Prop where
  ad : a = some ⟨b, o, none⟩
  c0 : w.cell? ⟨b, o + i * 4, none⟩ = some (.int .i64 x.kind)
  c1 : w.cell? ⟨b, o + i * 4 + 1, none⟩ = some (.int .i64 x.n)
  c2 : w.cell? ⟨b, o + i * 4 + 2, none⟩ = some (.string (ba x.name))
  c3 : w.cell? ⟨b, o + i * 4 + 3, none⟩ = some (.slice ka x.kids.length kc)
  tre : Tre w P (.agg #[.int .i64 x.kind, .int .i64 x.n, .string (ba x.name), .slice ka x.kids.length kc]) x
theorem KidAt.below {w w' : World} {P : Nat → Prop} {a : Option Addr} {i : Nat} {x : Tr} {b o : Nat} {ka : Option Addr} {kc : Nat} (h : KidAt w P a i x b o ka kc) (hf : Below w.heap.size w w') : KidAt w' P a i x b o ka kc := by
  have hlt : b < w.heap.size := World.block_lt_of_cell? w _ h.c0
  exact ⟨h.ad, (hf.cell (p := ⟨b, _, none⟩) hlt).trans h.c0, (hf.cell (p := ⟨b, _, none⟩) hlt).trans h.c1, (hf.cell (p := ⟨b, _, none⟩) hlt).trans h.c2, (hf.cell (p := ⟨b, _, none⟩) hlt).trans h.c3, h.tre.below hf⟩
theorem Tre.opened {w : World} {P : Nat → Prop} {v : Value} {t : Tr} (h : Tre w P v t) : ∃ a cap, v = .agg #[.int .i64 t.kind, .int .i64 t.n, .string (ba t.name), .slice a t.kids.length cap] ∧ t.kids.length ≤ cap ∧ InR t.kind ∧ InR t.n ∧ t.name.length ≤ 9223372036854775807 ∧ t.kids.length ≤ 9223372036854775807 ∧
    ∀ i, i < t.kids.length → ∃ b o ka kc, KidAt w P a i (t.kids.getD i zeroT) b o ka kc := by
  obtain ⟨d, h⟩ := h
  cases d with
  | zero => exact h.elim
  | succ d =>
    obtain ⟨a, cap, h1, h2, h3, h4, h5, h6, h7⟩ := h
    refine ⟨a, cap, h1, h2, h3, h4, h5, h6, fun i hi => ?_⟩
    obtain ⟨b, o, u0, u1, u2, u3, k1, k2, k3, k4, k5, k6, k7⟩ := h7 i hi
    have hT : Tre w P (.agg #[u0, u1, u2, u3]) (t.kids.getD i zeroT) := ⟨d, k7⟩
    obtain ⟨ka, kc, e⟩ := hT.four
    rw [e] at hT
    simp only [Value.agg.injEq, Array.mk.injEq, List.cons.injEq, and_true] at e
    obtain ⟨rfl, rfl, rfl, rfl⟩ := e
    exact ⟨b, o, ka, kc, k1, k3, k4, k5, k6, hT⟩
theorem firstBad_at (f : Tr → Nat) : ∀ (l : List Tr) (i : Nat), i < l.length → (∀ j, j < i → f (l.getD j zeroT) = 0) → f (l.getD i zeroT) ≠ 0 → firstBad f l = f (l.getD i zeroT)
  | [], i, h, _, _ => by simp at h
  | k :: r, 0, _, _, h => by show (if f k ≠ 0 then f k else _) = f k; exact if_pos h
  | k :: r, i + 1, hi, h0, h => by
    have e : f k = 0 := h0 0 (by omega)
    show (if f k ≠ 0 then f k else firstBad f r) = f (r.getD i zeroT)
    rw [if_neg (by omega)]
    exact firstBad_at f r i (by simpa using hi) (fun j hj => h0 (j + 1) (by omega)) h
theorem firstBad_none (f : Tr → Nat) : ∀ (l : List Tr), (∀ j, j < l.length → f (l.getD j zeroT) = 0) → firstBad f l = 0
  | [], _ => rfl
  | k :: r, h => by
    have e : f k = 0 := h 0 (by simp)
    show (if f k ≠ 0 then f k else firstBad f r) = 0
    rw [if_neg (by omega)]
    exact firstBad_none f r (fun j hj => h (j + 1) (by simpa using hj))
def Checks (d : Nat) : Prop := ∀ (deep : Nat), d + deep = 17 → ∀ (P : Nat → Prop) (t : Tr) (v : Value) (w : World), Tre w P v t →
  Calls Try.prog 82 #[v, .int .i64 deep] w fun e w' => e = .returned (.int .i64 (checkM d t)) ∧ Below w.heap.size w w'
set_option maxRecDepth 100000 in
theorem check_zero : Checks 0 := by
  intro deep hd P t v w hT
  obtain ⟨a, cap, rfl, _⟩ := hT.opened
  have h16 : ¬ deep ≤ 16 := by omega
  have h17 : (16 : Int) < deep := by omega
  have hd2 : deep ≤ 17 := by omega
  show Calls Try.prog 82 _ w fun e w' => e = .returned (.int .i64 (6 : Nat)) ∧ _
  clear hT
  go_enter Try.func82, Try.ntmps82
  go_wp2
  go_ret
  exact ⟨rfl, (Below.refl _ _).alloc (Nat.le_refl _) _⟩
set_option maxRecDepth 100000 in
set_option maxHeartbeats 800000 in
theorem check_succ (d : Nat) (ih : Checks d) : Checks (d + 1) := by
  intro deep hd P t v w hT
  have HT : Hid (Tre w P v t) := hT
  obtain ⟨a, cap, rfl, hcap, hk, hn, hnm, hlen, hkids⟩ := hT.opened
  have HI : Hid (∀ (x : Tr) (v : Value) (w : World), Tre w P v x → Calls Try.prog 82 #[v, .int .i64 ((deep : Int) + 1)] w fun e w' => e = .returned (.int .i64 (checkM d x)) ∧ Below w.heap.size w w') := fun x v w h => ih (deep + 1) (by omega) P x v w h
  have HK : Hid (∀ i, i < t.kids.length → ∃ b o ka kc, KidAt w P a i (t.kids.getD i zeroT) b o ka kc) := hkids
  have HF : Hid (∀ w, Calls Try.prog 86 #[.agg #[.int .i64 t.kind, .int .i64 t.n, .string (ba t.name), .slice a t.kids.length cap]] w fun e w' => e = .returned (.bool (fitsM t)) ∧ Below w.heap.size w w') := fun w => fits_any t.kind t.n t.name a t.kids.length cap w hnm hlen hk hn
  have hd16 : deep ≤ 16 := by omega
  clear hkids hT ih hk hn hnm
  have HE : Hid (checkM (d + 1) t = if fitsM t = false then 1 else firstBad (checkM d) t.kids) := rfl
  rw [HE.out]
  generalize t.kind = tk at *
  generalize t.n = tn at *
  generalize ba t.name = ts at *
  cases hf : fitsM t with
  | false =>
    rw [hf] at HF
    rw [if_pos rfl]
    go_enter Try.func82, Try.ntmps82
    go_wp2_with (go_at_call 86; refine (HF.out _).mono ?_; rintro e w1 ⟨rfl, HB⟩)
    go_ret
    exact ⟨rfl, ((Below.refl _ _).alloc (Nat.le_refl _) _).trans (HB.mono (by rw [size_alloc]; omega))⟩
  | true =>
    rw [hf] at HF
    rw [if_neg (by decide)]
    clear hf HE
    generalize t.kids = ks at *
    go_enter Try.func82, Try.ntmps82
    go_wp2_with (go_at_call 86; refine (HF.out _).mono ?_; rintro e w1 ⟨rfl, HB⟩; obtain ⟨q0, q1, q2, q3, q4⟩ := (Cell4.new w (.int .i64 tk) (.int .i64 tn) (.string ts) (.slice a ks.length cap) 69).below HB; have HB1 : Hid (Below w.heap.size w w1) := ((Below.refl _ _).alloc (Nat.le_refl _) _).trans (HB.mono (by rw [size_alloc]; omega)); clear HB)
    go_loopw [16] (fun v wr => ∃ (i : Nat), i ≤ ks.length ∧ v = .int .i64 i ∧ Hid (Below w.heap.size w wr ∧ ∀ j, j < i → checkM d (ks.getD j zeroT) = 0)) (fun v _ => ks.length - (intOf v).toNat)
    case atStart => exact ⟨0, Nat.zero_le _, rfl, HB1.out, fun j hj => absurd hj (by omega)⟩
    case round =>
      obtain ⟨i, hi, rfl, HR⟩ := hrel
      by_cases hlt : i < ks.length
      · obtain ⟨b, o, ka, kc, hKA⟩ := HK.out i hlt
        have HKA : Hid (KidAt wr P a i (ks.getD i zeroT) b o ka kc) := hKA.below HR.out.1
        obtain ⟨rfl, k0, k1, k2, k3, _⟩ := HKA.out
        have hbl : b < wr.heap.size := World.block_lt_of_cell? wr _ k0
        have HKT : Hid (Tre wr P (.agg #[.int .i64 (ks.getD i zeroT).kind, .int .i64 (ks.getD i zeroT).n, .string (ba (ks.getD i zeroT).name), .slice ka (ks.getD i zeroT).kids.length kc]) (ks.getD i zeroT)) := HKA.out.tre
        clear hKA HKA
        have HC : Hid (∀ w, Tre w P (.agg #[.int .i64 (ks.getD i zeroT).kind, .int .i64 (ks.getD i zeroT).n, .string (ba (ks.getD i zeroT).name), .slice ka (ks.getD i zeroT).kids.length kc]) (ks.getD i zeroT) → Calls Try.prog 82 #[.agg #[.int .i64 (ks.getD i zeroT).kind, .int .i64 (ks.getD i zeroT).n, .string (ba (ks.getD i zeroT).name), .slice ka (ks.getD i zeroT).kids.length kc], .int .i64 ((deep : Int) + 1)] w fun e w' => e = .returned (.int .i64 (checkM d (ks.getD i zeroT))) ∧ Below w.heap.size w w') := fun w h => HI.out _ _ w h
        have HQ : Hid (∀ k, checkM d (ks.getD i zeroT) = k → k = 0 → ∀ j, j < i + 1 → checkM d (ks.getD j zeroT) = 0) := fun k h1 h2 j hj => by
          rcases Nat.lt_succ_iff_lt_or_eq.1 hj with h | h
          · exact HR.out.2 j h
          · rw [h, h1, h2]
        have HQ2 : Hid (checkM d (ks.getD i zeroT) ≠ 0 → firstBad (checkM d) ks = checkM d (ks.getD i zeroT)) := fun h => firstBad_at _ ks i hlt HR.out.2 h
        generalize hck : checkM d (ks.getD i zeroT) = ck at *
        generalize (ks.getD i zeroT).kind = yk at *
        generalize (ks.getD i zeroT).n = yn at *
        generalize ba (ks.getD i zeroT).name = ys at *
        generalize (ks.getD i zeroT).kids.length = yl at *
        generalize ks.getD i zeroT = y at *
        by_cases hc0 : ck = 0
        · subst hc0
          go_wp2_with (go_at_call 82; refine (HC.out _ (HKT.out.alloc _)).mono ?_; rintro e w3 ⟨rfl, HB⟩; have HB3 : Hid (Below w.heap.size w w3) := (HR.out.1.alloc HR.out.1.size _).trans (HB.mono (by rw [size_alloc]; have := HR.out.1.size; omega)); clear HB)
          go_roundw
          case rel => exact ⟨i + 1, by omega, by go_num, HB3.out, HQ.out 0 rfl rfl⟩
          case measure => simp [intOf]; omega
        · have hc1 : ¬ (ck : Int) = 0 := by omega
          go_wp2_with (go_at_call 82; refine (HC.out _ (HKT.out.alloc _)).mono ?_; rintro e w3 ⟨rfl, HB⟩; have HB3 : Hid (Below w.heap.size w w3) := (HR.out.1.alloc HR.out.1.size _).trans (HB.mono (by rw [size_alloc]; have := HR.out.1.size; omega)); clear HB)
          go_ret
          exact ⟨by rw [HQ2.out hc0]; rfl, HB3.out⟩
      · have he : i = ks.length := by omega
        subst he
        have HE : Hid (firstBad (checkM d) ks = 0) := firstBad_none _ ks HR.out.2
        have HB3 : Hid (Below w.heap.size w wr) := HR.out.1
        clear HR
        go_wp2
        go_ret
        exact ⟨by rw [HE.out]; rfl, HB3.out⟩
theorem checks_any : ∀ d, Checks d
  | 0 => check_zero
  | d + 1 => check_succ d (checks_any d)
set_option maxRecDepth 100000 in
theorem Check_any (P : Nat → Prop) (t : Tr) (k n : Int) (s : ByteArray) (a : Option Addr) (l c : Nat) (w : World) (hT : Tre w P (.agg #[.int .i64 k, .int .i64 n, .string s, .slice a l c]) t) :
    Calls Try.prog 71 #[.agg #[.int .i64 k, .int .i64 n, .string s, .slice a l c]] w fun e w' => e = .returned (.int .i64 (checkM 16 t)) ∧ Below w.heap.size w w' := by
  have HC : Hid (∀ w, Tre w P (.agg #[.int .i64 k, .int .i64 n, .string s, .slice a l c]) t → Calls Try.prog 82 #[.agg #[.int .i64 k, .int .i64 n, .string s, .slice a l c], .int .i64 1] w fun e w' => e = .returned (.int .i64 (checkM 16 t)) ∧ Below w.heap.size w w') := fun w h => checks_any 16 1 rfl P t _ w h
  have HT : Hid (Tre w P (.agg #[.int .i64 k, .int .i64 n, .string s, .slice a l c]) t) := hT
  clear hT
  generalize checkM 16 t = ck at *
  go_enter Try.func71, Try.ntmps71
  go_wp2_with (go_at_call 82; refine (HC.out _ (HT.out.alloc _)).mono ?_; rintro e w3 ⟨rfl, HB⟩)
  go_ret
  exact ⟨rfl, ((Below.refl _ _).alloc (Nat.le_refl _) _).trans (HB.mono (by rw [size_alloc]; omega))⟩
end
end Go.Proofs.Ytlaiacjlphjmlaa
