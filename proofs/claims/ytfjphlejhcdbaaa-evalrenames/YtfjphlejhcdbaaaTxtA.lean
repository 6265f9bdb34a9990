/-
  A row of bytes of the call's own.
-/
import Derived.Test.YtfjphlejhcdbaaaBasA
import Derived.Lib.AppendStr
import Derived.Lib.OthersKept
import Derived.Lib.AppendIntMem
import Derived.Laws.BytesString
import Derived.Maps.AppendAt
import Derived.Deep.RegionHeld3
import Derived.Test.YtfjphlejhcdbaaaRows
import Derived.Lib.ItoaWalk
import Derived.Lib.ItoaMem
import Derived.Lib.Walk
import Derived.Lib.BufferKept
import Derived.Lib.Hide
import Derived.Lib.Slices
import Derived.BigCall
import Derived.BigGuard
import Derived.CellFam
import Derived.Laws.AppendOwnNone
import Derived.BigQuiet
import Derived.Test.YtfjphlejhcdbaaaLexA
import Derived.Defers
import Derived.Recover
namespace Go.Proofs.Ytfjphlejhcdbaaa
section
open Go.RowKit
set_option linter.unusedVariables false



def Ob (w : World) (B : Nat) (v : Value) (l : Bs) : Prop := w.ownsRow B 5 1 v l.length (Lib.byteCells l)
/-- Of what there was nothing has turned but v's own row; v' has that row, or a new one. -/
structure Gro (v : Value) (w w' : World) (v' : Value) : Prop where
  os : w'.os = w.os
  tape : w'.tape = w.tape
  output : w'.output = w.output
  size : w.heap.size ≤ w'.heap.size
  block : ∀ k, k < w.heap.size → some k ≠ v.ownBlock → w'.heap[k]? = w.heap[k]?
  own : v'.ownBlock = v.ownBlock ∨ ∀ g, v'.ownBlock = some g → w.heap.size ≤ g
theorem Gro.refl (v : Value) (w : World) : Gro v w w v := ⟨rfl, rfl, rfl, Nat.le_refl _, fun _ _ _ => rfl, .inl rfl⟩
theorem Gro.trans {v v1 v2 : Value} {a b c : World} (h : Gro v a b v1) (k : Gro v1 b c v2) : Gro v a c v2 := by
  refine ⟨k.os.trans h.os, k.tape.trans h.tape, k.output.trans h.output, Nat.le_trans h.size k.size, fun i hi hn => ?_, ?_⟩
  · rw [k.block i (Nat.lt_of_lt_of_le hi h.size) ?_, h.block i hi hn]
    rcases h.own with e | e
    · rw [e]; exact hn
    · intro e2; have := e i e2.symm; omega
  · rcases k.own with e | e
    · rcases h.own with e2 | e2
      · exact .inl (e.trans e2)
      · exact .inr fun g hg => e2 g (by rw [← e]; exact hg)
    · exact .inr fun g hg => Nat.le_trans h.size (e g hg)
theorem Gro.alloc {v v' : Value} {a b : World} (h : Gro v a b v') (o : Obj) : Gro v a (b.alloc o) v' :=
  ⟨h.os, h.tape, h.output, Nat.le_trans h.size (le_alloc _ _), fun k hk hn => (heap_alloc_old _ _ (Nat.lt_of_lt_of_le hk h.size)).trans (h.block k hk hn), h.own⟩
theorem Gro.drew {v v' : Value} {a b : World} (h : Gro v a b v') : Gro v a b.drew v' := ⟨h.os, (Below.drew (Below.refl 0 b)).tape.trans h.tape, h.output, h.size, h.block, h.own⟩
theorem Ob.nil (w : World) (B : Nat) : Ob w B (.slice none 0 0) [] := World.ownsRow_nil _ _ _ _
theorem Ob.alloc {w : World} {B : Nat} {v : Value} {l : Bs} (h : Ob w B v l) (o : Obj) : Ob (w.alloc o) B v l := World.ownsRow.alloc h o
theorem Ob.drew {w : World} {B : Nat} {v : Value} {l : Bs} (h : Ob w B v l) : Ob w.drew B v l := h
theorem Ob.kind {w : World} {B : Nat} {v : Value} {l : Bs} (h : Ob w B v l) : ∀ g, v.ownBlock = some g → ∃ c fz, w.heap[g]? = some (.cells c 5 fz) := by
  intro g hg
  rcases h.2 with ⟨rfl, _⟩ | ⟨g', cap, cur, rfl, _, hgg, _⟩
  · simp [Value.ownBlock] at hg
  · simp [Value.ownBlock] at hg
    subst hg
    exact ⟨_, _, hgg⟩
theorem Ob.lt {w : World} {B : Nat} {v : Value} {l : Bs} (h : Ob w B v l) : ∀ g, v.ownBlock = some g → B ≤ g ∧ g < w.heap.size := fun g e => World.ownsRow.lt h g e
theorem Ob.bel {w w' : World} {B : Nat} {v v' : Value} {l : Bs} (h : Ob w B v l) (hB : B ≤ w.heap.size) (hg : Gro v w w' v') : Below B w w' :=
  ⟨hg.os, hg.tape, hg.output, hg.size, fun k hk => hg.block k (by omega) fun e => by have := h.lt k e.symm; omega⟩
theorem Ob.slice {w : World} {B : Nat} {v : Value} {l : Bs} (h : Ob w B v l) : ∃ a cap, v = .slice a l.length cap := by
  rcases h.2 with ⟨rfl, h0⟩ | ⟨g', cap, cur, rfl, _⟩
  · exact ⟨none, 0, by have := h0; simp_all⟩
  · exact ⟨_, _, rfl⟩
theorem Ob.cell {w : World} {B g cap n : Nat} {l : Bs} (h : Ob w B (.slice (some ⟨g, 0, none⟩) n cap) l) : n = l.length ∧ ∀ j u, (Lib.byteCells l)[j]? = some u → w.cell? ⟨g, j, none⟩ = some u := by
  rcases h.2 with ⟨e, _⟩ | ⟨g', cap', cur, e, _, hg, hn, _, hs, ht⟩
  · cases e
  · simp only [Value.slice.injEq, Option.some.injEq, Addr.mk.injEq, and_true] at e
    obtain ⟨rfl, rfl, rfl⟩ := e
    refine ⟨rfl, fun j u hj => ?_⟩
    rw [cell_of_row _ _ _ _ 5 (0, 0) hg]
    rw [← ht] at hj
    have hj2 : j < l.length := by
      have := (List.getElem?_eq_some_iff.1 hj).1
      simp at this; omega
    rw [List.getElem?_take] at hj
    rw [if_pos (by omega)] at hj
    rw [← hj]; simp
/-- A tree's box: four cells of a block that is no row of bytes. -/
def Box (w : World) (b : Nat) (v0 v1 v2 v3 : Value) : Prop := w.heap[b]? = some (.cells #[v0, v1, v2, v3] 24)
theorem Box.new (w : World) (v0 v1 v2 v3 : Value) : Box (w.alloc (.cells #[v0, v1, v2, v3] 24)) w.heap.size v0 v1 v2 v3 := heap_alloc_new _ _
theorem Box.lt {b : Nat} {w : World} {v0 v1 v2 v3 : Value} (h : Box w b v0 v1 v2 v3) : b < w.heap.size := (Array.getElem?_eq_some_iff.1 h).1
theorem Box.alloc {b : Nat} {w : World} {v0 v1 v2 v3 : Value} (h : Box w b v0 v1 v2 v3) (o : Obj) : Box (w.alloc o) b v0 v1 v2 v3 := by
  unfold Box
  rw [heap_alloc_old _ _ (Array.getElem?_eq_some_iff.1 h).1]
  exact h
theorem Box.cells {b : Nat} {w : World} {v0 v1 v2 v3 : Value} (h : Box w b v0 v1 v2 v3) : Cell4 w b v0 v1 v2 v3 := by
  refine ⟨?_, ?_, ?_, ?_, fun i => by simp only [World.frozen?]; rw [h]; simp⟩ <;> (rw [cell_of_row _ _ _ _ 24 (0, 0) h]; rfl)
end
section
open Go.RowKit Go.Sort
set_option linter.unusedVariables false



theorem Ob.below {w w' : World} {B : Nat} {v : Value} {l : Bs} (h : Ob w B v l) (hb : Below w.heap.size w w') : Ob w' B v l := by
  refine ⟨h.1, ?_⟩
  rcases h.2 with h0 | ⟨g, cap, cur, h1, h2, h3, h4⟩
  · exact .inl h0
  · exact .inr ⟨g, cap, cur, h1, h2, (hb.block g (Array.getElem?_eq_some_iff.1 h3).1).trans h3, h4⟩
end
section
open Go.RowKit
set_option linter.unusedVariables false



abbrev Tab (w : World) (B : Nat) : Prop := Lib.TabBelow Try.prog B w "internal/strconv.uint64pow10" .u64 Lib.pow10Tab
/-- What put wants: the tree lies below B, the bytes are the call's own, the table lies there. -/
structure Pre (w : World) (B : Nat) (vb v : Value) (l : Bs) (t : Tr) : Prop where
  tre : Tre w (fun g => g < B) v t
  own : Ob w B vb l
  low : B ≤ w.heap.size
  tab : Tab w B
theorem Pre.alloc {w : World} {B : Nat} {vb v : Value} {l : Bs} {t : Tr} (h : Pre w B vb v l t) (o : Obj) : Pre (w.alloc o) B vb v l t :=
  ⟨h.tre.alloc o, h.own.alloc o, Nat.le_trans h.low (le_alloc _ _), h.tab.on ((Below.refl _ _).alloc h.low o)⟩
theorem Pre.drew {w : World} {B : Nat} {vb v : Value} {l : Bs} {t : Tr} (h : Pre w B vb v l t) : Pre w.drew B vb v l t :=
  ⟨h.tre.kept fun g hg _ => ⟨rfl, hg⟩, h.own, h.low, h.tab.on (Below.drew (Below.refl _ _))⟩
/-- One byte that lies somewhere. -/
def Byte1 (w : World) (g : Nat) (x : UInt8) : Prop := w.cell? ⟨g, 0, none⟩ = some (.int .u8 x.toNat)
theorem Byte1.new (w : World) (x : UInt8) : Byte1 (w.alloc (.cells #[.int .u8 x.toNat] 5)) w.heap.size x := by
  unfold Byte1
  rw [cell_of_row _ _ _ _ 5 (0, 0) (heap_alloc_new w _)]; rfl
theorem Byte1.alloc {w : World} {g : Nat} {x : UInt8} (h : Byte1 w g x) (o : Obj) : Byte1 (w.alloc o) g x := ((Fr.refl (g + 1) w).alloc o).cell (by omega) h
theorem Byte1.drew {w : World} {g : Nat} {x : UInt8} (h : Byte1 w g x) : Byte1 w.drew g x := h
theorem Byte1.lt {w : World} {g : Nat} {x : UInt8} (h : Byte1 w g x) : g < w.heap.size := World.block_lt_of_cell? w _ h
/-- A block that is not v's own stays none of what came of v, if it was there. -/
theorem Gro.ne {v v' : Value} {w w' : World} (h : Gro v w w' v') {g : Nat} (hg : g < w.heap.size) (hn : some g ≠ v.ownBlock) : some g ≠ v'.ownBlock := by
  rcases h.own with e | e
  · rw [e]; exact hn
  · intro e2; have := e g e2.symm; omega
theorem Ob.ne {w : World} {B : Nat} {v : Value} {l : Bs} (h : Ob w B v l) {g : Nat} (hg : w.heap.size ≤ g) : some g ≠ v.ownBlock := fun e => by have := h.lt _ e.symm; omega
end
section
open Go.RowKit
set_option linter.unusedVariables false



theorem cut_list (s : ByteArray) (a b : Nat) : (s.extract a b).data.toList = (s.data.toList.take b).drop a := by
  rw [ByteArray.data_extract, Array.toList_extract, List.extract_eq_drop_take']
theorem take_ba (s : ByteArray) (n : Nat) : s.extract 0 n = ba (s.data.toList.take n) := by
  rw [← ba_of (s.extract 0 n), cut_list]; rfl
theorem word_take_k (k : Nat) (c : UInt8) (r : Bs) : (c :: r).take ((r.takeWhile (goes k)).length + 1) = c :: r.takeWhile (goes k) := by
  rw [List.take_succ_cons]
  congr 1
  exact (List.prefix_iff_eq_take.1 (List.takeWhile_prefix _)).symm
theorem at_list {s : ByteArray} {k : Nat} (h : k < s.size) (h2 : k < s.data.toList.length) : s[k]'h = s.data.toList[k]'h2 := by
  simp [ByteArray.getElem_eq_getElem_data]
/-- The library's own variable holds an error. -/
def Held (w : World) : Prop := ∃ tp p, w.cell? ⟨1, 0, none⟩ = some (.iface tp p)
theorem Held.below {w w' : World} {B : Nat} (h : Held w) (hB : w.heap.size ≤ B) (hb : Below B w w') : Held w' := by
  obtain ⟨tp, p, h⟩ := h
  exact ⟨tp, p, (hb.cell (p := ⟨1, 0, none⟩) (by have := World.block_lt_of_cell? w _ h; omega)).trans h⟩
end
section
open Go.RowKit
set_option linter.unusedVariables false



/-- The three blocks of a call of wordAt, behind a callee. -/
structure Three (w w1 : World) (a b c d : Value) : Prop where
  c0 : w1.cell? ⟨w.heap.size, 0, none⟩ = some (.int .i64 0)
  c1 : w1.cell? ⟨w.heap.size, 1, none⟩ = some (.string ⟨#[]⟩)
  c2 : w1.cell? ⟨w.heap.size, 2, none⟩ = some (.int .i64 0)
  c3 : w1.cell? ⟨w.heap.size, 3, none⟩ = some (.int .i64 0)
  d0 : w1.cell? ⟨w.heap.size + 1, 0, none⟩ = some (.int .i64 0)
  d1 : w1.cell? ⟨w.heap.size + 1, 1, none⟩ = some (.int .i64 0)
  e0 : w1.cell? ⟨w.heap.size + 1 + 1, 0, none⟩ = some a
  e1 : w1.cell? ⟨w.heap.size + 1 + 1, 1, none⟩ = some b
  e2 : w1.cell? ⟨w.heap.size + 1 + 1, 2, none⟩ = some c
  e3 : w1.cell? ⟨w.heap.size + 1 + 1, 3, none⟩ = some d
  fr : ∀ i, w1.frozen? ⟨w.heap.size, i, none⟩ = false
  fs : ∀ i, w1.frozen? ⟨w.heap.size + 1, i, none⟩ = false
  ft : ∀ i, w1.frozen? ⟨w.heap.size + 1 + 1, i, none⟩ = false
  bel : Below w.heap.size w w1
theorem Three.below {w w1 w2 : World} {a b c d : Value} (h : Three w w1 a b c d) (HB : Below w1.heap.size w1 w2) : Three w w2 a b c d := by
  have l0 : w.heap.size < w1.heap.size := World.block_lt_of_cell? w1 _ h.c0
  have l1 : w.heap.size + 1 < w1.heap.size := World.block_lt_of_cell? w1 _ h.d0
  have l2 : w.heap.size + 1 + 1 < w1.heap.size := World.block_lt_of_cell? w1 _ h.e0
  exact ⟨(HB.cell (p := ⟨w.heap.size, 0, none⟩) l0).trans h.c0, (HB.cell (p := ⟨w.heap.size, 1, none⟩) l0).trans h.c1, (HB.cell (p := ⟨w.heap.size, 2, none⟩) l0).trans h.c2, (HB.cell (p := ⟨w.heap.size, 3, none⟩) l0).trans h.c3,
    (HB.cell (p := ⟨w.heap.size + 1, 0, none⟩) l1).trans h.d0, (HB.cell (p := ⟨w.heap.size + 1, 1, none⟩) l1).trans h.d1,
    (HB.cell (p := ⟨w.heap.size + 1 + 1, 0, none⟩) l2).trans h.e0, (HB.cell (p := ⟨w.heap.size + 1 + 1, 1, none⟩) l2).trans h.e1, (HB.cell (p := ⟨w.heap.size + 1 + 1, 2, none⟩) l2).trans h.e2, (HB.cell (p := ⟨w.heap.size + 1 + 1, 3, none⟩) l2).trans h.e3,
    fun i => (HB.frozen (p := ⟨w.heap.size, i, none⟩) l0).trans (h.fr i), fun i => (HB.frozen (p := ⟨w.heap.size + 1, i, none⟩) l1).trans (h.fs i), fun i => (HB.frozen (p := ⟨w.heap.size + 1 + 1, i, none⟩) l2).trans (h.ft i), h.bel.trans (HB.mono (by omega))⟩
end
section
open Go.RowKit
set_option linter.unusedVariables false



theorem kind_digit {c : UInt8} (h : kind c = 1) : digit c = true := by
  cases hd : digit c with
  | true => rfl
  | false =>
    unfold kind at h
    rw [hd] at h
    simp only [Bool.false_eq_true, if_false] at h
    repeat' split at h
    all_goals simp at h
theorem word_digits {c : UInt8} {r : Bs} (h : kind c = 1) : (word c r).all digit = true := by
  unfold word
  rw [List.all_cons, kind_digit h, Bool.true_and, h]
  exact List.all_takeWhile
theorem word_of (c : UInt8) (r : Bs) : word c r = c :: r.takeWhile (goes (kind c)) := rfl
/-- What a text has from a byte on. -/
structure From (s : ByteArray) (p : Nat) (c : UInt8) (r : Bs) : Prop where
  ls : s.data.toList.drop p = c :: r
theorem From.lt {s : ByteArray} {p : Nat} {c : UInt8} {r : Bs} (h : From s p c r) : p < s.size := by
  have := congrArg List.length h.ls
  rw [List.length_drop, size_list] at this
  simp at this; omega
theorem From.len {s : ByteArray} {p : Nat} {c : UInt8} {r : Bs} (h : From s p c r) : s.size = p + (r.length + 1) := by
  have := congrArg List.length h.ls
  rw [List.length_drop, size_list] at this
  have h2 := h.lt
  simp at this; omega
theorem drop_at (l : Bs) (p : Nat) (h : p < l.length) : l.drop p = l[p] :: l.drop (p + 1) := List.drop_eq_getElem_cons h
theorem From.cut {s : ByteArray} {p : Nat} {c : UInt8} {r : Bs} (h : From s p c r) : (s.extract p s.size).data.toList = c :: r := by
  rw [cut_list, ← size_list, List.take_length]; exact h.ls
theorem cut_size (s : ByteArray) (p : Nat) : (s.extract p s.size).size ≤ s.size := by
  rw [← size_list, cut_list, List.length_drop, List.length_take, size_list]; omega
theorem From.behind {s : ByteArray} {p : Nat} {c : UInt8} {r : Bs} (h : From s p c r) : s.data.toList.drop (p + (word c r).length) = r.dropWhile (goes (kind c)) := by
  rw [← List.drop_drop, h.ls, word_of, List.length_cons, List.drop_succ_cons]
  have h2 : r.takeWhile (goes (kind c)) ++ r.dropWhile (goes (kind c)) = r := List.takeWhile_append_dropWhile
  conv => lhs; arg 2; rw [← h2]
  rw [List.drop_left]
theorem From.letter_on {s : ByteArray} {p : Nat} {c : UInt8} {r : Bs} (h : From s p c r) (hlt : p + (word c r).length < s.size) : headLetter (r.dropWhile (goes (kind c))) = letter (s[p + (word c r).length]'hlt) := by
  have h2 : p + (word c r).length < s.data.toList.length := by rw [size_list]; exact hlt
  rw [← h.behind, drop_at _ _ h2, at_list hlt h2]; rfl
theorem From.letter_end {s : ByteArray} {p : Nat} {c : UInt8} {r : Bs} (h : From s p c r) (hlt : ¬ p + (word c r).length < s.size) : headLetter (r.dropWhile (goes (kind c))) = false := by
  rw [← h.behind, List.drop_eq_nil_of_le (by rw [size_list]; omega)]; rfl
end
section
open Go.RowKit Go.Maps
set_option linter.unusedVariables false



/-- A slice of words that reads as ws. -/
def WordsV (w : World) (v : Value) (ws : List W) : Prop :=
  ∃ a cap, v = .slice a ws.length cap ∧ ws.length ≤ cap ∧ ws.length ≤ 4096 ∧ (ws = [] ∨ ∃ b, a = some ⟨b, 0, none⟩ ∧ ∀ i, i < ws.length → WAt w b (i * 4) (ws.getD i noW))
theorem WordsV.nil (w : World) : WordsV w (.slice none 0 0) [] := ⟨none, 0, rfl, by decide, by decide, .inl rfl⟩
theorem WordsV.below {w w' : World} {v : Value} {ws : List W} (h : WordsV w v ws) (hb : Below w.heap.size w w') : WordsV w' v ws := by
  obtain ⟨a, cap, h1, h2, h3, h4⟩ := h
  refine ⟨a, cap, h1, h2, h3, ?_⟩
  rcases h4 with h | ⟨b, ha, hc⟩
  · exact .inl h
  · exact .inr ⟨b, ha, fun i hi => (hc i hi).below hb⟩
/-- What lies behind a slice's address. -/
def RowV (w : World) (a : Option Addr) (ws : List W) : Prop := ∀ i, i < ws.length → ∃ b, a = some ⟨b, 0, none⟩ ∧ WAt w b (i * 4) (ws.getD i noW)
theorem RowV.below {w w' : World} {a : Option Addr} {ws : List W} (h : RowV w a ws) (hb : Below w.heap.size w w') : RowV w' a ws := fun i hi => by
  obtain ⟨b, h1, h2⟩ := h i hi
  exact ⟨b, h1, h2.below hb⟩
def flat : List W → List Value
  | [] => []
  | x :: r => .int .i64 x.kind :: .string (ba x.text) :: .int .i64 x.n :: .int .i64 x.pos :: flat r
theorem flat_append (l m : List W) : flat (l ++ m) = flat l ++ flat m := by
  induction l with
  | nil => rfl
  | cons x r ih => simp [flat, ih]
theorem flat_at (l : List W) {i : Nat} (h : i < l.length) : (flat l)[i * 4]? = some (.int .i64 (l.getD i noW).kind) ∧ (flat l)[i * 4 + 1]? = some (.string (ba (l.getD i noW).text)) ∧ (flat l)[i * 4 + 2]? = some (.int .i64 (l.getD i noW).n) ∧ (flat l)[i * 4 + 3]? = some (.int .i64 (l.getD i noW).pos) := by
  induction l generalizing i with
  | nil => simp at h
  | cons x r ih =>
    cases i with
    | zero => simp [flat]
    | succ i =>
      have := ih (i := i) (by simpa using h)
      rw [show (i + 1) * 4 = i * 4 + 4 by omega]
      simpa [flat] using this
/-- A row of words that the call makes. -/
structure Outs (w wr : World) (v : Value) (ws : List W) : Prop where
  own : wr.ownsRow w.heap.size 86 4 v ws.length (flat ws)
  bel : Below w.heap.size w wr
theorem Outs.start (w : World) : Outs w w (.slice none 0 0) [] := ⟨World.ownsRow_nil _ _ _ _, Below.refl _ _⟩
theorem Outs.moved {w wr w' : World} {v : Value} {ws : List W} (h : Outs w wr v ws) (hb : Below wr.heap.size wr w') : Outs w w' v ws := by
  refine ⟨?_, h.bel.trans (hb.mono h.bel.size)⟩
  refine ⟨h.own.1, ?_⟩
  rcases h.own.2 with hn | ⟨g, cap, cur, hv, hg, hh, rest⟩
  · exact .inl hn
  · exact .inr ⟨g, cap, cur, hv, hg, (hb.block g (Array.getElem?_eq_some_iff.1 hh).1).trans hh, rest⟩
theorem Outs.ge {w wr : World} {v : Value} {ws : List W} (h : Outs w wr v ws) : ∀ g, v.ownBlock = some g → w.heap.size ≤ g ∧ g < wr.heap.size := fun g e => World.ownsRow.lt h.own g e
theorem Outs.add {w wr w' : World} {v v' : Value} {ws : List W} {x : W} (h : Outs w wr v ws)
    (ho : w'.ownsRow w.heap.size 86 4 v' (ws.length + 1) (flat ws ++ flat [x])) (hg : wr.grownBy w' v.ownBlock) : Outs w w' v' (ws ++ [x]) :=
  ⟨by rw [flat_append, List.length_append]; exact ho, h.bel.grown hg h.bel.size (fun g e => (h.ge g e).1)⟩
theorem Outs.words {w wr : World} {v : Value} {ws : List W} (h : Outs w wr v ws) (hl : ws.length ≤ 4096) : WordsV wr v ws := by
  have hh := h.own
  rcases h.own.2 with ⟨rfl, h0⟩ | ⟨g, cap, cur, rfl, _, _, hnc, hcm, _, _⟩
  · have : ws = [] := List.length_eq_zero_iff.1 h0
    subst this
    exact WordsV.nil wr
  · refine ⟨some ⟨g, 0, none⟩, cap, rfl, by omega, hl, .inr ⟨g, rfl, fun i hi => ?_⟩⟩
    obtain ⟨f0, f1, f2, f3⟩ := flat_at ws hi
    refine ⟨?_, ?_, ?_, ?_⟩
    · rw [hh.cellAt (i * 4) (by omega), f0]
    · rw [hh.cellAt (i * 4 + 1) (by omega), f1]
    · rw [hh.cellAt (i * 4 + 2) (by omega), f2]
    · rw [hh.cellAt (i * 4 + 3) (by omega), f3]
theorem Outs.words_turned {w wr w' : World} {v : Value} {ws : List W} (h : Outs w wr v ws) (hl : ws.length ≤ 4096) (hb : ∀ g, w.heap.size ≤ g → w'.heap[g]? = wr.heap[g]?) : WordsV w' v ws := by
  obtain ⟨a, cap, h1, h2, h3, h4⟩ := h.words hl
  refine ⟨a, cap, h1, h2, h3, ?_⟩
  rcases h4 with h5 | ⟨b, ha, hc⟩
  · exact .inl h5
  · subst ha h1
    have hg := hb b (h.ge b rfl).1
    exact .inr ⟨b, rfl, fun i hi => ⟨(World.cell?_of_block (a := ⟨b, i * 4, none⟩) hg).trans (hc i hi).c0, (World.cell?_of_block (a := ⟨b, i * 4 + 1, none⟩) hg).trans (hc i hi).c1, (World.cell?_of_block (a := ⟨b, i * 4 + 2, none⟩) hg).trans (hc i hi).c2, (World.cell?_of_block (a := ⟨b, i * 4 + 3, none⟩) hg).trans (hc i hi).c3⟩⟩
theorem add_plain (b off i : Nat) : (⟨b, off, none⟩ : Addr).add i = ⟨b, off + i, none⟩ := by unfold Addr.add; split <;> simp_all
theorem cell_four_new (w : World) (a b c d : Value) (e : TypeId) : ∀ j u, [a, b, c, d][j]? = some u → (w.alloc (.cells #[a, b, c, d] e)).cell? ((⟨w.heap.size, 0, none⟩ : Addr).add j) = some u := by
  intro j u hj
  rw [add_plain, Nat.zero_add, cell_of_row _ w.heap.size j _ e (0, 0) (heap_alloc_new w _)]
  match j, hj with
  | 0, hj | 1, hj | 2, hj | 3, hj => simpa using hj
theorem infoW : (Try.prog.info? 86).map (fun i => (i.zero, i.size, i.bytes)) = some (some (.agg #[.int .i64 0, .string ByteArray.empty, .int .i64 0, .int .i64 0]), 4, 40) := by kernel_rfl
theorem info_parts {P : Program} {t : TypeId} {z : Option Value} {a b : Nat} (h : (P.info? t).map (fun i => (i.zero, i.size, i.bytes)) = some (z, a, b)) : ∃ i, P.info? t = some i ∧ i.zero = z ∧ i.size = a ∧ i.bytes = b := by
  obtain ⟨i, hi, he⟩ := Option.map_eq_some_iff.1 h
  simp only [Prod.mk.injEq] at he
  exact ⟨i, hi, he.1, he.2.1, he.2.2⟩
/-- 'words = append(words, word)', the word just laid into a block of its own. -/
theorem wpList_add {ops : Array Oper} {rest : List Oper} {o : Oper} {a : Act} {Q : Exit → Act → World → Prop} {wX : World} (hgd : o.guard = none) (s x : Operand)
    (ho : o.op = .call { callee := .builtin .append, args := #[s, x], argTypes := #[72, 72] }) {w : World} {v : Value} {ws : List W} (hO : Outs w wX v ws) (hs : a.eval s = v) (y : W)
    {B : Nat} (hx : a.eval x = .slice (some ⟨B, 0, none⟩) 1 1) (hB : B = wX.heap.size) (hlen : ws.length ≤ 4096)
    (h : ∀ v' w', Outs w w' v' (ws ++ [y]) → wpList Try.prog ops Q rest (a.put o.dst v') w') : wpList Try.prog ops Q (o :: rest) a (wX.alloc (.cells #[.int .i64 y.kind, .string (ba y.text), .int .i64 y.n, .int .i64 y.pos] 86)) := by
  subst hB
  obtain ⟨i, hi, hz, hsz, hby⟩ := info_parts infoW
  have hO2 := hO.moved ((Below.refl _ _).alloc (Nat.le_refl _) (.cells #[.int .i64 y.kind, .string (ba y.text), .int .i64 y.n, .int .i64 y.pos] 86))
  refine wpList_append_own_at _ hgd s x 72 ho w.heap.size 86 i _ 4 40 Try.underlying72 hi hz hsz hby rfl (by decide) v ws.length (flat ws) hs hO2.own ⟨wX.heap.size, 0, none⟩ 1 1 [.int .i64 y.kind, .string (ba y.text), .int .i64 y.n, .int .i64 y.pos] hx rfl (cell_four_new _ _ _ _ _ _) (by simp [Value.oneCell']) (by unfold maxLen; omega) (by omega) hO2.bel.size ?_
  intro v' w' hown hg _ _
  exact h v' w' (hO2.add hown hg)
end
section
open Go.RowKit Go.Maps
set_option linter.unusedVariables false



/-- What is wrong, and where. -/
def faultV (e p : Nat) : Value := .agg #[.int .i64 e, .int .i64 p]
theorem step_blank {s : ByteArray} {k : Nat} {ws : List W} {o : Out} (h : join ws (sp (s.data.toList.drop k) k) = o) (hlt : k < s.size) (hb : (s[k]'hlt).toNat = 32) : join ws (sp (s.data.toList.drop (k + 1)) (k + 1)) = o := by
  have h2 : k < s.data.toList.length := by rw [size_list]; exact hlt
  rw [← h, drop_at _ _ h2, sp_blank]
  rw [← at_list hlt h2]; exact hb
theorem from_at {s : ByteArray} {k : Nat} (hlt : k < s.size) : From s k (s[k]'hlt) (s.data.toList.drop (k + 1)) := by
  have h2 : k < s.data.toList.length := by rw [size_list]; exact hlt
  exact ⟨by rw [drop_at _ _ h2, at_list hlt h2]⟩
theorem step_word {s : ByteArray} {k : Nat} {ws : List W} {o : Out} (h : join ws (sp (s.data.toList.drop k) k) = o) (c : UInt8) (r : Bs) (hf : From s k c r) (hb : c.toNat ≠ 32) (he : (one (c :: r)).err = 0) : join (ws ++ [⟨(one (c :: r)).kind, (one (c :: r)).text, (one (c :: r)).n, k⟩]) (sp (s.data.toList.drop (k + (one (c :: r)).len)) (k + (one (c :: r)).len)) = o := by
  rw [← h, hf.ls, sp_word k hb he, join_join, ← List.drop_drop, hf.ls]
theorem step_bad {s : ByteArray} {k : Nat} {ws : List W} {o : Out} (h : join ws (sp (s.data.toList.drop k) k) = o) (c : UInt8) (r : Bs) (hf : From s k c r) (hb : c.toNat ≠ 32) (he : (one (c :: r)).err ≠ 0) : o = ⟨[], (one (c :: r)).err, k + (one (c :: r)).off⟩ := by
  rw [← h, hf.ls, sp_fault k hb he]
  simp [join, he]
theorem step_end {s : ByteArray} {ws : List W} {o : Out} (h : join ws (sp (s.data.toList.drop s.size) s.size) = o) : o = ⟨ws, 0, 0⟩ := by
  rw [← h, List.drop_eq_nil_of_le (by rw [size_list]; omega), sp_nil]
  simp [join]
/-- A text's words, or what is wrong with it. -/
def lexOut (s : ByteArray) : Out := if s.size ≤ 4096 then sp s.data.toList 0 else ⟨[], 6, 0⟩
end
section
open Go.RowKit
set_option linter.unusedVariables false



/-- The cells of what is told: the tree's four and the fault's two. -/
structure Two (w : World) (b : Nat) : Prop where
  x : Zero4 w b
  f0 : w.cell? ⟨b + 1, 0, none⟩ = some (.int .i64 0)
  f1 : w.cell? ⟨b + 1, 1, none⟩ = some (.int .i64 0)
  ff : ∀ i, w.frozen? ⟨b + 1, i, none⟩ = false
theorem two_new (w : World) : Two ((w.alloc zeroObj).alloc (.cells #[.int .i64 0, .int .i64 0] 57)) w.heap.size := by
  have k := heap_alloc_new (w.alloc zeroObj) (.cells #[.int .i64 0, .int .i64 0] 57)
  rw [size_alloc] at k
  refine ⟨(Cell4.new w _ _ _ _ 24).alloc _, ?_, ?_, fun i => by simp only [World.frozen?]; rw [k]; simp⟩ <;> (rw [cell_of_row _ _ _ _ 57 (0, 0) k]; rfl)
theorem Two.fr {w w' : World} {b rb : Nat} (h : Two w b) (hf : Fr rb w w') (hb : b + 1 < rb) : Two w' b := by
  have hl : b + 1 < w.heap.size := World.block_lt_of_cell? w _ h.f0
  exact ⟨h.x.fr hf (by omega), hf.cell (by omega) h.f0, hf.cell (by omega) h.f1, fun i => (hf.frozen (by omega) hl).trans (h.ff i)⟩
theorem Two.below {w w' : World} {b : Nat} (h : Two w b) (hf : Below w.heap.size w w') : Two w' b := h.fr (rb := b + 2) (.of_below hf) (by omega)
theorem Two.alloc {w : World} {b : Nat} (h : Two w b) (o : Obj) : Two (w.alloc o) b := h.below ((Below.refl _ _).alloc (Nat.le_refl _) o)
theorem Two.lt {w : World} {b : Nat} (h : Two w b) : b + 1 < w.heap.size := World.block_lt_of_cell? w _ h.f0
/-- What Parse leaves. -/
def PPost (w : World) (q : Pd) (e : Ending) (w' : World) : Prop :=
  (∃ (k n : Int) (s : ByteArray) (a : Option Addr) (l c : Nat), e = .returned (.tuple #[.agg #[.int .i64 k, .int .i64 n, .string s, .slice a l c], .agg #[.int .i64 q.err, .int .i64 q.pos]]) ∧ Tre w' (fun g => w.heap.size ≤ g) (.agg #[.int .i64 k, .int .i64 n, .string s, .slice a l c]) q.t) ∧ Below w.heap.size w w'
/-- The six cells of what is told are set. -/
def six (w : World) (b : Nat) (v0 v1 v2 v3 v4 v5 : Value) : World :=
  (((((w.setCell ⟨b, 0, none⟩ v0).setCell ⟨b, 1, none⟩ v1).setCell ⟨b, 2, none⟩ v2).setCell ⟨b, 3, none⟩ v3).setCell ⟨b + 1, 0, none⟩ v4).setCell ⟨b + 1, 1, none⟩ v5
theorem six_below {w w1 : World} (h : Below w.heap.size w w1) (v0 v1 v2 v3 v4 v5 : Value) : Below w.heap.size w (six w1 w.heap.size v0 v1 v2 v3 v4 v5) := by
  have h1 := h.setCell (p := ⟨w.heap.size, 0, none⟩) (Nat.le_refl _) v0
  have h2 := h1.setCell (p := ⟨w.heap.size, 1, none⟩) (Nat.le_refl _) v1
  have h3 := h2.setCell (p := ⟨w.heap.size, 2, none⟩) (Nat.le_refl _) v2
  have h4 := h3.setCell (p := ⟨w.heap.size, 3, none⟩) (Nat.le_refl _) v3
  have h5 := h4.setCell (p := ⟨w.heap.size + 1, 0, none⟩) (Nat.le_succ _) v4
  exact h5.setCell (p := ⟨w.heap.size + 1, 1, none⟩) (Nat.le_succ _) v5
theorem six_tre {w w1 : World} {v : Value} {t : Tr} (h : Tre w1 (fun g => w.heap.size + 1 < g) v t) (v0 v1 v2 v3 v4 v5 : Value) : Tre (six w1 w.heap.size v0 v1 v2 v3 v4 v5) (fun g => w.heap.size ≤ g) v t := by
  have ne0 : ∀ i, ¬ (fun g => w.heap.size + 1 < g) (⟨w.heap.size, i, none⟩ : Addr).block := fun i h => by simp at h; omega
  have ne1 : ∀ i, ¬ (fun g => w.heap.size + 1 < g) (⟨w.heap.size + 1, i, none⟩ : Addr).block := fun i h => by simp at h
  exact ((((((h.set (ne0 0) v0).set (ne0 1) v1).set (ne0 2) v2).set (ne0 3) v3).set (ne1 0) v4).set (ne1 1) v5).sub fun g hg => by omega
theorem Tre.drew {w : World} {P : Nat → Prop} {v : Value} {t : Tr} (h : Tre w P v t) : Tre w.drew P v t := h.kept fun g hg _ => ⟨rfl, hg⟩
end
section
open Go.RowKit
set_option linter.unusedVariables false



theorem Tre.drawn {w : World} {P : Nat → Prop} {v : Value} {t : Tr} (h : Tre w P v t) : Tre w.drew P v t := h.kept fun g hg _ => ⟨rfl, hg⟩
end
section
open Go.RowKit
set_option linter.unusedVariables false



/-- The world that stands at the door: the error's variable and the table. -/
structure Ready (w : World) : Prop where
  held : Held w
  tab : Lib.TabIs Try.prog w "internal/strconv.uint64pow10" .u64 Lib.pow10Tab
theorem Ready.below {w w' : World} (h : Ready w) (hb : Below w.heap.size w w') : Ready w' := ⟨h.held.below (Nat.le_refl _) hb, Lib.tabBelow_of_tabIs h.tab w' hb⟩
theorem Ready.alloc {w : World} (h : Ready w) (o : Obj) : Ready (w.alloc o) := h.below ((Below.refl _ _).alloc (Nat.le_refl _) o)
end
end Go.Proofs.Ytfjphlejhcdbaaa
