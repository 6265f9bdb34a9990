/-
  A row of bytes of the call's own.
-/
import Derived.Test.YtdnpbnhfakjhoaaCheck
import Derived.Lib.AppendStr
import Derived.Lib.OthersKept
import Derived.Lib.AppendIntMem
import Derived.Laws.BytesString
import Derived.Maps.AppendAt
import Derived.Deep.RegionHeld3
namespace Go.Proofs.Ytdnpbnhfakjhoaa
open Go.RowKit
set_option linter.unusedVariables false


def Ob (w : World) (B : Nat) (v : Value) (l : Bs) : Prop := w.ownsRow B 5 1 v l.length (Lib.byteCells l)
/-- Of what there was nothing has turned but v's own row; v' has that row, or a new one. -/
structure Gro (v : Value) (w w' : World) (v' : Value) : Prop where
  os : w'.os = w.os
  tape : w'.tape = w.tape
  output : w'.output = w.output
  size : w.heap.size ≤ w'.heap.size
  block : ∀ k, k < w.heap.size → some k ≠ v.ownBlock → w'.heap[k]? = w.heap[k]?
  own : v'.ownBlock = v.ownBlock ∨ ∀ g, v'.ownBlock = some g → w.heap.size ≤ g
theorem Gro.refl (v : Value) (w : World) : Gro v w w v := ⟨rfl, rfl, rfl, Nat.le_refl _, fun _ _ _ => rfl, .inl rfl⟩
theorem Gro.trans {v v1 v2 : Value} {a b c : World} (h : Gro v a b v1) (k : Gro v1 b c v2) : Gro v a c v2 := by
  refine ⟨k.os.trans h.os, k.tape.trans h.tape, k.output.trans h.output, Nat.le_trans h.size k.size, fun i hi hn => ?_, ?_⟩
  · rw [k.block i (Nat.lt_of_lt_of_le hi h.size) ?_, h.block i hi hn]
    rcases h.own with e | e
    · rw [e]; exact hn
    · intro e2; have := e i e2.symm; omega
  · rcases k.own with e | e
    · rcases h.own with e2 | e2
      · exact .inl (e.trans e2)
      · exact .inr fun g hg => e2 g (by rw [← e]; exact hg)
    · exact .inr fun g hg => Nat.le_trans h.size (e g hg)
theorem Gro.alloc {v v' : Value} {a b : World} (h : Gro v a b v') (o : Obj) : Gro v a (b.alloc o) v' :=
  ⟨h.os, h.tape, h.output, Nat.le_trans h.size (le_alloc _ _), fun k hk hn => (heap_alloc_old _ _ (Nat.lt_of_lt_of_le hk h.size)).trans (h.block k hk hn), h.own⟩
theorem Gro.drew {v v' : Value} {a b : World} (h : Gro v a b v') : Gro v a b.drew v' := ⟨h.os, (Below.drew (Below.refl 0 b)).tape.trans h.tape, h.output, h.size, h.block, h.own⟩
theorem Ob.nil (w : World) (B : Nat) : Ob w B (.slice none 0 0) [] := World.ownsRow_nil _ _ _ _
theorem Ob.alloc {w : World} {B : Nat} {v : Value} {l : Bs} (h : Ob w B v l) (o : Obj) : Ob (w.alloc o) B v l := World.ownsRow.alloc h o
theorem Ob.drew {w : World} {B : Nat} {v : Value} {l : Bs} (h : Ob w B v l) : Ob w.drew B v l := h
theorem Ob.kind {w : World} {B : Nat} {v : Value} {l : Bs} (h : Ob w B v l) : ∀ g, v.ownBlock = some g → ∃ c fz, w.heap[g]? = some (.cells c 5 fz) := by
  intro g hg
  rcases h.2 with ⟨rfl, _⟩ | ⟨g', cap, cur, rfl, _, hgg, _⟩
  · simp [Value.ownBlock] at hg
  · simp [Value.ownBlock] at hg
    subst hg
    exact ⟨_, _, hgg⟩
theorem Ob.lt {w : World} {B : Nat} {v : Value} {l : Bs} (h : Ob w B v l) : ∀ g, v.ownBlock = some g → B ≤ g ∧ g < w.heap.size := fun g e => World.ownsRow.lt h g e
theorem Ob.bel {w w' : World} {B : Nat} {v v' : Value} {l : Bs} (h : Ob w B v l) (hB : B ≤ w.heap.size) (hg : Gro v w w' v') : Below B w w' :=
  ⟨hg.os, hg.tape, hg.output, hg.size, fun k hk => hg.block k (by omega) fun e => by have := h.lt k e.symm; omega⟩
theorem Ob.slice {w : World} {B : Nat} {v : Value} {l : Bs} (h : Ob w B v l) : ∃ a cap, v = .slice a l.length cap := by
  rcases h.2 with ⟨rfl, h0⟩ | ⟨g', cap, cur, rfl, _⟩
  · exact ⟨none, 0, by have := h0; simp_all⟩
  · exact ⟨_, _, rfl⟩
theorem Ob.cell {w : World} {B g cap n : Nat} {l : Bs} (h : Ob w B (.slice (some ⟨g, 0, none⟩) n cap) l) : n = l.length ∧ ∀ j u, (Lib.byteCells l)[j]? = some u → w.cell? ⟨g, j, none⟩ = some u := by
  rcases h.2 with ⟨e, _⟩ | ⟨g', cap', cur, e, _, hg, hn, _, hs, ht⟩
  · cases e
  · simp only [Value.slice.injEq, Option.some.injEq, Addr.mk.injEq, and_true] at e
    obtain ⟨rfl, rfl, rfl⟩ := e
    refine ⟨rfl, fun j u hj => ?_⟩
    rw [cell_of_row _ _ _ _ 5 (0, 0) hg]
    rw [← ht] at hj
    have hj2 : j < l.length := by
      have := (List.getElem?_eq_some_iff.1 hj).1
      simp at this; omega
    rw [List.getElem?_take] at hj
    rw [if_pos (by omega)] at hj
    rw [← hj]; simp
/-- A tree's box: four cells of a block that is no row of bytes. -/
def Box (w : World) (b : Nat) (v0 v1 v2 v3 : Value) : Prop := w.heap[b]? = some (.cells #[v0, v1, v2, v3] 24)
theorem Box.new (w : World) (v0 v1 v2 v3 : Value) : Box (w.alloc (.cells #[v0, v1, v2, v3] 24)) w.heap.size v0 v1 v2 v3 := heap_alloc_new _ _
theorem Box.lt {b : Nat} {w : World} {v0 v1 v2 v3 : Value} (h : Box w b v0 v1 v2 v3) : b < w.heap.size := (Array.getElem?_eq_some_iff.1 h).1
theorem Box.alloc {b : Nat} {w : World} {v0 v1 v2 v3 : Value} (h : Box w b v0 v1 v2 v3) (o : Obj) : Box (w.alloc o) b v0 v1 v2 v3 := by
  unfold Box
  rw [heap_alloc_old _ _ (Array.getElem?_eq_some_iff.1 h).1]
  exact h
theorem Box.cells {b : Nat} {w : World} {v0 v1 v2 v3 : Value} (h : Box w b v0 v1 v2 v3) : Cell4 w b v0 v1 v2 v3 := by
  refine ⟨?_, ?_, ?_, ?_, fun i => by simp only [World.frozen?]; rw [h]; simp⟩ <;> (rw [cell_of_row _ _ _ _ 24 (0, 0) h]; rfl)
end Go.Proofs.Ytdnpbnhfakjhoaa
