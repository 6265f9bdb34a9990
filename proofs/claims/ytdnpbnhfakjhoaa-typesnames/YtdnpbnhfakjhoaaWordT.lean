/-
  wordAt: contracts.
-/
import Derived.Test.YtdnpbnhfakjhoaaText
namespace Go.Proofs.Ytdnpbnhfakjhoaa
open Go.RowKit
set_option linter.unusedVariables false


/-- The three blocks of a call of wordAt, behind a callee. -/
structure Three (w w1 : World) (a b c d : Value) : Prop where
  c0 : w1.cell? ⟨w.heap.size, 0, none⟩ = some (.int .i64 0)
  c1 : w1.cell? ⟨w.heap.size, 1, none⟩ = some (.string ⟨#[]⟩)
  c2 : w1.cell? ⟨w.heap.size, 2, none⟩ = some (.int .i64 0)
  c3 : w1.cell? ⟨w.heap.size, 3, none⟩ = some (.int .i64 0)
  d0 : w1.cell? ⟨w.heap.size + 1, 0, none⟩ = some (.int .i64 0)
  d1 : w1.cell? ⟨w.heap.size + 1, 1, none⟩ = some (.int .i64 0)
  e0 : w1.cell? ⟨w.heap.size + 1 + 1, 0, none⟩ = some a
  e1 : w1.cell? ⟨w.heap.size + 1 + 1, 1, none⟩ = some b
  e2 : w1.cell? ⟨w.heap.size + 1 + 1, 2, none⟩ = some c
  e3 : w1.cell? ⟨w.heap.size + 1 + 1, 3, none⟩ = some d
  fr : ∀ i, w1.frozen? ⟨w.heap.size, i, none⟩ = false
  fs : ∀ i, w1.frozen? ⟨w.heap.size + 1, i, none⟩ = false
  ft : ∀ i, w1.frozen? ⟨w.heap.size + 1 + 1, i, none⟩ = false
  bel : Below w.heap.size w w1
theorem Three.below {w w1 w2 : World} {a b c d : Value} (h : Three w w1 a b c d) (HB : Below w1.heap.size w1 w2) : Three w w2 a b c d := by
  have l0 : w.heap.size < w1.heap.size := World.block_lt_of_cell? w1 _ h.c0
  have l1 : w.heap.size + 1 < w1.heap.size := World.block_lt_of_cell? w1 _ h.d0
  have l2 : w.heap.size + 1 + 1 < w1.heap.size := World.block_lt_of_cell? w1 _ h.e0
  exact ⟨(HB.cell (p := ⟨w.heap.size, 0, none⟩) l0).trans h.c0, (HB.cell (p := ⟨w.heap.size, 1, none⟩) l0).trans h.c1, (HB.cell (p := ⟨w.heap.size, 2, none⟩) l0).trans h.c2, (HB.cell (p := ⟨w.heap.size, 3, none⟩) l0).trans h.c3,
    (HB.cell (p := ⟨w.heap.size + 1, 0, none⟩) l1).trans h.d0, (HB.cell (p := ⟨w.heap.size + 1, 1, none⟩) l1).trans h.d1,
    (HB.cell (p := ⟨w.heap.size + 1 + 1, 0, none⟩) l2).trans h.e0, (HB.cell (p := ⟨w.heap.size + 1 + 1, 1, none⟩) l2).trans h.e1, (HB.cell (p := ⟨w.heap.size + 1 + 1, 2, none⟩) l2).trans h.e2, (HB.cell (p := ⟨w.heap.size + 1 + 1, 3, none⟩) l2).trans h.e3,
    fun i => (HB.frozen (p := ⟨w.heap.size, i, none⟩) l0).trans (h.fr i), fun i => (HB.frozen (p := ⟨w.heap.size + 1, i, none⟩) l1).trans (h.fs i), fun i => (HB.frozen (p := ⟨w.heap.size + 1 + 1, i, none⟩) l2).trans (h.ft i), h.bel.trans (HB.mono (by omega))⟩
end Go.Proofs.Ytdnpbnhfakjhoaa
