/-
  Rows in memory whose elements take several cells; cells of blocks.
-/
import Derived.Test.YtcaddedkodjgcaaMem
import Derived.Test.YtcaddedkodjgcaaQas
namespace Go.Proofs.Ytcaddedkodjgcaa
open Go.RowKit
set_option linter.unusedVariables false

/-- 11 cells of a block. -/
structure Cl11 (w : World) (b : Nat) (v0 v1 v2 v3 v4 v5 v6 v7 v8 v9 v10 : Value) : Prop where
  c0 : w.cell? ⟨b, 0, none⟩ = some v0
  c1 : w.cell? ⟨b, 1, none⟩ = some v1
  c2 : w.cell? ⟨b, 2, none⟩ = some v2
  c3 : w.cell? ⟨b, 3, none⟩ = some v3
  c4 : w.cell? ⟨b, 4, none⟩ = some v4
  c5 : w.cell? ⟨b, 5, none⟩ = some v5
  c6 : w.cell? ⟨b, 6, none⟩ = some v6
  c7 : w.cell? ⟨b, 7, none⟩ = some v7
  c8 : w.cell? ⟨b, 8, none⟩ = some v8
  c9 : w.cell? ⟨b, 9, none⟩ = some v9
  c10 : w.cell? ⟨b, 10, none⟩ = some v10
  free : ∀ i, w.frozen? ⟨b, i, none⟩ = false
theorem Cl11.new (w : World) (v0 v1 v2 v3 v4 v5 v6 v7 v8 v9 v10 : Value) (t : TypeId) : Cl11 (w.alloc (.cells #[v0, v1, v2, v3, v4, v5, v6, v7, v8, v9, v10] t)) w.heap.size v0 v1 v2 v3 v4 v5 v6 v7 v8 v9 v10 := by
  have k := heap_alloc_new w (.cells #[v0, v1, v2, v3, v4, v5, v6, v7, v8, v9, v10] t)
  refine ⟨?_, ?_, ?_, ?_, ?_, ?_, ?_, ?_, ?_, ?_, ?_, fun i => by simp only [World.frozen?]; rw [k]; simp⟩ <;> (rw [cell_of_row _ _ _ _ t (0, 0) k]; rfl)
theorem Cl11.kept {w w' : World} {b : Nat} {v0 v1 v2 v3 v4 v5 v6 v7 v8 v9 v10 : Value} (h : Cl11 w b v0 v1 v2 v3 v4 v5 v6 v7 v8 v9 v10) (e : w'.heap[b]? = w.heap[b]?) : Cl11 w' b v0 v1 v2 v3 v4 v5 v6 v7 v8 v9 v10 := ⟨(cell_kept e _).trans h.c0, (cell_kept e _).trans h.c1, (cell_kept e _).trans h.c2, (cell_kept e _).trans h.c3, (cell_kept e _).trans h.c4, (cell_kept e _).trans h.c5, (cell_kept e _).trans h.c6, (cell_kept e _).trans h.c7, (cell_kept e _).trans h.c8, (cell_kept e _).trans h.c9, (cell_kept e _).trans h.c10, fun i => (frozen_kept e _).trans (h.free i)⟩
theorem Cl11.lt {w : World} {b : Nat} {v0 v1 v2 v3 v4 v5 v6 v7 v8 v9 v10 : Value} (h : Cl11 w b v0 v1 v2 v3 v4 v5 v6 v7 v8 v9 v10) : b < w.heap.size := World.block_lt_of_cell? w _ h.c0
theorem Cl11.below {w w' : World} {b : Nat} {v0 v1 v2 v3 v4 v5 v6 v7 v8 v9 v10 : Value} (h : Cl11 w b v0 v1 v2 v3 v4 v5 v6 v7 v8 v9 v10) (hf : Below w.heap.size w w') : Cl11 w' b v0 v1 v2 v3 v4 v5 v6 v7 v8 v9 v10 := h.kept (hf.block b h.lt)
theorem Cl11.put {w : World} {b : Nat} {v0 v1 v2 v3 v4 v5 v6 v7 v8 v9 v10 : Value} (h : Cl11 w b v0 v1 v2 v3 v4 v5 v6 v7 v8 v9 v10) (j : Nat) (x : Value) : Cl11 (w.setCell ⟨b, j, none⟩ x) b (if j = 0 then x else v0) (if j = 1 then x else v1) (if j = 2 then x else v2) (if j = 3 then x else v3) (if j = 4 then x else v4) (if j = 5 then x else v5) (if j = 6 then x else v6) (if j = 7 then x else v7) (if j = 8 then x else v8) (if j = 9 then x else v9) (if j = 10 then x else v10) :=
  ⟨cell_set h.c0, cell_set h.c1, cell_set h.c2, cell_set h.c3, cell_set h.c4, cell_set h.c5, cell_set h.c6, cell_set h.c7, cell_set h.c8, cell_set h.c9, cell_set h.c10, fun i => by simp only [World.frozen?_setCell]; exact h.free i⟩
/-- All of them put anew. -/
abbrev all11 (w : World) (b : Nat) (v0 v1 v2 v3 v4 v5 v6 v7 v8 v9 v10 : Value) : World := (((((((((((w.setCell ⟨b, 0, none⟩ v0).setCell ⟨b, 1, none⟩ v1).setCell ⟨b, 2, none⟩ v2).setCell ⟨b, 3, none⟩ v3).setCell ⟨b, 4, none⟩ v4).setCell ⟨b, 5, none⟩ v5).setCell ⟨b, 6, none⟩ v6).setCell ⟨b, 7, none⟩ v7).setCell ⟨b, 8, none⟩ v8).setCell ⟨b, 9, none⟩ v9).setCell ⟨b, 10, none⟩ v10)
theorem Cl11.boxed {w : World} {b : Nat} {u0 u1 u2 u3 u4 u5 u6 u7 u8 u9 u10 : Value} (h : Cl11 w b u0 u1 u2 u3 u4 u5 u6 u7 u8 u9 u10) (v0 v1 v2 v3 v4 v5 v6 v7 v8 v9 v10 : Value) : Cl11 (((((((((((w.setCell ⟨b, 0, none⟩ v0).setCell ⟨b, 1, none⟩ v1).setCell ⟨b, 2, none⟩ v2).setCell ⟨b, 3, none⟩ v3).setCell ⟨b, 4, none⟩ v4).setCell ⟨b, 5, none⟩ v5).setCell ⟨b, 6, none⟩ v6).setCell ⟨b, 7, none⟩ v7).setCell ⟨b, 8, none⟩ v8).setCell ⟨b, 9, none⟩ v9).setCell ⟨b, 10, none⟩ v10) b v0 v1 v2 v3 v4 v5 v6 v7 v8 v9 v10 := (((((((((((h.put 0 v0).put 1 v1).put 2 v2).put 3 v3).put 4 v4).put 5 v5).put 6 v6).put 7 v7).put 8 v8).put 9 v9).put 10 v10)
theorem Cl11.other {w : World} {b g : Nat} {v0 v1 v2 v3 v4 v5 v6 v7 v8 v9 v10 : Value} (hg : g ≠ b) : (((((((((((w.setCell ⟨b, 0, none⟩ v0).setCell ⟨b, 1, none⟩ v1).setCell ⟨b, 2, none⟩ v2).setCell ⟨b, 3, none⟩ v3).setCell ⟨b, 4, none⟩ v4).setCell ⟨b, 5, none⟩ v5).setCell ⟨b, 6, none⟩ v6).setCell ⟨b, 7, none⟩ v7).setCell ⟨b, 8, none⟩ v8).setCell ⟨b, 9, none⟩ v9).setCell ⟨b, 10, none⟩ v10).heap[g]? = w.heap[g]? := ((Below.heap_setCell _ _ _ _ hg).trans ((Below.heap_setCell _ _ _ _ hg).trans ((Below.heap_setCell _ _ _ _ hg).trans ((Below.heap_setCell _ _ _ _ hg).trans ((Below.heap_setCell _ _ _ _ hg).trans ((Below.heap_setCell _ _ _ _ hg).trans ((Below.heap_setCell _ _ _ _ hg).trans ((Below.heap_setCell _ _ _ _ hg).trans ((Below.heap_setCell _ _ _ _ hg).trans ((Below.heap_setCell _ _ _ _ hg).trans (Below.heap_setCell _ _ _ _ hg)))))))))))
theorem Cl11.under {B : Nat} {w0 w : World} {b : Nat} {v0 v1 v2 v3 v4 v5 v6 v7 v8 v9 v10 : Value} (h : Below B w0 w) (hB : B ≤ b) : Below B w0 (((((((((((w.setCell ⟨b, 0, none⟩ v0).setCell ⟨b, 1, none⟩ v1).setCell ⟨b, 2, none⟩ v2).setCell ⟨b, 3, none⟩ v3).setCell ⟨b, 4, none⟩ v4).setCell ⟨b, 5, none⟩ v5).setCell ⟨b, 6, none⟩ v6).setCell ⟨b, 7, none⟩ v7).setCell ⟨b, 8, none⟩ v8).setCell ⟨b, 9, none⟩ v9).setCell ⟨b, 10, none⟩ v10) := (((((((((((h.setCell (p := ⟨b, 0, none⟩) hB v0).setCell (p := ⟨b, 1, none⟩) hB v1).setCell (p := ⟨b, 2, none⟩) hB v2).setCell (p := ⟨b, 3, none⟩) hB v3).setCell (p := ⟨b, 4, none⟩) hB v4).setCell (p := ⟨b, 5, none⟩) hB v5).setCell (p := ⟨b, 6, none⟩) hB v6).setCell (p := ⟨b, 7, none⟩) hB v7).setCell (p := ⟨b, 8, none⟩) hB v8).setCell (p := ⟨b, 9, none⟩) hB v9).setCell (p := ⟨b, 10, none⟩) hB v10)
/-- 16 cells of a block. -/
structure Cl16 (w : World) (b : Nat) (v0 v1 v2 v3 v4 v5 v6 v7 v8 v9 v10 v11 v12 v13 v14 v15 : Value) : Prop where
  c0 : w.cell? ⟨b, 0, none⟩ = some v0
  c1 : w.cell? ⟨b, 1, none⟩ = some v1
  c2 : w.cell? ⟨b, 2, none⟩ = some v2
  c3 : w.cell? ⟨b, 3, none⟩ = some v3
  c4 : w.cell? ⟨b, 4, none⟩ = some v4
  c5 : w.cell? ⟨b, 5, none⟩ = some v5
  c6 : w.cell? ⟨b, 6, none⟩ = some v6
  c7 : w.cell? ⟨b, 7, none⟩ = some v7
  c8 : w.cell? ⟨b, 8, none⟩ = some v8
  c9 : w.cell? ⟨b, 9, none⟩ = some v9
  c10 : w.cell? ⟨b, 10, none⟩ = some v10
  c11 : w.cell? ⟨b, 11, none⟩ = some v11
  c12 : w.cell? ⟨b, 12, none⟩ = some v12
  c13 : w.cell? ⟨b, 13, none⟩ = some v13
  c14 : w.cell? ⟨b, 14, none⟩ = some v14
  c15 : w.cell? ⟨b, 15, none⟩ = some v15
  free : ∀ i, w.frozen? ⟨b, i, none⟩ = false
theorem Cl16.new (w : World) (v0 v1 v2 v3 v4 v5 v6 v7 v8 v9 v10 v11 v12 v13 v14 v15 : Value) (t : TypeId) : Cl16 (w.alloc (.cells #[v0, v1, v2, v3, v4, v5, v6, v7, v8, v9, v10, v11, v12, v13, v14, v15] t)) w.heap.size v0 v1 v2 v3 v4 v5 v6 v7 v8 v9 v10 v11 v12 v13 v14 v15 := by
  have k := heap_alloc_new w (.cells #[v0, v1, v2, v3, v4, v5, v6, v7, v8, v9, v10, v11, v12, v13, v14, v15] t)
  refine ⟨?_, ?_, ?_, ?_, ?_, ?_, ?_, ?_, ?_, ?_, ?_, ?_, ?_, ?_, ?_, ?_, fun i => by simp only [World.frozen?]; rw [k]; simp⟩ <;> (rw [cell_of_row _ _ _ _ t (0, 0) k]; rfl)
theorem Cl16.kept {w w' : World} {b : Nat} {v0 v1 v2 v3 v4 v5 v6 v7 v8 v9 v10 v11 v12 v13 v14 v15 : Value} (h : Cl16 w b v0 v1 v2 v3 v4 v5 v6 v7 v8 v9 v10 v11 v12 v13 v14 v15) (e : w'.heap[b]? = w.heap[b]?) : Cl16 w' b v0 v1 v2 v3 v4 v5 v6 v7 v8 v9 v10 v11 v12 v13 v14 v15 := ⟨(cell_kept e _).trans h.c0, (cell_kept e _).trans h.c1, (cell_kept e _).trans h.c2, (cell_kept e _).trans h.c3, (cell_kept e _).trans h.c4, (cell_kept e _).trans h.c5, (cell_kept e _).trans h.c6, (cell_kept e _).trans h.c7, (cell_kept e _).trans h.c8, (cell_kept e _).trans h.c9, (cell_kept e _).trans h.c10, (cell_kept e _).trans h.c11, (cell_kept e _).trans h.c12, (cell_kept e _).trans h.c13, (cell_kept e _).trans h.c14, (cell_kept e _).trans h.c15, fun i => (frozen_kept e _).trans (h.free i)⟩
theorem Cl16.lt {w : World} {b : Nat} {v0 v1 v2 v3 v4 v5 v6 v7 v8 v9 v10 v11 v12 v13 v14 v15 : Value} (h : Cl16 w b v0 v1 v2 v3 v4 v5 v6 v7 v8 v9 v10 v11 v12 v13 v14 v15) : b < w.heap.size := World.block_lt_of_cell? w _ h.c0
theorem Cl16.below {w w' : World} {b : Nat} {v0 v1 v2 v3 v4 v5 v6 v7 v8 v9 v10 v11 v12 v13 v14 v15 : Value} (h : Cl16 w b v0 v1 v2 v3 v4 v5 v6 v7 v8 v9 v10 v11 v12 v13 v14 v15) (hf : Below w.heap.size w w') : Cl16 w' b v0 v1 v2 v3 v4 v5 v6 v7 v8 v9 v10 v11 v12 v13 v14 v15 := h.kept (hf.block b h.lt)
theorem Cl16.put {w : World} {b : Nat} {v0 v1 v2 v3 v4 v5 v6 v7 v8 v9 v10 v11 v12 v13 v14 v15 : Value} (h : Cl16 w b v0 v1 v2 v3 v4 v5 v6 v7 v8 v9 v10 v11 v12 v13 v14 v15) (j : Nat) (x : Value) : Cl16 (w.setCell ⟨b, j, none⟩ x) b (if j = 0 then x else v0) (if j = 1 then x else v1) (if j = 2 then x else v2) (if j = 3 then x else v3) (if j = 4 then x else v4) (if j = 5 then x else v5) (if j = 6 then x else v6) (if j = 7 then x else v7) (if j = 8 then x else v8) (if j = 9 then x else v9) (if j = 10 then x else v10) (if j = 11 then x else v11) (if j = 12 then x else v12) (if j = 13 then x else v13) (if j = 14 then x else v14) (if j = 15 then x else v15) :=
  ⟨cell_set h.c0, cell_set h.c1, cell_set h.c2, cell_set h.c3, cell_set h.c4, cell_set h.c5, cell_set h.c6, cell_set h.c7, cell_set h.c8, cell_set h.c9, cell_set h.c10, cell_set h.c11, cell_set h.c12, cell_set h.c13, cell_set h.c14, cell_set h.c15, fun i => by simp only [World.frozen?_setCell]; exact h.free i⟩
/-- All of them put anew. -/
abbrev all16 (w : World) (b : Nat) (v0 v1 v2 v3 v4 v5 v6 v7 v8 v9 v10 v11 v12 v13 v14 v15 : Value) : World := ((((((((((((((((w.setCell ⟨b, 0, none⟩ v0).setCell ⟨b, 1, none⟩ v1).setCell ⟨b, 2, none⟩ v2).setCell ⟨b, 3, none⟩ v3).setCell ⟨b, 4, none⟩ v4).setCell ⟨b, 5, none⟩ v5).setCell ⟨b, 6, none⟩ v6).setCell ⟨b, 7, none⟩ v7).setCell ⟨b, 8, none⟩ v8).setCell ⟨b, 9, none⟩ v9).setCell ⟨b, 10, none⟩ v10).setCell ⟨b, 11, none⟩ v11).setCell ⟨b, 12, none⟩ v12).setCell ⟨b, 13, none⟩ v13).setCell ⟨b, 14, none⟩ v14).setCell ⟨b, 15, none⟩ v15)
theorem Cl16.boxed {w : World} {b : Nat} {u0 u1 u2 u3 u4 u5 u6 u7 u8 u9 u10 u11 u12 u13 u14 u15 : Value} (h : Cl16 w b u0 u1 u2 u3 u4 u5 u6 u7 u8 u9 u10 u11 u12 u13 u14 u15) (v0 v1 v2 v3 v4 v5 v6 v7 v8 v9 v10 v11 v12 v13 v14 v15 : Value) : Cl16 ((((((((((((((((w.setCell ⟨b, 0, none⟩ v0).setCell ⟨b, 1, none⟩ v1).setCell ⟨b, 2, none⟩ v2).setCell ⟨b, 3, none⟩ v3).setCell ⟨b, 4, none⟩ v4).setCell ⟨b, 5, none⟩ v5).setCell ⟨b, 6, none⟩ v6).setCell ⟨b, 7, none⟩ v7).setCell ⟨b, 8, none⟩ v8).setCell ⟨b, 9, none⟩ v9).setCell ⟨b, 10, none⟩ v10).setCell ⟨b, 11, none⟩ v11).setCell ⟨b, 12, none⟩ v12).setCell ⟨b, 13, none⟩ v13).setCell ⟨b, 14, none⟩ v14).setCell ⟨b, 15, none⟩ v15) b v0 v1 v2 v3 v4 v5 v6 v7 v8 v9 v10 v11 v12 v13 v14 v15 := ((((((((((((((((h.put 0 v0).put 1 v1).put 2 v2).put 3 v3).put 4 v4).put 5 v5).put 6 v6).put 7 v7).put 8 v8).put 9 v9).put 10 v10).put 11 v11).put 12 v12).put 13 v13).put 14 v14).put 15 v15)
theorem Cl16.other {w : World} {b g : Nat} {v0 v1 v2 v3 v4 v5 v6 v7 v8 v9 v10 v11 v12 v13 v14 v15 : Value} (hg : g ≠ b) : ((((((((((((((((w.setCell ⟨b, 0, none⟩ v0).setCell ⟨b, 1, none⟩ v1).setCell ⟨b, 2, none⟩ v2).setCell ⟨b, 3, none⟩ v3).setCell ⟨b, 4, none⟩ v4).setCell ⟨b, 5, none⟩ v5).setCell ⟨b, 6, none⟩ v6).setCell ⟨b, 7, none⟩ v7).setCell ⟨b, 8, none⟩ v8).setCell ⟨b, 9, none⟩ v9).setCell ⟨b, 10, none⟩ v10).setCell ⟨b, 11, none⟩ v11).setCell ⟨b, 12, none⟩ v12).setCell ⟨b, 13, none⟩ v13).setCell ⟨b, 14, none⟩ v14).setCell ⟨b, 15, none⟩ v15).heap[g]? = w.heap[g]? := ((Below.heap_setCell _ _ _ _ hg).trans ((Below.heap_setCell _ _ _ _ hg).trans ((Below.heap_setCell _ _ _ _ hg).trans ((Below.heap_setCell _ _ _ _ hg).trans ((Below.heap_setCell _ _ _ _ hg).trans ((Below.heap_setCell _ _ _ _ hg).trans ((Below.heap_setCell _ _ _ _ hg).trans ((Below.heap_setCell _ _ _ _ hg).trans ((Below.heap_setCell _ _ _ _ hg).trans ((Below.heap_setCell _ _ _ _ hg).trans ((Below.heap_setCell _ _ _ _ hg).trans ((Below.heap_setCell _ _ _ _ hg).trans ((Below.heap_setCell _ _ _ _ hg).trans ((Below.heap_setCell _ _ _ _ hg).trans ((Below.heap_setCell _ _ _ _ hg).trans (Below.heap_setCell _ _ _ _ hg))))))))))))))))
theorem Cl16.under {B : Nat} {w0 w : World} {b : Nat} {v0 v1 v2 v3 v4 v5 v6 v7 v8 v9 v10 v11 v12 v13 v14 v15 : Value} (h : Below B w0 w) (hB : B ≤ b) : Below B w0 ((((((((((((((((w.setCell ⟨b, 0, none⟩ v0).setCell ⟨b, 1, none⟩ v1).setCell ⟨b, 2, none⟩ v2).setCell ⟨b, 3, none⟩ v3).setCell ⟨b, 4, none⟩ v4).setCell ⟨b, 5, none⟩ v5).setCell ⟨b, 6, none⟩ v6).setCell ⟨b, 7, none⟩ v7).setCell ⟨b, 8, none⟩ v8).setCell ⟨b, 9, none⟩ v9).setCell ⟨b, 10, none⟩ v10).setCell ⟨b, 11, none⟩ v11).setCell ⟨b, 12, none⟩ v12).setCell ⟨b, 13, none⟩ v13).setCell ⟨b, 14, none⟩ v14).setCell ⟨b, 15, none⟩ v15) := ((((((((((((((((h.setCell (p := ⟨b, 0, none⟩) hB v0).setCell (p := ⟨b, 1, none⟩) hB v1).setCell (p := ⟨b, 2, none⟩) hB v2).setCell (p := ⟨b, 3, none⟩) hB v3).setCell (p := ⟨b, 4, none⟩) hB v4).setCell (p := ⟨b, 5, none⟩) hB v5).setCell (p := ⟨b, 6, none⟩) hB v6).setCell (p := ⟨b, 7, none⟩) hB v7).setCell (p := ⟨b, 8, none⟩) hB v8).setCell (p := ⟨b, 9, none⟩) hB v9).setCell (p := ⟨b, 10, none⟩) hB v10).setCell (p := ⟨b, 11, none⟩) hB v11).setCell (p := ⟨b, 12, none⟩) hB v12).setCell (p := ⟨b, 13, none⟩) hB v13).setCell (p := ⟨b, 14, none⟩) hB v14).setCell (p := ⟨b, 15, none⟩) hB v15)
/-- 17 cells of a block. -/
structure Cl17 (w : World) (b : Nat) (v0 v1 v2 v3 v4 v5 v6 v7 v8 v9 v10 v11 v12 v13 v14 v15 v16 : Value) : Prop where
  c0 : w.cell? ⟨b, 0, none⟩ = some v0
  c1 : w.cell? ⟨b, 1, none⟩ = some v1
  c2 : w.cell? ⟨b, 2, none⟩ = some v2
  c3 : w.cell? ⟨b, 3, none⟩ = some v3
  c4 : w.cell? ⟨b, 4, none⟩ = some v4
  c5 : w.cell? ⟨b, 5, none⟩ = some v5
  c6 : w.cell? ⟨b, 6, none⟩ = some v6
  c7 : w.cell? ⟨b, 7, none⟩ = some v7
  c8 : w.cell? ⟨b, 8, none⟩ = some v8
  c9 : w.cell? ⟨b, 9, none⟩ = some v9
  c10 : w.cell? ⟨b, 10, none⟩ = some v10
  c11 : w.cell? ⟨b, 11, none⟩ = some v11
  c12 : w.cell? ⟨b, 12, none⟩ = some v12
  c13 : w.cell? ⟨b, 13, none⟩ = some v13
  c14 : w.cell? ⟨b, 14, none⟩ = some v14
  c15 : w.cell? ⟨b, 15, none⟩ = some v15
  c16 : w.cell? ⟨b, 16, none⟩ = some v16
  free : ∀ i, w.frozen? ⟨b, i, none⟩ = false
theorem Cl17.new (w : World) (v0 v1 v2 v3 v4 v5 v6 v7 v8 v9 v10 v11 v12 v13 v14 v15 v16 : Value) (t : TypeId) : Cl17 (w.alloc (.cells #[v0, v1, v2, v3, v4, v5, v6, v7, v8, v9, v10, v11, v12, v13, v14, v15, v16] t)) w.heap.size v0 v1 v2 v3 v4 v5 v6 v7 v8 v9 v10 v11 v12 v13 v14 v15 v16 := by
  have k := heap_alloc_new w (.cells #[v0, v1, v2, v3, v4, v5, v6, v7, v8, v9, v10, v11, v12, v13, v14, v15, v16] t)
  refine ⟨?_, ?_, ?_, ?_, ?_, ?_, ?_, ?_, ?_, ?_, ?_, ?_, ?_, ?_, ?_, ?_, ?_, fun i => by simp only [World.frozen?]; rw [k]; simp⟩ <;> (rw [cell_of_row _ _ _ _ t (0, 0) k]; rfl)
theorem Cl17.kept {w w' : World} {b : Nat} {v0 v1 v2 v3 v4 v5 v6 v7 v8 v9 v10 v11 v12 v13 v14 v15 v16 : Value} (h : Cl17 w b v0 v1 v2 v3 v4 v5 v6 v7 v8 v9 v10 v11 v12 v13 v14 v15 v16) (e : w'.heap[b]? = w.heap[b]?) : Cl17 w' b v0 v1 v2 v3 v4 v5 v6 v7 v8 v9 v10 v11 v12 v13 v14 v15 v16 := ⟨(cell_kept e _).trans h.c0, (cell_kept e _).trans h.c1, (cell_kept e _).trans h.c2, (cell_kept e _).trans h.c3, (cell_kept e _).trans h.c4, (cell_kept e _).trans h.c5, (cell_kept e _).trans h.c6, (cell_kept e _).trans h.c7, (cell_kept e _).trans h.c8, (cell_kept e _).trans h.c9, (cell_kept e _).trans h.c10, (cell_kept e _).trans h.c11, (cell_kept e _).trans h.c12, (cell_kept e _).trans h.c13, (cell_kept e _).trans h.c14, (cell_kept e _).trans h.c15, (cell_kept e _).trans h.c16, fun i => (frozen_kept e _).trans (h.free i)⟩
theorem Cl17.lt {w : World} {b : Nat} {v0 v1 v2 v3 v4 v5 v6 v7 v8 v9 v10 v11 v12 v13 v14 v15 v16 : Value} (h : Cl17 w b v0 v1 v2 v3 v4 v5 v6 v7 v8 v9 v10 v11 v12 v13 v14 v15 v16) : b < w.heap.size := World.block_lt_of_cell? w _ h.c0
theorem Cl17.below {w w' : World} {b : Nat} {v0 v1 v2 v3 v4 v5 v6 v7 v8 v9 v10 v11 v12 v13 v14 v15 v16 : Value} (h : Cl17 w b v0 v1 v2 v3 v4 v5 v6 v7 v8 v9 v10 v11 v12 v13 v14 v15 v16) (hf : Below w.heap.size w w') : Cl17 w' b v0 v1 v2 v3 v4 v5 v6 v7 v8 v9 v10 v11 v12 v13 v14 v15 v16 := h.kept (hf.block b h.lt)
theorem Cl17.put {w : World} {b : Nat} {v0 v1 v2 v3 v4 v5 v6 v7 v8 v9 v10 v11 v12 v13 v14 v15 v16 : Value} (h : Cl17 w b v0 v1 v2 v3 v4 v5 v6 v7 v8 v9 v10 v11 v12 v13 v14 v15 v16) (j : Nat) (x : Value) : Cl17 (w.setCell ⟨b, j, none⟩ x) b (if j = 0 then x else v0) (if j = 1 then x else v1) (if j = 2 then x else v2) (if j = 3 then x else v3) (if j = 4 then x else v4) (if j = 5 then x else v5) (if j = 6 then x else v6) (if j = 7 then x else v7) (if j = 8 then x else v8) (if j = 9 then x else v9) (if j = 10 then x else v10) (if j = 11 then x else v11) (if j = 12 then x else v12) (if j = 13 then x else v13) (if j = 14 then x else v14) (if j = 15 then x else v15) (if j = 16 then x else v16) :=
  ⟨cell_set h.c0, cell_set h.c1, cell_set h.c2, cell_set h.c3, cell_set h.c4, cell_set h.c5, cell_set h.c6, cell_set h.c7, cell_set h.c8, cell_set h.c9, cell_set h.c10, cell_set h.c11, cell_set h.c12, cell_set h.c13, cell_set h.c14, cell_set h.c15, cell_set h.c16, fun i => by simp only [World.frozen?_setCell]; exact h.free i⟩
/-- All of them put anew. -/
abbrev all17 (w : World) (b : Nat) (v0 v1 v2 v3 v4 v5 v6 v7 v8 v9 v10 v11 v12 v13 v14 v15 v16 : Value) : World := (((((((((((((((((w.setCell ⟨b, 0, none⟩ v0).setCell ⟨b, 1, none⟩ v1).setCell ⟨b, 2, none⟩ v2).setCell ⟨b, 3, none⟩ v3).setCell ⟨b, 4, none⟩ v4).setCell ⟨b, 5, none⟩ v5).setCell ⟨b, 6, none⟩ v6).setCell ⟨b, 7, none⟩ v7).setCell ⟨b, 8, none⟩ v8).setCell ⟨b, 9, none⟩ v9).setCell ⟨b, 10, none⟩ v10).setCell ⟨b, 11, none⟩ v11).setCell ⟨b, 12, none⟩ v12).setCell ⟨b, 13, none⟩ v13).setCell ⟨b, 14, none⟩ v14).setCell ⟨b, 15, none⟩ v15).setCell ⟨b, 16, none⟩ v16)
theorem Cl17.boxed {w : World} {b : Nat} {u0 u1 u2 u3 u4 u5 u6 u7 u8 u9 u10 u11 u12 u13 u14 u15 u16 : Value} (h : Cl17 w b u0 u1 u2 u3 u4 u5 u6 u7 u8 u9 u10 u11 u12 u13 u14 u15 u16) (v0 v1 v2 v3 v4 v5 v6 v7 v8 v9 v10 v11 v12 v13 v14 v15 v16 : Value) : Cl17 (((((((((((((((((w.setCell ⟨b, 0, none⟩ v0).setCell ⟨b, 1, none⟩ v1).setCell ⟨b, 2, none⟩ v2).setCell ⟨b, 3, none⟩ v3).setCell ⟨b, 4, none⟩ v4).setCell ⟨b, 5, none⟩ v5).setCell ⟨b, 6, none⟩ v6).setCell ⟨b, 7, none⟩ v7).setCell ⟨b, 8, none⟩ v8).setCell ⟨b, 9, none⟩ v9).setCell ⟨b, 10, none⟩ v10).setCell ⟨b, 11, none⟩ v11).setCell ⟨b, 12, none⟩ v12).setCell ⟨b, 13, none⟩ v13).setCell ⟨b, 14, none⟩ v14).setCell ⟨b, 15, none⟩ v15).setCell ⟨b, 16, none⟩ v16) b v0 v1 v2 v3 v4 v5 v6 v7 v8 v9 v10 v11 v12 v13 v14 v15 v16 := (((((((((((((((((h.put 0 v0).put 1 v1).put 2 v2).put 3 v3).put 4 v4).put 5 v5).put 6 v6).put 7 v7).put 8 v8).put 9 v9).put 10 v10).put 11 v11).put 12 v12).put 13 v13).put 14 v14).put 15 v15).put 16 v16)
theorem Cl17.other {w : World} {b g : Nat} {v0 v1 v2 v3 v4 v5 v6 v7 v8 v9 v10 v11 v12 v13 v14 v15 v16 : Value} (hg : g ≠ b) : (((((((((((((((((w.setCell ⟨b, 0, none⟩ v0).setCell ⟨b, 1, none⟩ v1).setCell ⟨b, 2, none⟩ v2).setCell ⟨b, 3, none⟩ v3).setCell ⟨b, 4, none⟩ v4).setCell ⟨b, 5, none⟩ v5).setCell ⟨b, 6, none⟩ v6).setCell ⟨b, 7, none⟩ v7).setCell ⟨b, 8, none⟩ v8).setCell ⟨b, 9, none⟩ v9).setCell ⟨b, 10, none⟩ v10).setCell ⟨b, 11, none⟩ v11).setCell ⟨b, 12, none⟩ v12).setCell ⟨b, 13, none⟩ v13).setCell ⟨b, 14, none⟩ v14).setCell ⟨b, 15, none⟩ v15).setCell ⟨b, 16, none⟩ v16).heap[g]? = w.heap[g]? := ((Below.heap_setCell _ _ _ _ hg).trans ((Below.heap_setCell _ _ _ _ hg).trans ((Below.heap_setCell _ _ _ _ hg).trans ((Below.heap_setCell _ _ _ _ hg).trans ((Below.heap_setCell _ _ _ _ hg).trans ((Below.heap_setCell _ _ _ _ hg).trans ((Below.heap_setCell _ _ _ _ hg).trans ((Below.heap_setCell _ _ _ _ hg).trans ((Below.heap_setCell _ _ _ _ hg).trans ((Below.heap_setCell _ _ _ _ hg).trans ((Below.heap_setCell _ _ _ _ hg).trans ((Below.heap_setCell _ _ _ _ hg).trans ((Below.heap_setCell _ _ _ _ hg).trans ((Below.heap_setCell _ _ _ _ hg).trans ((Below.heap_setCell _ _ _ _ hg).trans ((Below.heap_setCell _ _ _ _ hg).trans (Below.heap_setCell _ _ _ _ hg)))))))))))))))))
theorem Cl17.under {B : Nat} {w0 w : World} {b : Nat} {v0 v1 v2 v3 v4 v5 v6 v7 v8 v9 v10 v11 v12 v13 v14 v15 v16 : Value} (h : Below B w0 w) (hB : B ≤ b) : Below B w0 (((((((((((((((((w.setCell ⟨b, 0, none⟩ v0).setCell ⟨b, 1, none⟩ v1).setCell ⟨b, 2, none⟩ v2).setCell ⟨b, 3, none⟩ v3).setCell ⟨b, 4, none⟩ v4).setCell ⟨b, 5, none⟩ v5).setCell ⟨b, 6, none⟩ v6).setCell ⟨b, 7, none⟩ v7).setCell ⟨b, 8, none⟩ v8).setCell ⟨b, 9, none⟩ v9).setCell ⟨b, 10, none⟩ v10).setCell ⟨b, 11, none⟩ v11).setCell ⟨b, 12, none⟩ v12).setCell ⟨b, 13, none⟩ v13).setCell ⟨b, 14, none⟩ v14).setCell ⟨b, 15, none⟩ v15).setCell ⟨b, 16, none⟩ v16) := (((((((((((((((((h.setCell (p := ⟨b, 0, none⟩) hB v0).setCell (p := ⟨b, 1, none⟩) hB v1).setCell (p := ⟨b, 2, none⟩) hB v2).setCell (p := ⟨b, 3, none⟩) hB v3).setCell (p := ⟨b, 4, none⟩) hB v4).setCell (p := ⟨b, 5, none⟩) hB v5).setCell (p := ⟨b, 6, none⟩) hB v6).setCell (p := ⟨b, 7, none⟩) hB v7).setCell (p := ⟨b, 8, none⟩) hB v8).setCell (p := ⟨b, 9, none⟩) hB v9).setCell (p := ⟨b, 10, none⟩) hB v10).setCell (p := ⟨b, 11, none⟩) hB v11).setCell (p := ⟨b, 12, none⟩) hB v12).setCell (p := ⟨b, 13, none⟩) hB v13).setCell (p := ⟨b, 14, none⟩) hB v14).setCell (p := ⟨b, 15, none⟩) hB v15).setCell (p := ⟨b, 16, none⟩) hB v16)

/-- How an element of a row is read from its cells. -/
structure Rdr (α : Type) where
  k : Nat
  z : α
  R : World → (Nat → Prop) → List Value → α → Prop
  kpos : 0 < k
  kept : ∀ {w w' : World} {P Q : Nat → Prop} {us : List Value} {x : α}, R w P us x → (∀ g, P g → g < w.heap.size → w'.heap[g]? = w.heap[g]? ∧ Q g) → R w' Q us x
  len : ∀ {w : World} {P : Nat → Prop} {us : List Value} {x : α}, R w P us x → us.length = k
  one : ∀ {w : World} {P : Nat → Prop} {us : List Value} {x : α}, R w P us x → ∀ u, u ∈ us → u.oneCell' = true
section
variable {α : Type} (r : Rdr α)
/-- A slice that reads as a list. -/
def RwV (w : World) (P : Nat → Prop) (a : Option Addr) (c : Nat) (l : List α) : Prop :=
  l.length ≤ c ∧ c ≤ 9223372036854775807 ∧ (a = none → c = 0) ∧ ∀ i, i < l.length → ∃ b o us, (a = some ⟨b, o, none⟩ ∧ P b) ∧ (∀ j, j < r.k → w.cell? ⟨b, o + i * r.k + j, none⟩ = us[j]?) ∧ r.R w P us (l.getD i r.z)
theorem RwV.nil (w : World) (P : Nat → Prop) : RwV r w P none 0 [] := ⟨Nat.le_refl _, by decide, fun _ => rfl, fun i hi => by simp at hi⟩
variable {r} {w w' : World} {P Q : Nat → Prop} {a : Option Addr} {c : Nat} {l : List α}
theorem get_some {us : List Value} {k j : Nat} (h : us.length = k) (hj : j < k) : ∃ u, us[j]? = some u := ⟨us[j], List.getElem?_eq_getElem (by omega)⟩
theorem RwV.kept (h : RwV r w P a c l) (hk : ∀ g, P g → g < w.heap.size → w'.heap[g]? = w.heap[g]? ∧ Q g) : RwV r w' Q a c l := by
  obtain ⟨h1, h2, h3, h4⟩ := h
  refine ⟨h1, h2, h3, fun i hi => ?_⟩
  obtain ⟨b, o, us, ⟨q1, qp⟩, q2, q3⟩ := h4 i hi
  obtain ⟨u, hu⟩ := get_some (r.len q3) r.kpos
  obtain ⟨e, eq⟩ := hk b qp (World.block_lt_of_cell? _ _ ((q2 0 r.kpos).trans hu))
  exact ⟨b, o, us, ⟨q1, eq⟩, fun j hj => (cell_kept e _).trans (q2 j hj), r.kept q3 hk⟩
theorem RwV.below (h : RwV r w P a c l) (hb : Below w.heap.size w w') : RwV r w' P a c l := h.kept fun g hg hlt => ⟨hb.block g hlt, hg⟩
theorem RwV.sub (h : RwV r w P a c l) (hq : ∀ g, P g → g < w.heap.size → Q g) : RwV r w Q a c l := h.kept fun g hg hlt => ⟨rfl, hq g hg hlt⟩
theorem RwV.all (h : RwV r w P a c l) : RwV r w (fun _ => True) a c l := h.sub fun _ _ _ => trivial
theorem RwV.low (h : RwV r w P a c l) : RwV r w (fun g => g < w.heap.size) a c l := h.sub fun _ _ q => q
theorem RwV.alloc (h : RwV r w P a c l) (o : Obj) : RwV r (w.alloc o) P a c l := h.below ((Below.refl _ _).alloc (Nat.le_refl _) o)
theorem RwV.cap1 (h : RwV r w P a c l) : l.length ≤ c := h.1
theorem RwV.cap2 (h : RwV r w P a c l) : c ≤ 9223372036854775807 := h.2.1
theorem getD_dropA (l : List α) (k i : Nat) (z : α) : (l.drop k).getD i z = l.getD (k + i) z := by
  rw [List.getD_eq_getElem?_getD, List.getElem?_drop, ← List.getD_eq_getElem?_getD]
theorem getD_takeA {l : List α} {k i : Nat} {z : α} (h : i < k) : (l.take k).getD i z = l.getD i z := by
  rw [List.getD_eq_getElem?_getD, List.getElem?_take, if_pos h, ← List.getD_eq_getElem?_getD]
theorem getD_leftA {es fs : List α} {i : Nat} {z : α} (h : i < es.length) : (es ++ fs).getD i z = es.getD i z := by
  rw [List.getD_eq_getElem?_getD, List.getElem?_append_left h, ← List.getD_eq_getElem?_getD]
theorem getD_rightA {es fs : List α} {i : Nat} {z : α} : (es ++ fs).getD (es.length + i) z = fs.getD i z := by
  rw [List.getD_eq_getElem?_getD, List.getElem?_append_right (Nat.le_add_right _ _), Nat.add_sub_cancel_left, ← List.getD_eq_getElem?_getD]
/-- x[k:]. -/
theorem RwV.drop (h : RwV r w P a c l) {k : Nat} (hk : k ≤ l.length) : RwV r w P (if c = k then a else a.map (·.add (k * r.k))) (c - k) (l.drop k) := by
  obtain ⟨h1, h2, h3, h4⟩ := h
  refine ⟨by rw [List.length_drop]; omega, by omega, fun e => ?_, fun i hi => ?_⟩
  · split at e
    · omega
    · have : a = none := by cases a with | none => rfl | some _ => simp at e
      have := h3 this; omega
  · rw [List.length_drop] at hi
    obtain ⟨b, o, us, ⟨q1, qp⟩, q2, q3⟩ := h4 (k + i) (by omega)
    subst q1
    refine ⟨b, o + k * r.k, us, ⟨?_, qp⟩, fun j hj => ?_, ?_⟩
    · rw [if_neg (by omega), Option.map_some, add2]
    · rw [show o + k * r.k + i * r.k = o + (k + i) * r.k by rw [Nat.add_mul]; omega]; exact q2 j hj
    · rw [getD_dropA]; exact q3
/-- x[:k]. -/
theorem RwV.take (h : RwV r w P a c l) {k : Nat} (hk : k ≤ l.length) : RwV r w P a c (l.take k) := by
  obtain ⟨h1, h2, h3, h4⟩ := h
  refine ⟨by rw [List.length_take]; omega, h2, h3, fun i hi => ?_⟩
  rw [List.length_take] at hi
  obtain ⟨b, o, us, q1, q2, q3⟩ := h4 i (by omega)
  exact ⟨b, o, us, q1, q2, by rw [getD_takeA (by omega)]; exact q3⟩
variable (r) in
/-- A row that grows, of the call's own from B on; what its elements lead to lies in S, and not in the row. -/
def Gr (t : TypeId) (w : World) (B : Nat) (S : Nat → Prop) (v : Value) (ts : List α) : Prop := ∃ xs, w.ownsRow B t r.k v ts.length xs ∧ ∀ j, j < ts.length → ∃ us, (∀ i, i < r.k → xs[j * r.k + i]? = us[i]?) ∧ r.R w (fun g => S g ∧ v.ownBlock ≠ some g) us (ts.getD j r.z)
variable {t : TypeId} {B : Nat} {S : Nat → Prop} {v : Value} {ts : List α}
variable (r) in
theorem Gr.nil (t : TypeId) (w : World) (B : Nat) (S : Nat → Prop) : Gr r t w B S (.slice none 0 0) [] := ⟨[], World.ownsRow_nil _ _ _ _, fun j hj => by simp at hj⟩
theorem Gr.own (h : Gr r t w B S v ts) : ∀ k, v.ownBlock = some k → B ≤ k ∧ k < w.heap.size := by
  obtain ⟨xs, h1, _⟩ := h
  exact World.ownsRow.lt h1
theorem Gr.kept {S' : Nat → Prop} (h : Gr r t w B S v ts) (h0 : ∀ g, v.ownBlock = some g → w'.heap[g]? = w.heap[g]?) (hk : ∀ g, S g → v.ownBlock ≠ some g → g < w.heap.size → w'.heap[g]? = w.heap[g]? ∧ S' g) : Gr r t w' B S' v ts := by
  obtain ⟨xs, h1, h2⟩ := h
  refine ⟨xs, ⟨h1.1, ?_⟩, fun j hj => ?_⟩
  · rcases h1.2 with hn | ⟨g, cap, cur, hv, hg, hh, rest⟩
    · exact .inl hn
    · exact .inr ⟨g, cap, cur, hv, hg, by rw [h0 g (by rw [hv]; rfl)]; exact hh, rest⟩
  · obtain ⟨us, q1, q3⟩ := h2 j hj
    exact ⟨us, q1, r.kept q3 fun g hg hlt => ⟨(hk g hg.1 hg.2 hlt).1, (hk g hg.1 hg.2 hlt).2, hg.2⟩⟩
theorem Gr.below (h : Gr r t w B S v ts) (hb : Below w.heap.size w w') : Gr r t w' B S v ts := h.kept (fun g hg => hb.block g (h.own g hg).2) fun g hs _ hlt => ⟨hb.block g hlt, hs⟩
theorem Gr.form (h : Gr r t w B S v ts) : ∃ a c, v = .slice a ts.length c := by
  obtain ⟨xs, h1, _⟩ := h
  rcases h1.2 with ⟨rfl, h0⟩ | ⟨g, cap, cur, rfl, _⟩
  · exact ⟨_, _, by rw [h0]⟩
  · exact ⟨_, _, rfl⟩
/-- What grew reads. -/
theorem Gr.reads {n : Nat} (h : Gr r t w B S (.slice a n c) ts) : n = ts.length ∧ RwV r w (fun g => S g ∨ B ≤ g) a c ts := by
  obtain ⟨xs, h1, h2⟩ := h
  rcases id h1.2 with ⟨e, h0⟩ | ⟨g, cap, cur, e, hb, hh, q1, q2, q3, q4⟩
  · simp only [Value.slice.injEq] at e
    obtain ⟨rfl, rfl, rfl⟩ := e
    obtain rfl : ts = [] := List.length_eq_zero_iff.1 h0
    exact ⟨rfl, RwV.nil r w _⟩
  · simp only [Value.slice.injEq] at e
    obtain ⟨rfl, rfl, rfl⟩ := e
    refine ⟨rfl, q1, q2, fun e => (by cases e), fun i hi => ?_⟩
    obtain ⟨us, r1, r3⟩ := h2 i hi
    refine ⟨g, 0, us, ⟨rfl, .inr hb⟩, fun j hj => ?_, r.kept r3 fun g hg _ => ⟨rfl, .inl hg.1⟩⟩
    have hlt : i * r.k + j < ts.length * r.k := by
      have : (i + 1) * r.k ≤ ts.length * r.k := Nat.mul_le_mul_right _ hi
      rw [Nat.add_mul] at this; omega
    rw [Nat.zero_add, World.ownsRow.cellAt h1 (i * r.k + j) hlt]; exact r1 j hj
/-- The cells of what reads, one behind the other. -/
theorem RwV.flat {b o : Nat} (h : RwV r w P (some ⟨b, o, none⟩) c l) : ∃ news : List Value, news.length = l.length * r.k ∧ (∀ j u, news[j]? = some u → w.cell? ((⟨b, o, none⟩ : Addr).add j) = some u) ∧ (∀ u ∈ news, u.oneCell' = true) ∧ ∀ j, j < l.length → ∃ us, (∀ i, i < r.k → news[j * r.k + i]? = us[i]?) ∧ r.R w P us (l.getD j r.z) := by
  have key : ∀ i, i < l.length → ∃ us, (∀ j, j < r.k → w.cell? ⟨b, o + i * r.k + j, none⟩ = us[j]?) ∧ r.R w P us (l.getD i r.z) := fun i hi => by
    obtain ⟨b', o', us, ⟨q1, _⟩, q2, q3⟩ := h.2.2.2 i hi
    cases q1
    exact ⟨us, q2, q3⟩
  have hat : ∀ j, j < l.length * r.k → ∃ u, w.cell? ⟨b, o + j, none⟩ = some u ∧ u.oneCell' = true := fun j hj => by
    have hd : j / r.k < l.length := (Nat.div_lt_iff_lt_mul r.kpos).2 hj
    have hm : j % r.k < r.k := Nat.mod_lt _ r.kpos
    obtain ⟨us, q2, q3⟩ := key (j / r.k) hd
    obtain ⟨u, hu⟩ := get_some (r.len q3) hm
    have := q2 (j % r.k) hm
    rw [show o + j / r.k * r.k + j % r.k = o + j by have := Nat.div_add_mod j r.k; rw [Nat.mul_comm] at this; omega, hu] at this
    exact ⟨u, this, r.one q3 u (List.mem_of_getElem? hu)⟩
  have get : ∀ j, j < l.length * r.k → ((List.range (l.length * r.k)).map fun j => (w.cell? ⟨b, o + j, none⟩).getD (.bool false))[j]? = w.cell? ⟨b, o + j, none⟩ := fun j hj => by
    rw [List.getElem?_map, List.getElem?_range hj]
    obtain ⟨u, hu, _⟩ := hat j hj
    simp [hu]
  refine ⟨(List.range (l.length * r.k)).map fun j => (w.cell? ⟨b, o + j, none⟩).getD (.bool false), by simp, fun j u hj => ?_, fun u hu => ?_, fun j hj => ?_⟩
  · have hlt : j < l.length * r.k := by
      obtain ⟨q, _⟩ := List.getElem?_eq_some_iff.1 hj
      simpa using q
    rw [get j hlt] at hj
    rw [add2]; exact hj
  · obtain ⟨j, hj, rfl⟩ := List.mem_map.1 hu
    obtain ⟨u, hu, h1⟩ := hat j (List.mem_range.1 hj)
    rw [hu]; exact h1
  · obtain ⟨us, q2, q3⟩ := key j hj
    refine ⟨us, fun i hi => ?_, q3⟩
    have hlt : j * r.k + i < l.length * r.k := by
      have : (j + 1) * r.k ≤ l.length * r.k := Nat.mul_le_mul_right _ hj
      rw [Nat.add_mul] at this; omega
    rw [get _ hlt, ← q2 i hi, Nat.add_assoc]
/-- What is to be known of the types. -/
structure TyOk (r : Rdr α) (T t : TypeId) (bytes : Nat) : Prop where
  u : Try.prog.underlying T = some (.slice t)
  i : ∃ i z, Try.prog.info? t = some i ∧ i.zero = some z ∧ i.size = r.k ∧ i.bytes = bytes ∧ z.cells.size = r.k
/-- 'append(v, x...)'. -/
theorem run_appR {T : TypeId} {bytes : Nat} (hT : TyOk r T t bytes) (ty : TypeId) {ax : Option Addr} {cx : Nat} (hG : Gr r t w B S v ts) (hE : RwV r w P ax cx l) (hP : ∀ g, P g → g < w.heap.size → S g ∧ v.ownBlock ≠ some g) (hbase : B ≤ w.heap.size) (hlen : ts.length + l.length ≤ 1048576) (hby2 : bytes ≤ 4096) :
    ∃ v' w', (Builtin.append_ #[T, T] ty #[v, .slice ax l.length cx]).run Try.prog w = .ok v' w' ∧ Gr r t w' B S v' (ts ++ l) ∧ w.grownBy w' v.ownBlock ∧ (v'.ownBlock = v.ownBlock ∨ v'.ownBlock = some w.heap.size) := by
  obtain ⟨i, z, hi, hz, hsize, hby, hzs⟩ := hT.i
  have hbb : (ts.length + l.length) * bytes ≤ 140737488355328 := Nat.le_trans (Nat.mul_le_mul hlen hby2) (by decide)
  obtain ⟨xs, h1, h2⟩ := id hG
  have step : ∀ {v' : Value} {w' : World}, w.grownBy w' v.ownBlock → (v'.ownBlock = v.ownBlock ∨ v'.ownBlock = some w.heap.size) → ∀ {us : List Value} {x : α}, r.R w (fun g => S g ∧ v.ownBlock ≠ some g) us x → r.R w' (fun g => S g ∧ v'.ownBlock ≠ some g) us x := by
    intro v' w' q3 q5 us x h
    exact r.kept h fun g hg hlt => ⟨q3.block g hlt fun e => hg.2 e.symm, hg.1, by
      rcases q5 with e | e
      · rw [e]; exact hg.2
      · rw [e]; intro h; injection h with h; omega⟩
  cases ax with
  | none =>
    have hc := hE.2.2.1 rfl
    have h0 : l = [] := List.length_eq_zero_iff.1 (by have := hE.1; omega)
    subst hc h0
    refine ⟨v, w, run_append_owned_none (P := Try.prog) (w := w) B T ty t i r.k hT.u hi v ts.length xs h1, by rw [List.append_nil]; exact hG, ⟨rfl, rfl, rfl, Nat.le_refl _, fun _ _ _ => rfl⟩, .inl rfl⟩
  | some ad =>
    by_cases h0 : l = []
    · subst h0
      obtain ⟨v', w', hr, q2, q3, q4, q5⟩ := run_append_own_at (P := Try.prog) w B T ty t i z r.k bytes hT.u hi hz hsize hby hzs r.kpos v ts.length xs h1 ad 0 cx [] (by simp) (fun j u hj => by simp at hj) (fun u hu => by simp at hu) (by unfold maxLen; simp at hlen; omega) (by simpa using hbb) hbase
      refine ⟨v', w', hr, ⟨xs, by simpa using q2, fun j hj => ?_⟩, q3, q5⟩
      rw [List.append_nil] at hj ⊢
      obtain ⟨us, r1, r3⟩ := h2 j hj
      exact ⟨us, r1, step q3 q5 r3⟩
    · obtain ⟨b, o, us, ⟨e, _⟩, _⟩ := hE.2.2.2 0 (by cases l with | nil => exact absurd rfl h0 | cons _ _ => simp)
      cases e
      obtain ⟨news, n1, n2, n3, n4⟩ := hE.flat
      obtain ⟨v', w', hr, q2, q3, q4, q5⟩ := run_append_own_at (P := Try.prog) w B T ty t i z r.k bytes hT.u hi hz hsize hby hzs r.kpos v ts.length xs h1 ⟨b, o, none⟩ l.length cx news n1 n2 n3 (by unfold maxLen; omega) hbb hbase
      refine ⟨v', w', hr, ⟨xs ++ news, by rw [List.length_append]; exact q2, fun j hj => ?_⟩, q3, q5⟩
      have hx := h1.1
      rw [List.length_append] at hj
      by_cases hlt : j < ts.length
      · obtain ⟨us, r1, r3⟩ := h2 j hlt
        have hle : (j + 1) * r.k ≤ ts.length * r.k := Nat.mul_le_mul_right _ hlt
        rw [Nat.add_mul] at hle
        exact ⟨us, fun i hi => by rw [List.getElem?_append_left (by omega)]; exact r1 i hi, by rw [getD_leftA hlt]; exact step q3 q5 r3⟩
      · obtain ⟨k, rfl⟩ : ∃ k, j = ts.length + k := ⟨j - ts.length, by omega⟩
        obtain ⟨us, r1, r3⟩ := n4 k (by omega)
        refine ⟨us, fun i hi => ?_, ?_⟩
        · rw [List.getElem?_append_right (by rw [hx, Nat.add_mul]; omega), show (ts.length + k) * r.k + i - xs.length = k * r.k + i by rw [hx, Nat.add_mul]; omega]; exact r1 i hi
        · rw [getD_rightA]; exact step q3 q5 (r.kept r3 fun g hg hlt => ⟨rfl, hP g hg hlt⟩)
theorem list_appR {T : TypeId} {bytes : Nat} (hT : TyOk r T t bytes) (hby2 : bytes ≤ 4096) {ops : Array Oper} {rest : List Oper} {o : Oper} {a : Act} {Q : Exit → Act → World → Prop} {wX : World} (hgd : o.guard = none) (s x : Operand)
    (ho : o.op = .call { callee := .builtin .append, args := #[s, x], argTypes := #[T, T] }) {ax : Option Addr} {nx cx : Nat}
    (hG : Gr r t wX B S v ts) (hE : RwV r wX P ax cx l) (hn : nx = l.length) (hP : ∀ g, P g → g < wX.heap.size → S g ∧ v.ownBlock ≠ some g) (hbase : B ≤ wX.heap.size) (hs : a.eval s = v) (hx : a.eval x = .slice ax nx cx) (hlen : ts.length + l.length ≤ 1048576)
    (h : ∀ v' w', Gr r t w' B S v' (ts ++ l) → wX.grownBy w' v.ownBlock → (v'.ownBlock = v.ownBlock ∨ v'.ownBlock = some wX.heap.size) → wpList Try.prog ops Q rest (a.put o.dst v') w') : wpList Try.prog ops Q (o :: rest) a wX := by
  subst hn
  obtain ⟨v', w', hr, q1, q2, q3⟩ := run_appR hT o.type hG hE hP hbase hlen hby2
  refine wpList_plain hgd fun K hK => ?_
  unfold Oper.wp execOp
  simp only [ho, resolve, invoke, builtin, Sem.run_bind, Sem.run_pure, Result.andThen_ok, List.map_toArray, List.map_cons, List.map_nil, hs, hx, hr]
  exact hK _ _ (h v' w' q1 q2 q3)
theorem step_appR {T : TypeId} {bytes : Nat} (hT : TyOk r T t bytes) (hby2 : bytes ≤ 4096) {ops : Array Oper} {o : Oper} {a : Act} {K : Act → World → Prop} {Q : Exit → Act → World → Prop} {E : Prop} {wX : World} (hgd : o.guard = none) (s x : Operand)
    (ho : o.op = .call { callee := .builtin .append, args := #[s, x], argTypes := #[T, T] }) {ax : Option Addr} {nx cx : Nat}
    (hG : Gr r t wX B S v ts) (hE : RwV r wX P ax cx l) (hn : nx = l.length) (hP : ∀ g, P g → g < wX.heap.size → S g ∧ v.ownBlock ≠ some g) (hbase : B ≤ wX.heap.size) (hs : a.eval s = v) (hx : a.eval x = .slice ax nx cx) (hlen : ts.length + l.length ≤ 1048576)
    (h : ∀ v' w', Gr r t w' B S v' (ts ++ l) → wX.grownBy w' v.ownBlock → (v'.ownBlock = v.ownBlock ∨ v'.ownBlock = some wX.heap.size) → K (a.put o.dst v') w') : if Region.wanted o (yielded ops a.tmps) = true then Oper.wp Try.prog o a wX K Q else E := by
  subst hn
  obtain ⟨v', w', hr, q1, q2, q3⟩ := run_appR hT o.type hG hE hP hbase hlen hby2
  rw [if_pos (show Region.wanted o (yielded ops a.tmps) = true by simp [Region.wanted, hgd])]
  unfold Oper.wp execOp
  simp only [ho, resolve, invoke, builtin, Sem.run_bind, Sem.run_pure, Result.andThen_ok, List.map_toArray, List.map_cons, List.map_nil, hs, hx, hr]
  exact h v' w' q1 q2 q3
/-- A new row of one element. -/
theorem RwV.one {us : List Value} {x : α} {g : Nat} (hg : g = w.heap.size) (hp : P g) (h : r.R w P us x) : RwV r (w.alloc (.cells us.toArray t)) P (some ⟨g, 0, none⟩) 1 [x] := by
  subst hg
  refine ⟨by simp, by decide, fun e => (by cases e), fun i hi => ?_⟩
  obtain rfl : i = 0 := by simp at hi; omega
  have k := heap_alloc_new w (.cells us.toArray t)
  refine ⟨w.heap.size, 0, us, ⟨rfl, hp⟩, fun j hj => ?_, r.kept h fun g hg hlt => ⟨Below.heap_alloc _ _ _ hlt, hg⟩⟩
  rw [cell_of_row _ _ _ _ t (0, 0) k]
  simp
end
end Go.Proofs.Ytcaddedkodjgcaa
