/-
  Parse: the closure that recovers, and the face: contracts.
-/
import Derived.Test.YtdnpbnhfakjhoaaSide
import Derived.Test.YtdnpbnhfakjhoaaCheck
import Derived.Test.YtdnpbnhfakjhoaaSplit
import Derived.Test.YtdnpbnhfakjhoaaWordy
import Derived.Defers
import Derived.Recover
namespace Go.Proofs.Ytdnpbnhfakjhoaa
open Go.RowKit
set_option linter.unusedVariables false


/-- The cells of what is told: the tree's four and the fault's two. -/
structure Two (w : World) (b : Nat) : Prop where
  x : Zero4 w b
  f0 : w.cell? ⟨b + 1, 0, none⟩ = some (.int .i64 0)
  f1 : w.cell? ⟨b + 1, 1, none⟩ = some (.int .i64 0)
  ff : ∀ i, w.frozen? ⟨b + 1, i, none⟩ = false
theorem two_new (w : World) : Two ((w.alloc zeroObj).alloc (.cells #[.int .i64 0, .int .i64 0] 41)) w.heap.size := by
  have k := heap_alloc_new (w.alloc zeroObj) (.cells #[.int .i64 0, .int .i64 0] 41)
  rw [size_alloc] at k
  refine ⟨(Cell4.new w _ _ _ _ 24).alloc _, ?_, ?_, fun i => by simp only [World.frozen?]; rw [k]; simp⟩ <;> (rw [cell_of_row _ _ _ _ 41 (0, 0) k]; rfl)
theorem Two.fr {w w' : World} {b rb : Nat} (h : Two w b) (hf : Fr rb w w') (hb : b + 1 < rb) : Two w' b := by
  have hl : b + 1 < w.heap.size := World.block_lt_of_cell? w _ h.f0
  exact ⟨h.x.fr hf (by omega), hf.cell (by omega) h.f0, hf.cell (by omega) h.f1, fun i => (hf.frozen (by omega) hl).trans (h.ff i)⟩
theorem Two.below {w w' : World} {b : Nat} (h : Two w b) (hf : Below w.heap.size w w') : Two w' b := h.fr (rb := b + 2) (.of_below hf) (by omega)
theorem Two.alloc {w : World} {b : Nat} (h : Two w b) (o : Obj) : Two (w.alloc o) b := h.below ((Below.refl _ _).alloc (Nat.le_refl _) o)
theorem Two.lt {w : World} {b : Nat} (h : Two w b) : b + 1 < w.heap.size := World.block_lt_of_cell? w _ h.f0
/-- What Parse leaves. -/
def PPost (w : World) (q : Pd) (e : Ending) (w' : World) : Prop :=
  (∃ (k n : Int) (s : ByteArray) (a : Option Addr) (l c : Nat), e = .returned (.tuple #[.agg #[.int .i64 k, .int .i64 n, .string s, .slice a l c], .agg #[.int .i64 q.err, .int .i64 q.pos]]) ∧ Tre w' (fun g => w.heap.size ≤ g) (.agg #[.int .i64 k, .int .i64 n, .string s, .slice a l c]) q.t) ∧ Below w.heap.size w w'
/-- The six cells of what is told are set. -/
def six (w : World) (b : Nat) (v0 v1 v2 v3 v4 v5 : Value) : World :=
  (((((w.setCell ⟨b, 0, none⟩ v0).setCell ⟨b, 1, none⟩ v1).setCell ⟨b, 2, none⟩ v2).setCell ⟨b, 3, none⟩ v3).setCell ⟨b + 1, 0, none⟩ v4).setCell ⟨b + 1, 1, none⟩ v5
theorem six_below {w w1 : World} (h : Below w.heap.size w w1) (v0 v1 v2 v3 v4 v5 : Value) : Below w.heap.size w (six w1 w.heap.size v0 v1 v2 v3 v4 v5) := by
  have h1 := h.setCell (p := ⟨w.heap.size, 0, none⟩) (Nat.le_refl _) v0
  have h2 := h1.setCell (p := ⟨w.heap.size, 1, none⟩) (Nat.le_refl _) v1
  have h3 := h2.setCell (p := ⟨w.heap.size, 2, none⟩) (Nat.le_refl _) v2
  have h4 := h3.setCell (p := ⟨w.heap.size, 3, none⟩) (Nat.le_refl _) v3
  have h5 := h4.setCell (p := ⟨w.heap.size + 1, 0, none⟩) (Nat.le_succ _) v4
  exact h5.setCell (p := ⟨w.heap.size + 1, 1, none⟩) (Nat.le_succ _) v5
theorem six_tre {w w1 : World} {v : Value} {t : Tr} (h : Tre w1 (fun g => w.heap.size + 1 < g) v t) (v0 v1 v2 v3 v4 v5 : Value) : Tre (six w1 w.heap.size v0 v1 v2 v3 v4 v5) (fun g => w.heap.size ≤ g) v t := by
  have ne0 : ∀ i, ¬ (fun g => w.heap.size + 1 < g) (⟨w.heap.size, i, none⟩ : Addr).block := fun i h => by simp at h; omega
  have ne1 : ∀ i, ¬ (fun g => w.heap.size + 1 < g) (⟨w.heap.size + 1, i, none⟩ : Addr).block := fun i h => by simp at h
  exact ((((((h.set (ne0 0) v0).set (ne0 1) v1).set (ne0 2) v2).set (ne0 3) v3).set (ne1 0) v4).set (ne1 1) v5).sub fun g hg => by omega
theorem Tre.drew {w : World} {P : Nat → Prop} {v : Value} {t : Tr} (h : Tre w P v t) : Tre w.drew P v t := h.kept fun g hg _ => ⟨rfl, hg⟩
end Go.Proofs.Ytdnpbnhfakjhoaa
