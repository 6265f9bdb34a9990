/-
  Texts as lists of bytes, blocks that are made: plain laws.
-/
import Derived.Test.YtjafjheffbbkmaaMath
import Derived.Laws.BitsAllLaws
import Derived.OpenShut
import Derived.WalkKit
import Derived.ProofKit
import Derived.WalkLawsBesides
import Derived.Outline
import Derived.ChangeOld
import Derived.OwnWalk
import Derived.Deep.RegionLaw
namespace Go.Proofs.Ytjafjheffbbkmaa
open Go.RowKit
set_option linter.unusedVariables false



def ba (l : Bs) : ByteArray := ⟨⟨l⟩⟩
theorem ba_of (s : ByteArray) : ba s.data.toList = s := by
  unfold ba; cases s; rfl
theorem le_alloc (w : World) (o : Obj) : w.heap.size ≤ (w.alloc o).heap.size := by
  show w.heap.size ≤ (w.heap.push _).size
  rw [Array.size_push]; omega
theorem cell_of_row (w : World) (b off : Nat) (cs : Array Value) (t : TypeId) (f : Nat × Nat) (h : w.heap[b]? = some (.cells cs t f)) : w.cell? ⟨b, off, none⟩ = cs[off]? := by
  simp [World.cell?, h]
theorem heap_alloc_new (w : World) (o : Obj) : (w.alloc o).heap[w.heap.size]? = some o := by
  show (w.heap.push o)[w.heap.size]? = _
  simp
theorem size_alloc (w : World) (o : Obj) : (w.alloc o).heap.size = w.heap.size + 1 := by
  show (w.heap.push o).size = _
  rw [Array.size_push]
/-- What lies at a word's four cells. -/
structure WAt (w : World) (b off : Nat) (x : W) : Prop where
  c0 : w.cell? ⟨b, off, none⟩ = some (.int .i64 x.kind)
  c1 : w.cell? ⟨b, off + 1, none⟩ = some (.string (ba x.text))
  c2 : w.cell? ⟨b, off + 2, none⟩ = some (.int .i64 x.n)
  c3 : w.cell? ⟨b, off + 3, none⟩ = some (.int .i64 x.pos)
theorem WAt.below {w w' : World} {b off : Nat} {x : W} (h : WAt w b off x) (hb : Below w.heap.size w w') : WAt w' b off x := by
  have hlt : b < w.heap.size := World.block_lt_of_cell? w _ h.c0
  exact ⟨(hb.cell (p := ⟨b, off, none⟩) hlt).trans h.c0, (hb.cell (p := ⟨b, off + 1, none⟩) hlt).trans h.c1, (hb.cell (p := ⟨b, off + 2, none⟩) hlt).trans h.c2, (hb.cell (p := ⟨b, off + 3, none⟩) hlt).trans h.c3⟩
end Go.Proofs.Ytjafjheffbbkmaa
