/-
  A tree's text behind bytes: contracts.
-/
import Derived.Test.YtdnpbnhfakjhoaaNums
namespace Go.Proofs.Ytdnpbnhfakjhoaa
open Go.RowKit
set_option linter.unusedVariables false


abbrev Tab (w : World) (B : Nat) : Prop := Lib.TabBelow Try.prog B w "internal/strconv.uint64pow10" .u64 Lib.pow10Tab
/-- What put wants: the tree lies below B, the bytes are the call's own, the table lies there. -/
structure Pre (w : World) (B : Nat) (vb v : Value) (l : Bs) (t : Tr) : Prop where
  tre : Tre w (fun g => g < B) v t
  own : Ob w B vb l
  low : B ≤ w.heap.size
  tab : Tab w B
theorem Pre.alloc {w : World} {B : Nat} {vb v : Value} {l : Bs} {t : Tr} (h : Pre w B vb v l t) (o : Obj) : Pre (w.alloc o) B vb v l t :=
  ⟨h.tre.alloc o, h.own.alloc o, Nat.le_trans h.low (le_alloc _ _), h.tab.on ((Below.refl _ _).alloc h.low o)⟩
theorem Pre.drew {w : World} {B : Nat} {vb v : Value} {l : Bs} {t : Tr} (h : Pre w B vb v l t) : Pre w.drew B vb v l t :=
  ⟨h.tre.kept fun g hg _ => ⟨rfl, hg⟩, h.own, h.low, h.tab.on (Below.drew (Below.refl _ _))⟩
/-- One byte that lies somewhere. -/
def Byte1 (w : World) (g : Nat) (x : UInt8) : Prop := w.cell? ⟨g, 0, none⟩ = some (.int .u8 x.toNat)
theorem Byte1.new (w : World) (x : UInt8) : Byte1 (w.alloc (.cells #[.int .u8 x.toNat] 5)) w.heap.size x := by
  unfold Byte1
  rw [cell_of_row _ _ _ _ 5 (0, 0) (heap_alloc_new w _)]; rfl
theorem Byte1.alloc {w : World} {g : Nat} {x : UInt8} (h : Byte1 w g x) (o : Obj) : Byte1 (w.alloc o) g x := ((Fr.refl (g + 1) w).alloc o).cell (by omega) h
theorem Byte1.drew {w : World} {g : Nat} {x : UInt8} (h : Byte1 w g x) : Byte1 w.drew g x := h
theorem Byte1.lt {w : World} {g : Nat} {x : UInt8} (h : Byte1 w g x) : g < w.heap.size := World.block_lt_of_cell? w _ h
/-- A block that is not v's own stays none of what came of v, if it was there. -/
theorem Gro.ne {v v' : Value} {w w' : World} (h : Gro v w w' v') {g : Nat} (hg : g < w.heap.size) (hn : some g ≠ v.ownBlock) : some g ≠ v'.ownBlock := by
  rcases h.own with e | e
  · rw [e]; exact hn
  · intro e2; have := e g e2.symm; omega
theorem Ob.ne {w : World} {B : Nat} {v : Value} {l : Bs} (h : Ob w B v l) {g : Nat} (hg : w.heap.size ≤ g) : some g ≠ v.ownBlock := fun e => by have := h.lt _ e.symm; omega
end Go.Proofs.Ytdnpbnhfakjhoaa
