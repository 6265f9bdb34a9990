/-
  textOf, ParseInt at digits: contracts.
-/
import Derived.Test.YtdnpbnhfakjhoaaSmall
namespace Go.Proofs.Ytdnpbnhfakjhoaa
open Go.RowKit
set_option linter.unusedVariables false


theorem cut_list (s : ByteArray) (a b : Nat) : (s.extract a b).data.toList = (s.data.toList.take b).drop a := by
  rw [ByteArray.data_extract, Array.toList_extract, List.extract_eq_drop_take']
theorem take_ba (s : ByteArray) (n : Nat) : s.extract 0 n = ba (s.data.toList.take n) := by
  rw [← ba_of (s.extract 0 n), cut_list]; rfl
theorem word_take_k (k : Nat) (c : UInt8) (r : Bs) : (c :: r).take ((r.takeWhile (goes k)).length + 1) = c :: r.takeWhile (goes k) := by
  rw [List.take_succ_cons]
  congr 1
  exact (List.prefix_iff_eq_take.1 (List.takeWhile_prefix _)).symm
theorem at_list {s : ByteArray} {k : Nat} (h : k < s.size) (h2 : k < s.data.toList.length) : s[k]'h = s.data.toList[k]'h2 := by
  simp [ByteArray.getElem_eq_getElem_data]
/-- The library's own variable holds an error. -/
def Held (w : World) : Prop := ∃ tp p, w.cell? ⟨1, 0, none⟩ = some (.iface tp p)
theorem Held.below {w w' : World} {B : Nat} (h : Held w) (hB : w.heap.size ≤ B) (hb : Below B w w') : Held w' := by
  obtain ⟨tp, p, h⟩ := h
  exact ⟨tp, p, (hb.cell (p := ⟨1, 0, none⟩) (by have := World.block_lt_of_cell? w _ h; omega)).trans h⟩
end Go.Proofs.Ytdnpbnhfakjhoaa
