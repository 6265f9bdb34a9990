/-
  What a slice of bytes that came in reads as; that it reads so behind whatever writes nothing that was there.
-/
import Derived.Test.YtkopmmpmjjbghaaCrcWalks
import Derived.ChangeOld
namespace Go.Proofs.Ytkopmmpmjjbghaa
open Go.RowKit Crc

/-- WHAT THE WALK IS TOLD OF A SLICE OF INTEGERS THAT CAME IN: it is nil; or it leads to a row of 'cap' cells, the numbers 'zs' (the first 'len' are its elements, the rest its spare room), each fitting its kind. -/
def IsRow (k : IntKind) (w : World) (a : Option Addr) (len cap : Nat) (zs : List Int) : Prop :=
  (a = none ∧ len = 0 ∧ cap = 0 ∧ zs = []) ∨
  ∃ x, a = some x ∧ len ≤ cap ∧ cap ≤ maxLen ∧ zs.length = cap ∧ (∀ i, i < zs.length → w.cell? (x.add i) = some (.int k (zs.getD i 0))) ∧ ∀ n ∈ zs, (Lit.int k n).wf = true

theorem reads_of {w : World} {a : Option Addr} {len cap : Nat} {zs : List Int} (h : IsRow .u8 w a len cap zs) : ∃ l : List (BitVec 8), len = l.length ∧ Reads w a l := by
  rcases h with ⟨rfl, rfl, rfl, rfl⟩ | ⟨x, rfl, hl, hm, hz, hcell, hwz⟩
  · exact ⟨[], rfl, by decide, .inl rfl⟩
  · obtain ⟨m, rfl⟩ := bytes_B hwz
    rw [List.length_map] at hz
    refine ⟨m.take len, by simp; omega, by simp; omega, ?_⟩
    by_cases h0 : m.take len = []
    · exact .inl h0
    · right
      have hp : 0 < len := by
        rcases Nat.eq_zero_or_pos len with h | h
        · subst h; simp at h0
        · exact h
      obtain ⟨b, off, spot⟩ := x
      have hc := hcell 0 (by simp; omega)
      have hspot : spot = none := by simpa [Addr.add] using World.cell?_spot hc
      subst hspot
      refine ⟨b, off, rfl, fun i hi => ?_⟩
      have hi' : i < len := by simp at hi; omega
      have hi2 : i < m.length := by omega
      have := hcell i (by simp; omega)
      have hadd : (⟨b, off, none⟩ : Addr).add i = ⟨b, off + i, none⟩ := by unfold Addr.add; split <;> simp_all
      rw [hadd] at this
      rw [this]
      simp [nth, hi', hi2]

theorem Reads.below {w w' : World} {a : Option Addr} {l : List (BitVec 8)} (h : Reads w a l) (hb : Below w.heap.size w w') : Reads w' a l := by
  obtain ⟨hm, h⟩ := h
  refine ⟨hm, ?_⟩
  rcases h with h | ⟨b, off, ha, hc⟩
  · exact .inl h
  · refine .inr ⟨b, off, ha, fun i hi => ?_⟩
    have h1 := hc i hi
    have hlt : b < w.heap.size := World.block_lt_of_cell? w _ h1
    exact (hb.cell (p := ⟨b, off + i, none⟩) hlt).trans h1

theorem Reads.alloc {w : World} {a : Option Addr} {l : List (BitVec 8)} (h : Reads w a l) (o : Obj) : Reads (w.alloc o) a l := h.below ((Below.refl _ _).alloc (Nat.le_refl _) _)

end Go.Proofs.Ytkopmmpmjjbghaa
