/-
  Cuts of what was written.
-/
import Derived.Test.YtccccclnfimcoaaMore
namespace Go.Proofs.Ytccccclnfimcoaa
open Go.RowKit Crc
set_option linter.unusedVariables false

theorem own_cap {w : World} {base L d : Nat} {a : Option Addr} {l : Row} (h : Owns w base (.slice a L d) l) : L ≤ d := by
  obtain ⟨_, _, hv, _, h2, _, _⟩ := ReadsV.of_own h
  simp only [Value.slice.injEq] at hv
  obtain ⟨-, h3, rfl⟩ := hv
  omega
theorem scans_cut {l rs : List Row} {k n : Nat} (h : Scans ((recds l).take k) rs n) : n ≤ k ∧ (recds l).take n = recds rs := by
  obtain ⟨t, e, _⟩ := h.rest
  have hn := (scans_le h).1
  rw [List.length_take] at hn
  refine ⟨by omega, ?_⟩
  have e2 : (recds l).take n = ((recds l).take k).take n := by rw [List.take_take, Nat.min_eq_left (by omega)]
  rw [e2, e, h.len, List.take_left]

theorem front_is {w : World} {a : Option Addr} {n c m : Nat} {rs xs : List Row} (h : RowsV w (.slice a n c) rs) (hm : m ≤ n) (e : rs.take m = xs) : RowsV w (.slice a m c) xs := by
  rw [← e]; exact h.front hm
theorem rfront_is {w : World} {a : Option Addr} {n c m : Nat} {l x : Row} (h : ReadsV w (.slice a n c) l) (hm : m ≤ n) (e : l.take m = x) : ReadsV w (.slice a m c) x := by
  rw [← e]; exact h.front hm

theorem drew_chain {w w2 w3 : World} {v u : Value} {rs : List Row} {l : Row} (h1 : RowsV w2 v rs) (h2 : ReadsV w2 u l) (h3 : Below w.heap.size w w2) (hB : Below w2.drew.heap.size w2.drew w3) : RowsV w3 v rs ∧ ReadsV w3 u l ∧ Below w.heap.size w w3 := by
  have h : Below w2.heap.size w2 w3 := (Below.refl _ _).drew.trans hB
  exact ⟨h1.below h, h2.below h, h3.trans (h.mono h3.size)⟩

end Go.Proofs.Ytccccclnfimcoaa
