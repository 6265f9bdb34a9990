/-
  Contracts, in the forms that the laws meet them in.
-/
import Derived.Test.YtcgpgmboeffmcaaWorks
namespace Go.Proofs.Ytcgpgmboeffmcaa
open Go.RowKit Pack

theorem uint_nil (n : Nat) (w : World) (hn : n < 18446744073709551616) : Calls Try.prog 12 #[.slice none 0 0, .int .u64 n] w fun e w' => ∃ g cap, e = .returned (.slice (some ⟨g, 0, none⟩) (urow n).length cap) ∧ (urow n).length ≤ cap ∧ cap ≤ 9223372036854775807 ∧ ReadsV w' (.slice (some ⟨g, 0, none⟩) (urow n).length cap) (urow n) ∧ Below w.heap.size w w' := by
  refine (uint_any w.heap.size _ [] n _ (Owns.nil _ _) (Nat.le_refl _) (by decide) hn).mono ?_
  rintro e w' ⟨v', rfl, ho, hB⟩
  rw [List.nil_append] at ho
  obtain ⟨g, cap, rfl, h1, h2, _⟩ := shape ho (urow_pos n)
  rw [maxLen_eq] at h2
  exact ⟨g, cap, rfl, h1, h2, ReadsV.of_own ho, hB⟩

theorem cut_of {w : World} {g off n cap k : Nat} {l : List (BitVec 8)} (h : ReadsV w (.slice (some ⟨g, off, none⟩) n cap) l) (hk : k ≤ n) : ReadsV w (.slice (some ⟨g, off, none⟩) k cap) (l.take k) := by
  obtain ⟨a', c', hv, hn, h1, h2, hr⟩ := h
  simp only [Value.slice.injEq] at hv
  obtain ⟨rfl, rfl, rfl⟩ := hv
  have := ReadsV.cut hr (k := 0) (h := k) (m := cap) (fun h => by cases h) (by omega) (by omega) (by omega) h2
  by_cases h0 : cap = 0
  · rw [if_pos h0] at this; simpa using this
  · rw [if_neg h0] at this; simpa [add_plain] using this

end Go.Proofs.Ytcgpgmboeffmcaa
