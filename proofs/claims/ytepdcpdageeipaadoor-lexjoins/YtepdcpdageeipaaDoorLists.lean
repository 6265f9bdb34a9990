/-
  Lists of words, and texts that are the same: what the laws share.
-/
import Derived.Test.YtepdcpdageeipaaDoorWorks
namespace Go.Proofs.YtepdcpdageeipaaDoor
open Go.RowKit Go.Maps
set_option linter.unusedVariables false

theorem lex_few (s : ByteArray) : (lexOut s).ws.length ≤ 4096 := by
  unfold lexOut
  by_cases h2 : s.size ≤ 4096
  · rw [if_pos h2]
    have := sp_len s.data.toList 0
    rw [size_list] at this; omega
  · rw [if_neg h2]; exact Nat.zero_le _
theorem lex_pos {s : ByteArray} (h : (lexOut s).err = 0) : (lexOut s).pos = 0 := by
  unfold lexOut at *
  by_cases h2 : s.size ≤ 4096
  · rw [if_pos h2] at *; exact sp_pos h
  · rw [if_neg h2]
theorem WordsV.empty {w : World} {v : Value} (h : WordsV w v []) : ∃ a cap, v = .slice a 0 cap := by
  obtain ⟨a, cap, h1, _⟩ := h
  exact ⟨a, cap, h1⟩
theorem name_ne {s t : ByteArray} (h : s ≠ t) : (s.toList == t.toList) = false := by
  apply beq_eq_false_iff_ne.2
  intro e
  apply h
  rw [Lib.toList_data, Lib.toList_data] at e
  rw [← ba_of s, ← ba_of t, e]
theorem name_beq (s t : ByteArray) : (s.toList == t.toList) = decide (s = t) := by
  by_cases e : s = t
  · subst e; simp
  · rw [name_ne e, decide_eq_false e]

end Go.Proofs.YtepdcpdageeipaaDoor
