/-
  Any bytes are scanned; reading rows that were kept.
-/
import Derived.Test.YtccccclnfimcoaaTake
import Derived.Test.YtccccclnfimcoaaOne
namespace Go.Proofs.Ytccccclnfimcoaa
open Go.RowKit Crc
set_option linter.unusedVariables false

theorem scans_ex : ∀ (n : Nat) (l : Row), l.length ≤ n → ∃ rs m, Scans l rs m := by
  intro n
  induction n with
  | zero =>
    intro l hl
    have : l = [] := List.length_eq_zero_iff.1 (by omega)
    subst this
    exact ⟨[], 0, by simp, ⟨[], by simp [recds], noFirst_nil⟩, rfl⟩
  | succ n ih =>
    intro l hl
    by_cases hex : ∃ r, First l r
    · obtain ⟨r, hr, t, e⟩ := hex
      have hlt : t.length ≤ n := by
        have := congrArg List.length e
        rw [List.length_append, recd_len] at this
        omega
      obtain ⟨rs, m, hs⟩ := ih t hlt
      obtain ⟨t', e', hn⟩ := hs.rest
      refine ⟨r :: rs, (recds (r :: rs)).length, fun x hx => ?_, ⟨t', ?_, hn⟩, rfl⟩
      · rcases List.mem_cons.1 hx with rfl | hx
        · exact hr
        · exact hs.short x hx
      · rw [recds, List.append_assoc, ← e', e]
    · exact ⟨[], 0, by simp, ⟨l, by simp [recds], fun r hr => hex ⟨r, hr⟩⟩, rfl⟩
theorem scans_le {l : Row} {rs : List Row} {n : Nat} (h : Scans l rs n) : n ≤ l.length ∧ 8 * rs.length ≤ n := by
  obtain ⟨t, e, _⟩ := h.rest
  refine ⟨by rw [h.len, e, List.length_append]; omega, by rw [h.len]; exact recds_many rs⟩

theorem works_on (w : World) : ∀ w', Below w.heap.size w w' → Calls Try.prog 9 #[] w' fun e w2 => e = .returned (.bool true) ∧ Below w.heap.size w w2 := fun w' hB => (works_any w').mono fun e w2 ⟨he, h⟩ => ⟨he, hB.trans (h.mono hB.size)⟩

end Go.Proofs.Ytccccclnfimcoaa
