/-
  What a text's words are.
-/
import Derived.Test.YtdnpbnhfakjhoaaMem
namespace Go.Proofs.Ytdnpbnhfakjhoaa
set_option linter.unusedVariables false


/-- A number, a name, or a sign. -/
def Wd (x : W) : Prop := (x.kind = 1 ∧ x.text = [] ∧ x.n < 9223372036854775808) ∨ (x.kind = 2 ∧ nameOk x.text = true ∧ x.n = 0) ∨ (x.kind = 3 ∧ ∃ c, x.text = [c] ∧ sign c = true ∧ x.n = 0)
theorem Wd.ok {x : W} (h : Wd x) (hp : x.pos ≤ 4096) : Wok x := by
  rcases h with ⟨h1, h2, h3⟩ | ⟨h1, h2, h3⟩ | ⟨h1, c, h2, h3, h4⟩
  · exact ⟨fun h => by omega, h3, by rw [h2]; simp, by omega, hp⟩
  · refine ⟨fun h => by omega, by omega, ?_, by omega, hp⟩
    cases ht : x.text with
    | nil => simp
    | cons c r =>
      rw [ht] at h2
      have : (letter c && (c :: r).all (fun x => digit x || letter x) && decide ((c :: r).length ≤ 32)) = true := h2
      simp only [Bool.and_eq_true, decide_eq_true_eq] at this
      omega
  · exact ⟨fun _ => ⟨c, h2⟩, by omega, by rw [h2]; simp, by omega, hp⟩
end Go.Proofs.Ytdnpbnhfakjhoaa
