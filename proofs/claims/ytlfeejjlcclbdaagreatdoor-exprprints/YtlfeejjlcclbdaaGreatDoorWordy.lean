/-
  What a text's words are.
-/
import Derived.Test.YtlfeejjlcclbdaaGreatDoorMem
namespace Go.Proofs.YtlfeejjlcclbdaaGreatDoor
set_option linter.unusedVariables false


/-- A number, a name, or a sign. -/
def Wd (x : W) : Prop := (x.kind = 1 ∧ x.text = [] ∧ x.n < 9223372036854775808) ∨ (x.kind = 2 ∧ nameOk x.text = true ∧ x.n = 0) ∨ (x.kind = 3 ∧ ∃ c, x.text = [c] ∧ sign c = true ∧ x.n = 0)
theorem kind_letter {c : UInt8} (h : kind c = 2) : letter c = true := by
  unfold kind at h
  split at h
  · exact absurd h (by decide)
  · split at h
    · assumption
    · split at h <;> exact absurd h (by decide)
theorem kind_sign {c : UInt8} (h : kind c = 3) : sign c = true := by
  unfold kind at h
  split at h
  · exact absurd h (by decide)
  · split at h
    · exact absurd h (by decide)
    · split at h
      · assumption
      · exact absurd h (by decide)
theorem takeWhile_all (p : UInt8 → Bool) : ∀ l : Bs, (l.takeWhile p).all p = true
  | [] => rfl
  | c :: r => by
    rw [List.takeWhile_cons]
    split
    · rw [List.all_cons, takeWhile_all p r]; simp [*]
    · rfl
theorem goes_three (c : UInt8) : goes 3 c = false := rfl
theorem one_wd {c : UInt8} {r : Bs} (p : Nat) (he : (one (c :: r)).err = 0) : Wd ⟨(one (c :: r)).kind, (one (c :: r)).text, (one (c :: r)).n, p⟩ := by
  rw [one_cons, oneC] at he ⊢
  by_cases h1 : kind c = 1
  · rw [if_pos h1] at he ⊢
    by_cases h2 : 2 ^ 63 ≤ val 0 (word c r)
    · rw [if_pos h2] at he; exact absurd he (by decide)
    · rw [if_neg h2] at he ⊢
      cases h3 : headLetter (r.dropWhile (goes (kind c))) with
      | true => rw [h3, if_pos rfl] at he; exact absurd he (by show ¬ (3 : Nat) = 0; decide)
      | false => rw [if_neg (by simp)]; exact .inl ⟨rfl, rfl, by show val 0 (word c r) < _; omega⟩
  · rw [if_neg h1] at he ⊢
    by_cases h2 : kind c = 2
    · rw [if_pos h2] at he ⊢
      by_cases h3 : 32 < (word c r).length
      · rw [if_pos h3] at he; exact absurd he (by decide)
      · rw [if_neg h3]
        refine .inr (.inl ⟨rfl, ?_, rfl⟩)
        have hw : word c r = c :: r.takeWhile (goes 2) := by rw [← h2]; rfl
        show nameOk (word c r) = true
        rw [hw] at h3 ⊢
        show (letter c && (c :: r.takeWhile (goes 2)).all (fun x => digit x || letter x) && decide ((c :: r.takeWhile (goes 2)).length ≤ 32)) = true
        have ha : (r.takeWhile (goes 2)).all (fun x => digit x || letter x) = true := takeWhile_all (goes 2) r
        rw [List.all_cons, ha, kind_letter h2]
        simp only [Bool.or_true, Bool.and_self, Bool.true_and, decide_eq_true_eq]
        omega
    · rw [if_neg h2] at he ⊢
      by_cases h3 : kind c = 3
      · rw [if_pos h3]
        have hw : word c r = [c] := by
          show c :: r.takeWhile (goes (kind c)) = [c]
          rw [h3]
          cases r with
          | nil => rfl
          | cons x r => rw [List.takeWhile_cons, goes_three]; rfl
        exact .inr (.inr ⟨rfl, c, hw, kind_sign h3, rfl⟩)
      · rw [if_neg h3] at he; exact absurd he (by decide)
theorem join_ws_mem {a : List W} {o : Out} {x : W} (h : x ∈ (join a o).ws) : x ∈ a ∨ x ∈ o.ws := by
  unfold join at h
  split at h
  · exact List.mem_append.1 h
  · exact absurd h (by simp)
theorem sp_wd : ∀ (l : Bs) (p : Nat), ∀ x ∈ (sp l p).ws, Wd x ∧ p ≤ x.pos ∧ x.pos < p + l.length := by
  refine by_len ?_ ?_ ?_ ?_
  · intro p x hx; exact absurd hx (by rw [sp_nil]; simp)
  · intro c r p hb ih x hx
    rw [sp_blank r p hb] at hx
    obtain ⟨h1, h2, h3⟩ := ih x hx
    exact ⟨h1, by omega, by simp; omega⟩
  · intro c r p hb he x hx
    rw [sp_fault p hb he] at hx
    exact absurd hx (by simp)
  · intro c r p hb he ih x hx
    rw [sp_word p hb he] at hx
    have hl := one_len_pos he
    rcases join_ws_mem hx with h | h
    · rw [List.mem_singleton] at h
      subst h
      exact ⟨one_wd p he, Nat.le_refl _, by simp⟩
    · obtain ⟨h1, h2, h3⟩ := ih x h
      rw [List.length_drop] at h3
      refine ⟨h1, by omega, by omega⟩
theorem Wd.ok {x : W} (h : Wd x) (hp : x.pos ≤ 4096) : Wok x := by
  rcases h with ⟨h1, h2, h3⟩ | ⟨h1, h2, h3⟩ | ⟨h1, c, h2, h3, h4⟩
  · exact ⟨fun h => by omega, h3, by rw [h2]; simp, by omega, hp⟩
  · refine ⟨fun h => by omega, by omega, ?_, by omega, hp⟩
    cases ht : x.text with
    | nil => simp
    | cons c r =>
      rw [ht] at h2
      have : (letter c && (c :: r).all (fun x => digit x || letter x) && decide ((c :: r).length ≤ 32)) = true := h2
      simp only [Bool.and_eq_true, decide_eq_true_eq] at this
      omega
  · exact ⟨fun _ => ⟨c, h2⟩, by omega, by rw [h2]; simp, by omega, hp⟩
end Go.Proofs.YtlfeejjlcclbdaaGreatDoor
