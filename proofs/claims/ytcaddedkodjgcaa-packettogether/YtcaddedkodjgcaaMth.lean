/-
  Logs as mathematics: what stands where, what is put, what is left; plain lists.
-/
import Derived.OpenShut
namespace Go.Proofs.Ytcaddedkodjgcaa
set_option linter.unusedVariables false

abbrev BB := List (BitVec 8)
/-- An entry: its term, its bytes. -/
abbrev En := Int × BB
def zE : En := (0, [])
def tOf (es : List En) (i : Nat) : Int := (es.getD i zE).1
/-- What is wrong with a log. -/
def chkM (b bt : Int) (es : List En) : Int :=
  if (0 ≤ b ∧ b ≤ 1099511627776 ∧ 0 ≤ bt ∧ bt ≤ 1099511627776 ∧ (b = 0 ↔ bt = 0)) ∧ ∀ i, i < es.length → 1 ≤ tOf es i ∧ tOf es i ≤ 1099511627776 ∧ bt ≤ tOf es i ∧ (0 < i → tOf es (i - 1) ≤ tOf es i) then 0 else 1
theorem chk_zero {b bt : Int} {es : List En} : chkM b bt es = 0 ↔ (0 ≤ b ∧ b ≤ 1099511627776 ∧ 0 ≤ bt ∧ bt ≤ 1099511627776 ∧ (b = 0 ↔ bt = 0)) ∧ ∀ i, i < es.length → 1 ≤ tOf es i ∧ tOf es i ≤ 1099511627776 ∧ bt ≤ tOf es i ∧ (0 < i → tOf es (i - 1) ≤ tOf es i) := by
  unfold chkM
  split
  · rename_i h; exact ⟨fun _ => h, fun _ => rfl⟩
  · rename_i h; exact ⟨fun e => absurd e (by decide), fun e => absurd e h⟩
theorem chk_one {b bt : Int} {es : List En} (h : ¬ chkM b bt es = 0) : chkM b bt es = 1 := by
  unfold chkM at h ⊢
  split
  · rename_i q; rw [if_pos q] at h; exact absurd rfl h
  · rfl
theorem chk_head {b bt : Int} {es : List En} (h : ¬ (0 ≤ b ∧ b ≤ 1099511627776 ∧ 0 ≤ bt ∧ bt ≤ 1099511627776 ∧ (b = 0 ↔ bt = 0))) : chkM b bt es = 1 := chk_one fun e => h (chk_zero.1 e).1
theorem chk_at {b bt : Int} {es : List En} {i : Nat} (hi : i < es.length) (h : ¬ (1 ≤ tOf es i ∧ tOf es i ≤ 1099511627776 ∧ bt ≤ tOf es i ∧ (0 < i → tOf es (i - 1) ≤ tOf es i))) : chkM b bt es = 1 := chk_one fun e => h ((chk_zero.1 e).2 i hi)
/-- What stands at a place. -/
def termM (b bt : Int) (es : List En) (p : Int) : Int × Bool :=
  if p = b then (bt, true) else if b < p ∧ p ≤ b + es.length then (tOf es (p - b - 1).toNat, true) else (0, false)
theorem term_base {b bt : Int} {es : List En} : termM b bt es b = (bt, true) := if_pos rfl
theorem term_in {b bt : Int} {es : List En} {p : Int} (h1 : b < p) (h2 : p ≤ b + es.length) : termM b bt es p = (tOf es (p - b - 1).toNat, true) := by
  unfold termM; rw [if_neg (by omega), if_pos ⟨h1, h2⟩]
theorem term_out {b bt : Int} {es : List En} {p : Int} (h : p < b ∨ b + es.length < p) : termM b bt es p = (0, false) := by
  unfold termM; rw [if_neg (by omega), if_neg (by omega)]
theorem term_at {b bt : Int} {es : List En} {i : Nat} (h : i < es.length) : termM b bt es (b + 1 + i) = (tOf es i, true) := by
  rw [term_in (by omega) (by omega), show (b + 1 + (i : Int) - b - 1).toNat = i by omega]
theorem term_where {b bt : Int} {es : List En} {p : Int} (h : (termM b bt es p).2 = true) : b ≤ p ∧ p ≤ b + es.length := by
  unfold termM at h
  split at h
  · omega
  · split at h
    · omega
    · cases h
theorem term_there {b bt : Int} {es : List En} {p : Int} (h1 : b ≤ p) (h2 : p ≤ b + es.length) : (termM b bt es p).2 = true := by
  by_cases h : p = b
  · subst h; rw [term_base]
  · rw [term_in (by omega) h2]
def fromM (b : Int) (es : List En) (p most : Int) : List En := if p ≤ b then [] else (es.drop (p - b - 1).toNat).take most.toNat
def newerM (b bt : Int) (es : List En) (t p : Int) : Bool := decide ((termM b bt es (b + es.length)).1 < t) || (decide (t = (termM b bt es (b + es.length)).1) && decide (b + es.length ≤ p))
/-- Ahead of all of a term. -/
def downM (es : List En) (x : Int) : Nat → Nat
  | 0 => 0
  | k + 1 => if tOf es k = x then downM es x k else k + 1
theorem down_le (es : List En) (x : Int) : ∀ k, downM es x k ≤ k
  | 0 => Nat.le_refl _
  | k + 1 => by unfold downM; split; exact Nat.le_succ_of_le (down_le es x k); exact Nat.le_refl _
/-- What stands, and what is put there. -/
def tailM : List En → List En → List En
  | s, [] => s
  | [], r => r
  | x :: s, y :: r => if x.1 = y.1 then x :: tailM s r else y :: r
def put2M (b bt : Int) (es : List En) (p t : Int) (r : List En) : List En × Int × Bool :=
  if (termM b bt es p).2 = false then (es, b + es.length, false)
  else if (termM b bt es p).1 ≠ t then (es, b + downM es (termM b bt es p).1 (p - b).toNat, false)
  else (es.take (p - b).toNat ++ tailM (es.drop (p - b).toNat) r, p + r.length, true)
def putM (b bt : Int) (es : List En) (p t : Int) (r : List En) : List En × Int × Bool :=
  if p < b then (if (r.length : Int) < b - p then (es, b, true) else put2M b bt es b bt (r.drop (b - p).toNat)) else put2M b bt es p t r
def compM (b bt : Int) (es : List En) (p : Int) : (Int × Int × List En) × Int :=
  if (termM b bt es p).2 = true then ((p, (termM b bt es p).1, es.drop (p - b).toNat), 0) else ((0, 0, []), 2)
def resetM (b bt : Int) (es : List En) (p t : Int) : Int × Int × List En :=
  if (termM b bt es p).2 = true ∧ (termM b bt es p).1 = t then (p, t, es.drop (p - b).toNat) else (p, t, [])

theorem tOf_drop (es : List En) (k i : Nat) : tOf (es.drop k) i = tOf es (k + i) := by
  unfold tOf; rw [List.getD_eq_getElem?_getD, List.getElem?_drop, ← List.getD_eq_getElem?_getD]
theorem tOf_take {es : List En} {k i : Nat} (h : i < k) : tOf (es.take k) i = tOf es i := by
  unfold tOf; rw [List.getD_eq_getElem?_getD, List.getElem?_take, if_pos h, ← List.getD_eq_getElem?_getD]
theorem tOf_left {es fs : List En} {i : Nat} (h : i < es.length) : tOf (es ++ fs) i = tOf es i := by
  unfold tOf; rw [List.getD_eq_getElem?_getD, List.getElem?_append_left h, ← List.getD_eq_getElem?_getD]
theorem tOf_right {es fs : List En} {i : Nat} : tOf (es ++ fs) (es.length + i) = tOf fs i := by
  unfold tOf; rw [List.getD_eq_getElem?_getD, List.getElem?_append_right (Nat.le_add_right _ _), Nat.add_sub_cancel_left, ← List.getD_eq_getElem?_getD]
theorem tOf_cons (x : En) (es : List En) (i : Nat) : tOf (x :: es) (i + 1) = tOf es i := rfl
/-- All stand there already. -/
theorem tail_all : ∀ (s r : List En), (∀ j, j < r.length → j < s.length ∧ tOf s j = tOf r j) → tailM s r = s
  | s, [], _ => by cases s <;> rfl
  | [], y :: r, h => by have := (h 0 (by simp)).1; simp at this
  | x :: s, y :: r, h => by
    have e : x.1 = y.1 := (h 0 (by simp)).2
    show (if x.1 = y.1 then x :: tailM s r else y :: r) = _
    rw [if_pos e, tail_all s r fun j hj => by
      obtain ⟨h1, h2⟩ := h (j + 1) (by simpa using hj)
      exact ⟨by simpa using h1, h2⟩]
/-- From one on they take the place of all. -/
theorem tail_at : ∀ (s r : List En) (i : Nat), (∀ j, j < i → j < s.length ∧ tOf s j = tOf r j) → i < r.length → (s.length ≤ i ∨ tOf s i ≠ tOf r i) → tailM s r = s.take i ++ r.drop i
  | s, [], i, _, h, _ => by simp at h
  | [], y :: r, i, h, hi, _ => by
    have : i = 0 := by
      cases i with
      | zero => rfl
      | succ i => have := (h 0 (by omega)).1; simp at this
    subst this; rfl
  | x :: s, y :: r, 0, _, _, hd => by
    have hne : x.1 ≠ y.1 := hd.resolve_left (by simp)
    show (if x.1 = y.1 then x :: tailM s r else y :: r) = _
    rw [if_neg hne]; rfl
  | x :: s, y :: r, i + 1, h, hi, hd => by
    have e : x.1 = y.1 := (h 0 (by omega)).2
    show (if x.1 = y.1 then x :: tailM s r else y :: r) = _
    rw [if_pos e, tail_at s r i (fun j hj => by
      obtain ⟨h1, h2⟩ := h (j + 1) (by omega)
      exact ⟨by simpa using h1, h2⟩) (by simpa using hi) (by
      rcases hd with hd | hd
      · exact .inl (by simpa using hd)
      · exact .inr hd)]
    rfl
/-- What was put stands there. -/
theorem tail_has : ∀ (s r : List En) (j : Nat), j < r.length → j < (tailM s r).length ∧ tOf (tailM s r) j = tOf r j
  | s, [], j, h => by simp at h
  | [], y :: r, j, h => ⟨h, rfl⟩
  | x :: s, y :: r, j, h => by
    show j < (if x.1 = y.1 then x :: tailM s r else y :: r).length ∧ tOf (if x.1 = y.1 then x :: tailM s r else y :: r) j = _
    split
    · rename_i e
      cases j with
      | zero => exact ⟨by simp, e⟩
      | succ j =>
        obtain ⟨h1, h2⟩ := tail_has s r j (by simpa using h)
        exact ⟨by simpa using h1, h2⟩
    · exact ⟨h, rfl⟩
theorem tail_len : ∀ (s r : List En), (tailM s r).length ≤ s.length + r.length
  | s, [] => by cases s <;> simp [tailM]
  | [], y :: r => by simp [tailM]
  | x :: s, y :: r => by
    show (if x.1 = y.1 then x :: tailM s r else y :: r).length ≤ _
    have := tail_len s r
    split <;> simp <;> omega
theorem tail_mem : ∀ (s r : List En) (e : En), e ∈ tailM s r → e ∈ s ∨ e ∈ r
  | s, [], e, h => by cases s <;> exact .inl h
  | [], y :: r, e, h => .inr h
  | x :: s, y :: r, e, h => by
    have h : e ∈ (if x.1 = y.1 then x :: tailM s r else y :: r) := h
    split at h
    · rcases List.mem_cons.1 h with rfl | h
      · exact .inl (List.mem_cons_self ..)
      · rcases tail_mem s r e h with h | h
        · exact .inl (List.mem_cons_of_mem _ h)
        · exact .inr (List.mem_cons_of_mem _ h)
    · exact .inr h
/-- Put once more, or a beginning of it: nothing changes. -/
theorem tail_again (s r : List En) (k : Nat) : tailM (tailM s r) (r.take k) = tailM s r := by
  refine tail_all _ _ fun j hj => ?_
  have hj2 : j < k ∧ j < r.length := by rw [List.length_take] at hj; omega
  obtain ⟨h1, h2⟩ := tail_has s r j hj2.2
  exact ⟨h1, by rw [h2, tOf_take hj2.1]⟩
section
variable {b bt : Int} {es : List En}
/-- A log with another tail: what stands ahead stands. -/
theorem term_ahead {k : Nat} (hk : k ≤ es.length) (fs : List En) {p : Int} (h1 : b ≤ p) (h2 : p ≤ b + k) : termM b bt (es.take k ++ fs) p = termM b bt es p := by
  by_cases h : p = b
  · subst h; rw [term_base, term_base]
  · have hl : (es.take k).length = k := by rw [List.length_take]; omega
    rw [term_in (by omega) (by rw [List.length_append, hl]; omega), term_in (by omega) (by omega), tOf_left (by omega), tOf_take (by omega)]
theorem put2_ok {p t : Int} {r : List En} (h : (put2M b bt es p t r).2.2 = true) : (termM b bt es p).2 = true ∧ (termM b bt es p).1 = t ∧ put2M b bt es p t r = (es.take (p - b).toNat ++ tailM (es.drop (p - b).toNat) r, p + r.length, true) := by
  unfold put2M at h ⊢
  split at h
  · cases h
  · rename_i h1
    split at h
    · cases h
    · rename_i h2
      refine ⟨by simpa using h1, by simpa using h2, ?_⟩
      rw [if_neg h1, if_neg h2]
theorem put2_yes {p t : Int} {r : List En} (h1 : (termM b bt es p).2 = true) (h2 : (termM b bt es p).1 = t) : put2M b bt es p t r = (es.take (p - b).toNat ++ tailM (es.drop (p - b).toNat) r, p + r.length, true) := by
  unfold put2M
  rw [if_neg (by rw [h1]; decide), if_neg (by simp [h2])]
theorem put2_none {p t : Int} {r : List En} (h1 : (termM b bt es p).2 = false) : put2M b bt es p t r = (es, b + es.length, false) := if_pos h1
theorem put2_other {p t : Int} {r : List En} (h1 : (termM b bt es p).2 = true) (h2 : (termM b bt es p).1 ≠ t) : put2M b bt es p t r = (es, b + downM es (termM b bt es p).1 (p - b).toNat, false) := by
  unfold put2M
  rw [if_neg (by rw [h1]; decide), if_pos h2]
/-- Where it does not fit, it is as it was. -/
theorem put2_no {p t : Int} {r : List En} (h : (put2M b bt es p t r).2.2 = false) : (put2M b bt es p t r).1 = es ∧ b ≤ (put2M b bt es p t r).2.1 ∧ (put2M b bt es p t r).2.1 ≤ b + es.length := by
  by_cases h1 : (termM b bt es p).2 = false
  · rw [put2_none h1]; exact ⟨rfl, by show b ≤ b + _; omega, Int.le_refl _⟩
  · have h1 : (termM b bt es p).2 = true := by simpa using h1
    by_cases h2 : (termM b bt es p).1 = t
    · rw [put2_yes h1 h2] at h; cases h
    · rw [put2_other h1 h2]
      have := down_le es (termM b bt es p).1 (p - b).toNat
      have := term_where h1
      exact ⟨rfl, by show b ≤ b + _; omega, by show b + _ ≤ b + _; omega⟩
theorem put_no {p t : Int} {r : List En} (h : (putM b bt es p t r).2.2 = false) : (putM b bt es p t r).1 = es ∧ b ≤ (putM b bt es p t r).2.1 ∧ (putM b bt es p t r).2.1 ≤ b + es.length := by
  unfold putM at h ⊢
  split at h
  · rename_i h1
    rw [if_pos h1]
    split at h
    · cases h
    · rename_i h2
      rw [if_neg h2]
      exact put2_no h
  · rename_i h1
    rw [if_neg h1]
    exact put2_no h
theorem put2_twice {p t : Int} {r : List En} (h : (put2M b bt es p t r).2.2 = true) (k : Nat) : (put2M b bt (put2M b bt es p t r).1 p t (r.take k)).1 = (put2M b bt es p t r).1 ∧ (put2M b bt (put2M b bt es p t r).1 p t (r.take k)).2.2 = true := by
  obtain ⟨h1, h2, h3⟩ := put2_ok h
  rw [h3]
  have hw := term_where h1
  have hk : (p - b).toNat ≤ es.length := by omega
  have ht := term_ahead (b := b) (bt := bt) (es := es) hk (tailM (es.drop (p - b).toNat) r) (p := p) hw.1 (by omega)
  have hl : (es.take (p - b).toNat).length = (p - b).toNat := by rw [List.length_take]; omega
  show (put2M b bt (es.take (p - b).toNat ++ tailM (es.drop (p - b).toNat) r) p t (r.take k)).1 = es.take (p - b).toNat ++ tailM (es.drop (p - b).toNat) r ∧ (put2M b bt (es.take (p - b).toNat ++ tailM (es.drop (p - b).toNat) r) p t (r.take k)).2.2 = true
  rw [put2_yes (by rw [ht]; exact h1) (by rw [ht]; exact h2)]
  refine ⟨?_, rfl⟩
  show List.take _ _ ++ tailM (List.drop _ _) _ = _
  rw [List.take_left' hl, List.drop_left' hl, tail_again]
theorem put_twice {p t : Int} {r : List En} (h : (putM b bt es p t r).2.2 = true) (k : Nat) : (putM b bt (putM b bt es p t r).1 p t (r.take k)).1 = (putM b bt es p t r).1 ∧ (putM b bt (putM b bt es p t r).1 p t (r.take k)).2.2 = true := by
  by_cases h1 : p < b
  · by_cases h2 : (r.length : Int) < b - p
    · have e : putM b bt es p t r = (es, b, true) := by unfold putM; rw [if_pos h1, if_pos h2]
      rw [e]
      show (putM b bt es p t (r.take k)).1 = es ∧ (putM b bt es p t (r.take k)).2.2 = true
      unfold putM
      rw [if_pos h1, if_pos (by rw [List.length_take]; omega)]
      exact ⟨rfl, rfl⟩
    · have e : putM b bt es p t r = put2M b bt es b bt (r.drop (b - p).toNat) := by unfold putM; rw [if_pos h1, if_neg h2]
      rw [e] at h ⊢
      unfold putM
      rw [if_pos h1]
      split
      · exact ⟨rfl, rfl⟩
      · rename_i h3
        rw [List.drop_take]
        exact put2_twice h _
  · have e : putM b bt es p t r = put2M b bt es p t r := by unfold putM; rw [if_neg h1]
    rw [e] at h ⊢
    unfold putM
    rw [if_neg h1]
    exact put2_twice h k
theorem put2_len {p t : Int} {r : List En} : (put2M b bt es p t r).1.length ≤ es.length + r.length := by
  unfold put2M
  split
  · show es.length ≤ _; omega
  · split
    · show es.length ≤ _; omega
    · show (es.take (p - b).toNat ++ tailM (es.drop (p - b).toNat) r).length ≤ _
      have := tail_len (es.drop (p - b).toNat) r
      rw [List.length_append, List.length_take]
      rw [List.length_drop] at this
      omega
theorem put_len {p t : Int} {r : List En} : (putM b bt es p t r).1.length ≤ es.length + r.length := by
  unfold putM
  split
  · split
    · show es.length ≤ _; omega
    · have := put2_len (b := b) (bt := bt) (es := es) (p := b) (t := bt) (r := r.drop (b - p).toNat)
      rw [List.length_drop] at this
      omega
  · exact put2_len
theorem put2_mem {p t : Int} {r : List En} {e : En} (h : e ∈ (put2M b bt es p t r).1) : e ∈ es ∨ e ∈ r := by
  unfold put2M at h
  split at h
  · exact .inl h
  · split at h
    · exact .inl h
    · rcases List.mem_append.1 h with h | h
      · exact .inl (List.mem_of_mem_take h)
      · rcases tail_mem _ _ _ h with h | h
        · exact .inl (List.mem_of_mem_drop h)
        · exact .inr h
theorem put_mem {p t : Int} {r : List En} {e : En} (h : e ∈ (putM b bt es p t r).1) : e ∈ es ∨ e ∈ r := by
  unfold putM at h
  split at h
  · split at h
    · exact .inl h
    · rcases put2_mem h with h | h
      · exact .inl h
      · exact .inr (List.mem_of_mem_drop h)
  · exact put2_mem h
/-- What fits makes alike. -/
theorem alike {b2 bt2 : Int} {fs : List En} {p most : Int} (hp : b ≤ p) (hp2 : b2 ≤ p) (h1 : (termM b bt es p).2 = true) (h2 : (termM b2 bt2 fs p).2 = true) (h3 : (termM b bt es p).1 = (termM b2 bt2 fs p).1) :
    let r := fromM b2 fs (p + 1) most
    let x := putM b bt es p (termM b2 bt2 fs p).1 r
    x.2.2 = true ∧ x.2.1 = p + r.length ∧ p + r.length ≤ b2 + fs.length ∧ (∀ i, p < i → i ≤ p + r.length → (termM b bt x.1 i).2 = true ∧ (termM b2 bt2 fs i).2 = true ∧ (termM b bt x.1 i).1 = (termM b2 bt2 fs i).1) ∧ ∀ i, b < i → i ≤ p → (termM b bt x.1 i).1 = (termM b bt es i).1 := by
  intro r x
  have hw := term_where h1
  have hw2 := term_where h2
  have hx : x = (es.take (p - b).toNat ++ tailM (es.drop (p - b).toNat) r, p + r.length, true) := by
    show putM b bt es p _ r = _
    unfold putM
    rw [if_neg (by omega), put2_yes h1 h3]
  have hr : r = (fs.drop (p - b2).toNat).take most.toNat := by
    show fromM b2 fs (p + 1) most = _
    unfold fromM
    rw [if_neg (by omega), show (p + 1 - b2 - 1).toNat = (p - b2).toNat by omega]
  have hrl : (r.length : Int) ≤ b2 + fs.length - p := by rw [hr, List.length_take, List.length_drop]; omega
  have hk : (p - b).toNat ≤ es.length := by omega
  have hl : (es.take (p - b).toNat).length = (p - b).toNat := by rw [List.length_take]; omega
  rw [hx]
  refine ⟨rfl, rfl, by omega, fun i q1 q2 => ?_, fun i q1 q2 => ?_⟩
  · obtain ⟨j, rfl⟩ : ∃ j : Nat, i = p + 1 + j := ⟨(i - p - 1).toNat, by omega⟩
    have hj : j < r.length := by omega
    obtain ⟨t1, t2⟩ := tail_has (es.drop (p - b).toNat) r j hj
    have e1 : termM b bt (es.take (p - b).toNat ++ tailM (es.drop (p - b).toNat) r) (p + 1 + j) = (tOf r j, true) := by
      rw [term_in (by omega) (by rw [List.length_append, hl]; omega), show (p + 1 + (j : Int) - b - 1).toNat = (es.take (p - b).toNat).length + j by rw [hl]; omega, tOf_right, t2]
    have e2 : termM b2 bt2 fs (p + 1 + j) = (tOf r j, true) := by
      rw [term_in (by omega) (by omega)]
      rw [hr, tOf_take (by rw [hr, List.length_take] at hj; omega), tOf_drop, show (p + 1 + (j : Int) - b2 - 1).toNat = (p - b2).toNat + j by omega]
    show (termM b bt (es.take (p - b).toNat ++ tailM (es.drop (p - b).toNat) r) (p + 1 + j)).2 = true ∧ _ ∧ (termM b bt (es.take (p - b).toNat ++ tailM (es.drop (p - b).toNat) r) (p + 1 + j)).1 = _
    rw [e1, e2]
    exact ⟨rfl, rfl, rfl⟩
  · show (termM b bt (es.take (p - b).toNat ++ tailM (es.drop (p - b).toNat) r) i).1 = _
    rw [term_ahead hk _ (by omega) (by omega)]
/-- Without the entries up to a place. -/
theorem term_short {p : Int} (h : (termM b bt es p).2 = true) {q : Int} (hq : p ≤ q) : termM p (termM b bt es p).1 (es.drop (p - b).toNat) q = termM b bt es q := by
  have hw := term_where h
  by_cases e : q = p
  · subst e
    rw [term_base]
    have : (termM b bt es q) = ((termM b bt es q).1, (termM b bt es q).2) := rfl
    rw [this, h]
  · have hl : ((es.drop (p - b).toNat).length : Int) = b + es.length - p := by rw [List.length_drop]; omega
    by_cases hq2 : q ≤ b + es.length
    · rw [term_in (by omega) (by omega), term_in (by omega) hq2, tOf_drop, show (p - b).toNat + (q - p - 1).toNat = (q - b - 1).toNat by omega]
    · rw [term_out (by omega), term_out (by omega)]
theorem short {p q t : Int} {r : List En} (h : (termM b bt es p).2 = true) (hq : p ≤ q) :
    (putM p (termM b bt es p).1 (es.drop (p - b).toNat) q t r).2.2 = (putM b bt es q t r).2.2 ∧
    ((putM b bt es q t r).2.2 = true → (putM p (termM b bt es p).1 (es.drop (p - b).toNat) q t r).2.1 = (putM b bt es q t r).2.1 ∧ (termM b bt (putM b bt es q t r).1 p).2 = true ∧ (termM b bt (putM b bt es q t r).1 p).1 = (termM b bt es p).1 ∧ (putM b bt es q t r).1.drop (p - b).toNat = (putM p (termM b bt es p).1 (es.drop (p - b).toNat) q t r).1) := by
  have hw := term_where h
  have ht := term_short h hq
  have e1 : putM b bt es q t r = put2M b bt es q t r := by unfold putM; rw [if_neg (by omega)]
  have e2 : putM p (termM b bt es p).1 (es.drop (p - b).toNat) q t r = put2M p (termM b bt es p).1 (es.drop (p - b).toNat) q t r := by unfold putM; rw [if_neg (by omega)]
  rw [e1, e2]
  by_cases h1 : (termM b bt es q).2 = false
  · rw [put2_none h1, put2_none (by rw [ht]; exact h1)]
    exact ⟨rfl, fun e => by cases e⟩
  · have h1 : (termM b bt es q).2 = true := by simpa using h1
    by_cases h2 : (termM b bt es q).1 = t
    · rw [put2_yes h1 h2, put2_yes (by rw [ht]; exact h1) (by rw [ht]; exact h2)]
      have hw2 := term_where h1
      have hk : (q - b).toNat ≤ es.length := by omega
      have hl : (es.take (q - b).toNat).length = (q - b).toNat := by rw [List.length_take]; omega
      have ha := term_ahead (b := b) (bt := bt) (es := es) hk (tailM (es.drop (q - b).toNat) r) (p := p) hw.1 (by omega)
      refine ⟨rfl, fun _ => ⟨rfl, ?_, ?_, ?_⟩⟩
      · show (termM b bt (es.take (q - b).toNat ++ tailM (es.drop (q - b).toNat) r) p).2 = true
        rw [ha]; exact h
      · show (termM b bt (es.take (q - b).toNat ++ tailM (es.drop (q - b).toNat) r) p).1 = _
        rw [ha]
      · show (es.take (q - b).toNat ++ tailM (es.drop (q - b).toNat) r).drop (p - b).toNat = (es.drop (p - b).toNat).take (q - p).toNat ++ tailM ((es.drop (p - b).toNat).drop (q - p).toNat) r
        rw [List.drop_append_of_le_length (by rw [hl]; omega), List.drop_drop, List.drop_take, show (q - b).toNat - (p - b).toNat = (q - p).toNat by omega, show (p - b).toNat + (q - p).toNat = (q - b).toNat by omega]
    · rw [put2_other h1 h2, put2_other (by rw [ht]; exact h1) (by rw [ht]; exact h2)]
      exact ⟨rfl, fun e => by cases e⟩
end
end Go.Proofs.Ytcaddedkodjgcaa
