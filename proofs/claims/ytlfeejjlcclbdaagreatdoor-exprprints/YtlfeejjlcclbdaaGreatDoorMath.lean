/-
  The words of a text, as lists of bytes: plain mathematics.
-/
import Derived.Test.YtlfeejjlcclbdaaGreatDoorRows
namespace Go.Proofs.YtlfeejjlcclbdaaGreatDoor
set_option linter.unusedVariables false


abbrev Bs := List UInt8
def digit (c : UInt8) : Bool := decide (48 ≤ c.toNat) && decide (c.toNat ≤ 57)
def letter (c : UInt8) : Bool := decide (97 ≤ c.toNat) && decide (c.toNat ≤ 122)
def signs : List UInt8 := [43, 45, 42, 47, 61, 60, 40, 41, 38, 124, 33]
def sign (c : UInt8) : Bool := signs.contains c
def kind (c : UInt8) : Nat := if digit c then 1 else if letter c then 2 else if sign c then 3 else 0
def goes (k : Nat) (c : UInt8) : Bool := if k = 1 then digit c else if k = 2 then digit c || letter c else false
def val (n : Nat) : Bs → Nat
  | [] => n
  | c :: r => val (n * 10 + (c.toNat - 48)) r
theorem val_ge : ∀ (l : Bs) (n : Nat), n ≤ val n l
  | [], n => Nat.le_refl _
  | c :: r, n => Nat.le_trans (show n ≤ n * 10 + (c.toNat - 48) by generalize c.toNat - 48 = d; omega) (val_ge r _)
/-- A word, and where it begins. -/
structure W where
  kind : Nat
  text : Bs
  n : Nat
  pos : Nat
/-- What a text begins with. -/
structure Got where
  err : Nat
  off : Nat
  kind : Nat
  text : Bs
  n : Nat
  len : Nat
/-- A text's words, or what is wrong with it, and where. -/
structure Out where
  ws : List W
  err : Nat
  pos : Nat
def headLetter : Bs → Bool
  | [] => false
  | c :: _ => letter c
/-- The bytes of the word that a text begins with. -/
def word (c : UInt8) (r : Bs) : Bs := c :: r.takeWhile (goes (kind c))
def oneC (c : UInt8) (r : Bs) : Got :=
  if kind c = 1 then
    if 2 ^ 63 ≤ val 0 (word c r) then ⟨13, 0, 0, [], 0, 0⟩
    else if headLetter (r.dropWhile (goes (kind c))) then ⟨3, (word c r).length, 0, [], 0, 0⟩
    else ⟨0, 0, 1, [], val 0 (word c r), (word c r).length⟩
  else if kind c = 2 then
    if 32 < (word c r).length then ⟨3, 0, 0, [], 0, 0⟩ else ⟨0, 0, 2, word c r, 0, (word c r).length⟩
  else if kind c = 3 then ⟨0, 0, 3, word c r, 0, (word c r).length⟩
  else ⟨3, 0, 0, [], 0, 0⟩
def one : Bs → Got
  | [] => ⟨3, 0, 0, [], 0, 0⟩
  | c :: r => oneC c r
theorem one_cons (c : UInt8) (r : Bs) : one (c :: r) = oneC c r := rfl
/-- All ways of a word. -/
theorem one_ways (c : UInt8) (r : Bs) : (one (c :: r) = ⟨0, 0, 1, [], val 0 (word c r), (word c r).length⟩ ∧ val 0 (word c r) < 2 ^ 63) ∨ one (c :: r) = ⟨0, 0, 2, word c r, 0, (word c r).length⟩ ∨ one (c :: r) = ⟨0, 0, 3, word c r, 0, (word c r).length⟩
    ∨ one (c :: r) = ⟨3, 0, 0, [], 0, 0⟩ ∨ one (c :: r) = ⟨13, 0, 0, [], 0, 0⟩ ∨ (one (c :: r) = ⟨3, (word c r).length, 0, [], 0, 0⟩ ∧ headLetter (r.dropWhile (goes (kind c))) = true) := by
  rw [one_cons, oneC]
  by_cases h1 : kind c = 1
  · rw [if_pos h1]
    by_cases h2 : 2 ^ 63 ≤ val 0 (word c r)
    · rw [if_pos h2]; simp
    · rw [if_neg h2]
      cases h3 : headLetter (r.dropWhile (goes (kind c))) with
      | true => rw [if_pos rfl]; exact .inr (.inr (.inr (.inr (.inr ⟨rfl, rfl⟩))))
      | false => rw [if_neg (by simp)]; exact .inl ⟨rfl, by omega⟩
  · rw [if_neg h1]
    by_cases h2 : kind c = 2
    · rw [if_pos h2]
      by_cases h3 : 32 < (word c r).length
      · rw [if_pos h3]; simp
      · rw [if_neg h3]; simp
    · rw [if_neg h2]
      by_cases h3 : kind c = 3
      · rw [if_pos h3]; simp
      · rw [if_neg h3]; simp
def join (a : List W) (r : Out) : Out := if r.err = 0 then ⟨a ++ r.ws, 0, 0⟩ else ⟨[], r.err, r.pos⟩
def spl : Nat → Bs → Nat → Out
  | 0, _, _ => ⟨[], 0, 0⟩
  | _ + 1, [], _ => ⟨[], 0, 0⟩
  | f + 1, c :: r, p =>
    if c.toNat = 32 then spl f r (p + 1)
    else if (one (c :: r)).err = 0 then join [⟨(one (c :: r)).kind, (one (c :: r)).text, (one (c :: r)).n, p⟩] (spl f ((c :: r).drop (one (c :: r)).len) (p + (one (c :: r)).len))
    else ⟨[], (one (c :: r)).err, p + (one (c :: r)).off⟩
def sp (l : Bs) (p : Nat) : Out := spl l.length l p
theorem word_len (c : UInt8) (r : Bs) : 1 ≤ (word c r).length ∧ (word c r).length ≤ (c :: r).length := by
  have := (List.takeWhile_sublist (goes (kind c)) (l := r)).length_le
  simp [word]; omega
theorem one_len {c : UInt8} {r : Bs} (h : (one (c :: r)).err = 0) : (one (c :: r)).len = (word c r).length := by
  rcases one_ways c r with ⟨e, _⟩ | e | e | e | e | ⟨e, _⟩ <;> rw [e] at h ⊢ <;> first | (simp at h; done) | rfl
theorem one_len_pos {c : UInt8} {r : Bs} (h : (one (c :: r)).err = 0) : 1 ≤ (one (c :: r)).len ∧ (one (c :: r)).len ≤ (c :: r).length := by
  rw [one_len h]; exact word_len c r
theorem spl_more : ∀ (f : Nat) (l : Bs) (p : Nat), l.length ≤ f → spl f l p = spl (f + 1) l p := by
  intro f
  induction f with
  | zero =>
    intro l p h
    have : l = [] := List.length_eq_zero_iff.1 (by omega)
    subst this; rfl
  | succ f ih =>
    intro l p h
    match l, h with
    | [], _ => rfl
    | c :: r, h =>
      have hr : r.length ≤ f := by simp at h; exact h
      rw [spl, spl]
      rw [ih r (p + 1) hr]
      by_cases he : (one (c :: r)).err = 0
      · have hl := one_len_pos he
        rw [ih ((c :: r).drop (one (c :: r)).len) (p + (one (c :: r)).len) (by rw [List.length_drop]; simp at h ⊢; omega)]
      · simp only [he, if_false]
theorem spl_any (f : Nat) : ∀ (l : Bs) (p : Nat), l.length ≤ f → spl f l p = sp l p := by
  intro l p h
  obtain ⟨d, rfl⟩ : ∃ d, f = l.length + d := ⟨f - l.length, by omega⟩
  clear h
  induction d with
  | zero => rfl
  | succ d ih => rw [← ih, ← Nat.add_assoc]; exact (spl_more _ _ _ (by omega)).symm
theorem sp_nil (p : Nat) : sp [] p = ⟨[], 0, 0⟩ := rfl
theorem sp_blank {c : UInt8} (r : Bs) (p : Nat) (h : c.toNat = 32) : sp (c :: r) p = sp r (p + 1) := by
  show spl (r.length + 1) (c :: r) p = _
  rw [spl, if_pos h]; rfl
theorem sp_fault {c : UInt8} {r : Bs} (p : Nat) (h : c.toNat ≠ 32) (he : (one (c :: r)).err ≠ 0) : sp (c :: r) p = ⟨[], (one (c :: r)).err, p + (one (c :: r)).off⟩ := by
  show spl (r.length + 1) (c :: r) p = _
  rw [spl, if_neg h, if_neg he]
theorem sp_word {c : UInt8} {r : Bs} (p : Nat) (h : c.toNat ≠ 32) (he : (one (c :: r)).err = 0) : sp (c :: r) p = join [⟨(one (c :: r)).kind, (one (c :: r)).text, (one (c :: r)).n, p⟩] (sp ((c :: r).drop (one (c :: r)).len) (p + (one (c :: r)).len)) := by
  show spl (r.length + 1) (c :: r) p = _
  rw [spl, if_neg h, if_pos he, spl_any]
  have := one_len_pos he
  rw [List.length_drop]; simp at this ⊢; omega
theorem join_join (a b : List W) (r : Out) : join a (join b r) = join (a ++ b) r := by
  unfold join
  by_cases h : r.err = 0
  · simp [h]
  · simp [h]
/-- By a text's length. -/
theorem by_len {P : Bs → Nat → Prop} (h0 : ∀ p, P [] p) (h1 : ∀ c r p, c.toNat = 32 → P r (p + 1) → P (c :: r) p)
    (h2 : ∀ c r p, c.toNat ≠ 32 → (one (c :: r)).err ≠ 0 → P (c :: r) p)
    (h3 : ∀ c r p, c.toNat ≠ 32 → (one (c :: r)).err = 0 → P ((c :: r).drop (one (c :: r)).len) (p + (one (c :: r)).len) → P (c :: r) p) : ∀ l p, P l p := by
  intro l
  obtain ⟨k, hk⟩ : ∃ k, l.length ≤ k := ⟨_, Nat.le_refl _⟩
  induction k generalizing l with
  | zero =>
    have : l = [] := List.length_eq_zero_iff.1 (by omega)
    subst this; exact h0
  | succ k ih =>
    intro p
    match l, hk with
    | [], _ => exact h0 p
    | c :: r, hk =>
      by_cases hb : c.toNat = 32
      · exact h1 c r p hb (ih r (by simp at hk; exact hk) _)
      · by_cases he : (one (c :: r)).err = 0
        · have := one_len_pos he
          exact h3 c r p hb he (ih _ (by rw [List.length_drop]; simp at hk this ⊢; omega) _)
        · exact h2 c r p hb he
theorem sp_norm (l : Bs) (p : Nat) : join [] (sp l p) = sp l p := by
  refine by_len (P := fun l p => join [] (sp l p) = sp l p) ?_ ?_ ?_ ?_ l p
  · intro p; rfl
  · intro c r p h ih; rw [sp_blank r p h]; exact ih
  · intro c r p h he; rw [sp_fault p h he]; simp [join, he]
  · intro c r p h he ih
    rw [sp_word p h he, join_join]; rfl
theorem sp_len (l : Bs) (p : Nat) : (sp l p).ws.length ≤ l.length := by
  refine by_len (P := fun l p => (sp l p).ws.length ≤ l.length) ?_ ?_ ?_ ?_ l p
  · intro p; exact Nat.le_refl _
  · intro c r p h ih; rw [sp_blank r p h, List.length_cons]; omega
  · intro c r p h he; rw [sp_fault p h he]; exact Nat.zero_le _
  · intro c r p h he ih
    have hl := one_len_pos he
    rw [sp_word p h he]
    rw [List.length_drop] at ih
    unfold join
    split
    · simp at ih hl ⊢; omega
    · exact Nat.zero_le _
/-- Words stand in their order, and do not meet. -/
def Placed (l : Bs) : Nat → List W → Prop
  | _, [] => True
  | p, x :: r => p ≤ x.pos ∧ x.pos < l.length ∧ x.pos + x.text.length ≤ l.length ∧ (l.drop x.pos).take x.text.length = x.text ∧ (x.kind = 1 ∧ x.text = [] ∨ x.kind ≠ 1 ∧ x.text ≠ [] ∧ x.n = 0) ∧ x.n < 2 ^ 63 ∧ Placed l (x.pos + max 1 x.text.length) r
theorem Placed.mono {l : Bs} {p q : Nat} {ws : List W} (h : Placed l q ws) (hpq : p ≤ q) : Placed l p ws := by
  cases ws with
  | nil => trivial
  | cons x r => exact ⟨Nat.le_trans hpq h.1, h.2⟩
theorem one_off {c : UInt8} {r : Bs} (h : (one (c :: r)).err ≠ 0) : (one (c :: r)).off < (c :: r).length := by
  rcases one_ways c r with ⟨e, h2⟩ | e | e | e | e | ⟨e, hh⟩ <;> rw [e] at h ⊢
  · simp
  · simp
  · simp
  · simp
  · simp
  show (word c r).length < (c :: r).length
  have h2 : r.takeWhile (goes (kind c)) ++ r.dropWhile (goes (kind c)) = r := List.takeWhile_append_dropWhile
  have h3 := congrArg List.length h2
  rw [List.length_append] at h3
  unfold word
  cases hd : r.dropWhile (goes (kind c)) with
  | nil => rw [hd] at hh; simp [headLetter] at hh
  | cons a b => rw [hd] at h3; simp at h3 ⊢; omega
end Go.Proofs.YtlfeejjlcclbdaaGreatDoor
