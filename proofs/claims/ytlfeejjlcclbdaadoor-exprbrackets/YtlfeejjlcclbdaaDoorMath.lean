/-
  The words of a text, as lists of bytes: plain mathematics.
-/
import Derived.Test.YtlfeejjlcclbdaaDoorRows
namespace Go.Proofs.YtlfeejjlcclbdaaDoor
set_option linter.unusedVariables false

abbrev Bs := List UInt8
def digit (c : UInt8) : Bool := decide (48 ≤ c.toNat) && decide (c.toNat ≤ 57)
def letter (c : UInt8) : Bool := decide (97 ≤ c.toNat) && decide (c.toNat ≤ 122)
def signs : List UInt8 := [43, 45, 42, 47, 61, 60, 40, 41, 38, 124, 33]
def sign (c : UInt8) : Bool := signs.contains c
def kind (c : UInt8) : Nat := if digit c then 1 else if letter c then 2 else if sign c then 3 else 0
def goes (k : Nat) (c : UInt8) : Bool := if k = 1 then digit c else if k = 2 then digit c || letter c else false
def val (n : Nat) : Bs → Nat
  | [] => n
  | c :: r => val (n * 10 + (c.toNat - 48)) r

theorem val_ge : ∀ (l : Bs) (n : Nat), n ≤ val n l
  | [], n => Nat.le_refl _
  | c :: r, n => Nat.le_trans (show n ≤ n * 10 + (c.toNat - 48) by generalize c.toNat - 48 = d; omega) (val_ge r _)
/-- A word, and where it begins. -/
structure W where
  kind : Nat
  text : Bs
  n : Nat
  pos : Nat
/-- What a text begins with. -/
structure Got where
  err : Nat
  off : Nat
  kind : Nat
  text : Bs
  n : Nat
  len : Nat
/-- A text's words, or what is wrong with it, and where. -/
structure Out where
  ws : List W
  err : Nat
  pos : Nat

def headLetter : Bs → Bool
  | [] => false
  | c :: _ => letter c
/-- The bytes of the word that a text begins with. -/
def word (c : UInt8) (r : Bs) : Bs := c :: r.takeWhile (goes (kind c))
def oneC (c : UInt8) (r : Bs) : Got :=
  if kind c = 1 then
    if 2 ^ 63 ≤ val 0 (word c r) then ⟨13, 0, 0, [], 0, 0⟩
    else if headLetter (r.dropWhile (goes (kind c))) then ⟨3, (word c r).length, 0, [], 0, 0⟩
    else ⟨0, 0, 1, [], val 0 (word c r), (word c r).length⟩
  else if kind c = 2 then
    if 32 < (word c r).length then ⟨3, 0, 0, [], 0, 0⟩ else ⟨0, 0, 2, word c r, 0, (word c r).length⟩
  else if kind c = 3 then ⟨0, 0, 3, word c r, 0, (word c r).length⟩
  else ⟨3, 0, 0, [], 0, 0⟩
def one : Bs → Got
  | [] => ⟨3, 0, 0, [], 0, 0⟩
  | c :: r => oneC c r
theorem one_cons (c : UInt8) (r : Bs) : one (c :: r) = oneC c r := rfl
/-- All ways of a word. -/
theorem one_ways (c : UInt8) (r : Bs) : (one (c :: r) = ⟨0, 0, 1, [], val 0 (word c r), (word c r).length⟩ ∧ val 0 (word c r) < 2 ^ 63) ∨ one (c :: r) = ⟨0, 0, 2, word c r, 0, (word c r).length⟩ ∨ one (c :: r) = ⟨0, 0, 3, word c r, 0, (word c r).length⟩
    ∨ one (c :: r) = ⟨3, 0, 0, [], 0, 0⟩ ∨ one (c :: r) = ⟨13, 0, 0, [], 0, 0⟩ ∨ (one (c :: r) = ⟨3, (word c r).length, 0, [], 0, 0⟩ ∧ headLetter (r.dropWhile (goes (kind c))) = true) := by
  rw [one_cons, oneC]
  by_cases h1 : kind c = 1
  · rw [if_pos h1]
    by_cases h2 : 2 ^ 63 ≤ val 0 (word c r)
    · rw [if_pos h2]; simp
    · rw [if_neg h2]
      cases h3 : headLetter (r.dropWhile (goes (kind c))) with
      | true => rw [if_pos rfl]; exact .inr (.inr (.inr (.inr (.inr ⟨rfl, rfl⟩))))
      | false => rw [if_neg (by simp)]; exact .inl ⟨rfl, by omega⟩
  · rw [if_neg h1]
    by_cases h2 : kind c = 2
    · rw [if_pos h2]
      by_cases h3 : 32 < (word c r).length
      · rw [if_pos h3]; simp
      · rw [if_neg h3]; simp
    · rw [if_neg h2]
      by_cases h3 : kind c = 3
      · rw [if_pos h3]; simp
      · rw [if_neg h3]; simp

def join (a : List W) (r : Out) : Out := if r.err = 0 then ⟨a ++ r.ws, 0, 0⟩ else ⟨[], r.err, r.pos⟩
def spl : Nat → Bs → Nat → Out
  | 0, _, _ => ⟨[], 0, 0⟩
  | _ + 1, [], _ => ⟨[], 0, 0⟩
  | f + 1, c :: r, p =>
    if c.toNat = 32 then spl f r (p + 1)
    else if (one (c :: r)).err = 0 then join [⟨(one (c :: r)).kind, (one (c :: r)).text, (one (c :: r)).n, p⟩] (spl f ((c :: r).drop (one (c :: r)).len) (p + (one (c :: r)).len))
    else ⟨[], (one (c :: r)).err, p + (one (c :: r)).off⟩
def sp (l : Bs) (p : Nat) : Out := spl l.length l p

theorem word_len (c : UInt8) (r : Bs) : 1 ≤ (word c r).length ∧ (word c r).length ≤ (c :: r).length := by
  have := (List.takeWhile_sublist (goes (kind c)) (l := r)).length_le
  simp [word]; omega
theorem one_len {c : UInt8} {r : Bs} (h : (one (c :: r)).err = 0) : (one (c :: r)).len = (word c r).length := by
  rcases one_ways c r with ⟨e, _⟩ | e | e | e | e | ⟨e, _⟩ <;> rw [e] at h ⊢ <;> first | (simp at h; done) | rfl
theorem one_len_pos {c : UInt8} {r : Bs} (h : (one (c :: r)).err = 0) : 1 ≤ (one (c :: r)).len ∧ (one (c :: r)).len ≤ (c :: r).length := by
  rw [one_len h]; exact word_len c r

theorem spl_more : ∀ (f : Nat) (l : Bs) (p : Nat), l.length ≤ f → spl f l p = spl (f + 1) l p := by
  intro f
  induction f with
  | zero =>
    intro l p h
    have : l = [] := List.length_eq_zero_iff.1 (by omega)
    subst this; rfl
  | succ f ih =>
    intro l p h
    match l, h with
    | [], _ => rfl
    | c :: r, h =>
      have hr : r.length ≤ f := by simp at h; exact h
      rw [spl, spl]
      rw [ih r (p + 1) hr]
      by_cases he : (one (c :: r)).err = 0
      · have hl := one_len_pos he
        rw [ih ((c :: r).drop (one (c :: r)).len) (p + (one (c :: r)).len) (by rw [List.length_drop]; simp at h ⊢; omega)]
      · simp only [he, if_false]
theorem spl_any (f : Nat) : ∀ (l : Bs) (p : Nat), l.length ≤ f → spl f l p = sp l p := by
  intro l p h
  obtain ⟨d, rfl⟩ : ∃ d, f = l.length + d := ⟨f - l.length, by omega⟩
  clear h
  induction d with
  | zero => rfl
  | succ d ih => rw [← ih, ← Nat.add_assoc]; exact (spl_more _ _ _ (by omega)).symm
theorem sp_nil (p : Nat) : sp [] p = ⟨[], 0, 0⟩ := rfl
theorem sp_blank {c : UInt8} (r : Bs) (p : Nat) (h : c.toNat = 32) : sp (c :: r) p = sp r (p + 1) := by
  show spl (r.length + 1) (c :: r) p = _
  rw [spl, if_pos h]; rfl
theorem sp_fault {c : UInt8} {r : Bs} (p : Nat) (h : c.toNat ≠ 32) (he : (one (c :: r)).err ≠ 0) : sp (c :: r) p = ⟨[], (one (c :: r)).err, p + (one (c :: r)).off⟩ := by
  show spl (r.length + 1) (c :: r) p = _
  rw [spl, if_neg h, if_neg he]
theorem sp_word {c : UInt8} {r : Bs} (p : Nat) (h : c.toNat ≠ 32) (he : (one (c :: r)).err = 0) : sp (c :: r) p = join [⟨(one (c :: r)).kind, (one (c :: r)).text, (one (c :: r)).n, p⟩] (sp ((c :: r).drop (one (c :: r)).len) (p + (one (c :: r)).len)) := by
  show spl (r.length + 1) (c :: r) p = _
  rw [spl, if_neg h, if_pos he, spl_any]
  have := one_len_pos he
  rw [List.length_drop]; simp at this ⊢; omega

theorem join_join (a b : List W) (r : Out) : join a (join b r) = join (a ++ b) r := by
  unfold join
  by_cases h : r.err = 0
  · simp [h]
  · simp [h]

/-- By a text's length. -/
theorem by_len {P : Bs → Nat → Prop} (h0 : ∀ p, P [] p) (h1 : ∀ c r p, c.toNat = 32 → P r (p + 1) → P (c :: r) p)
    (h2 : ∀ c r p, c.toNat ≠ 32 → (one (c :: r)).err ≠ 0 → P (c :: r) p)
    (h3 : ∀ c r p, c.toNat ≠ 32 → (one (c :: r)).err = 0 → P ((c :: r).drop (one (c :: r)).len) (p + (one (c :: r)).len) → P (c :: r) p) : ∀ l p, P l p := by
  intro l
  obtain ⟨k, hk⟩ : ∃ k, l.length ≤ k := ⟨_, Nat.le_refl _⟩
  induction k generalizing l with
  | zero =>
    have : l = [] := List.length_eq_zero_iff.1 (by omega)
    subst this; exact h0
  | succ k ih =>
    intro p
    match l, hk with
    | [], _ => exact h0 p
    | c :: r, hk =>
      by_cases hb : c.toNat = 32
      · exact h1 c r p hb (ih r (by simp at hk; exact hk) _)
      · by_cases he : (one (c :: r)).err = 0
        · have := one_len_pos he
          exact h3 c r p hb he (ih _ (by rw [List.length_drop]; simp at hk this ⊢; omega) _)
        · exact h2 c r p hb he

theorem sp_norm (l : Bs) (p : Nat) : join [] (sp l p) = sp l p := by
  refine by_len (P := fun l p => join [] (sp l p) = sp l p) ?_ ?_ ?_ ?_ l p
  · intro p; rfl
  · intro c r p h ih; rw [sp_blank r p h]; exact ih
  · intro c r p h he; rw [sp_fault p h he]; simp [join, he]
  · intro c r p h he ih
    rw [sp_word p h he, join_join]; rfl

theorem sp_pos {l : Bs} {p : Nat} (h : (sp l p).err = 0) : (sp l p).pos = 0 := by
  have := sp_norm l p
  rw [← this]
  unfold join
  rw [if_pos h]
theorem sp_len (l : Bs) (p : Nat) : (sp l p).ws.length ≤ l.length := by
  refine by_len (P := fun l p => (sp l p).ws.length ≤ l.length) ?_ ?_ ?_ ?_ l p
  · intro p; exact Nat.le_refl _
  · intro c r p h ih; rw [sp_blank r p h, List.length_cons]; omega
  · intro c r p h he; rw [sp_fault p h he]; exact Nat.zero_le _
  · intro c r p h he ih
    have hl := one_len_pos he
    rw [sp_word p h he]
    rw [List.length_drop] at ih
    unfold join
    split
    · simp at ih hl ⊢; omega
    · exact Nat.zero_le _

theorem take_run (p : UInt8 → Bool) (t : Bs) {b : UInt8} (hb : p b = false) : ∀ r : Bs, (r ++ b :: t).takeWhile p = r.takeWhile p
  | [] => by simp [List.takeWhile, hb]
  | c :: r => by
    cases h : p c with
    | true => simp [List.takeWhile, h, take_run p t hb r]
    | false => simp [List.takeWhile, h]
theorem drop_run (p : UInt8 → Bool) (t : Bs) {b : UInt8} (hb : p b = false) : ∀ r : Bs, (r ++ b :: t).dropWhile p = r.dropWhile p ++ b :: t
  | [] => by simp [List.dropWhile, hb]
  | c :: r => by
    cases h : p c with
    | true => simp [List.dropWhile, h, drop_run p t hb r]
    | false => simp [List.dropWhile, h]
def blank : UInt8 := 32
theorem blank_nat : blank.toNat = 32 := rfl
theorem blank_goes (k : Nat) : goes k blank = false := by
  unfold goes
  split
  · decide
  · split <;> decide
theorem head_app (r t : Bs) : headLetter (r ++ blank :: t) = headLetter r := by
  cases r with
  | nil => show letter blank = false; decide
  | cons c r => rfl
theorem one_app (c : UInt8) (r t : Bs) : one (c :: (r ++ blank :: t)) = one (c :: r) := by
  have h1 : word c (r ++ blank :: t) = word c r := by unfold word; rw [take_run _ _ (blank_goes _)]
  have h2 := drop_run (goes (kind c)) t (blank_goes (kind c)) r
  rw [one_cons, one_cons, oneC, oneC, h1, h2, head_app]

/-- 6.3: a text with a blank and another one behind. -/
theorem sp_app (t l : Bs) (p : Nat) : sp (l ++ blank :: t) p = if (sp l p).err = 0 then join (sp l p).ws (sp t (p + l.length + 1)) else sp l p := by
  refine by_len (P := fun l p => sp (l ++ blank :: t) p = if (sp l p).err = 0 then join (sp l p).ws (sp t (p + l.length + 1)) else sp l p) ?_ ?_ ?_ ?_ l p
  · intro p
    rw [List.nil_append, sp_blank t p blank_nat, sp_nil, if_pos rfl]
    exact (sp_norm t (p + 1)).symm
  · intro c r p h ih
    rw [List.cons_append, sp_blank _ p h, ih, sp_blank r p h, List.length_cons]
    rw [show p + 1 + r.length + 1 = p + (r.length + 1) + 1 by omega]
  · intro c r p h he
    rw [List.cons_append, sp_fault p h (by rw [one_app]; exact he), sp_fault p h he, if_neg he, one_app]
  · intro c r p h he ih
    have hl := one_len_pos he
    rw [List.cons_append, sp_word p h (by rw [one_app]; exact he), one_app, ← List.cons_append, List.drop_append_of_le_length hl.2, ih, sp_word p h he]
    generalize sp ((c :: r).drop (one (c :: r)).len) (p + (one (c :: r)).len) = R
    have e : p + (one (c :: r)).len + ((c :: r).drop (one (c :: r)).len).length + 1 = p + (c :: r).length + 1 := by rw [List.length_drop]; omega
    rw [e]
    by_cases h0 : R.err = 0
    · rw [if_pos h0, join_join]
      simp [join, h0]
    · rw [if_neg h0]; simp [join, h0]

def W.shift (d : Nat) (x : W) : W := ⟨x.kind, x.text, x.n, x.pos + d⟩
theorem sp_shift (d : Nat) (l : Bs) (p : Nat) : (sp l (p + d)).ws = (sp l p).ws.map (W.shift d) ∧ (sp l (p + d)).err = (sp l p).err := by
  refine by_len (P := fun l p => (sp l (p + d)).ws = (sp l p).ws.map (W.shift d) ∧ (sp l (p + d)).err = (sp l p).err) ?_ ?_ ?_ ?_ l p
  · intro p; exact ⟨rfl, rfl⟩
  · intro c r p h ih
    rw [sp_blank r _ h, sp_blank r p h, show p + d + 1 = p + 1 + d by omega]; exact ih
  · intro c r p h he
    rw [sp_fault _ h he, sp_fault p h he]; exact ⟨rfl, rfl⟩
  · intro c r p h he ih
    rw [sp_word _ h he, sp_word p h he, show p + d + (one (c :: r)).len = p + (one (c :: r)).len + d by omega]
    generalize sp ((c :: r).drop (one (c :: r)).len) (p + (one (c :: r)).len) = R at *
    generalize sp ((c :: r).drop (one (c :: r)).len) (p + (one (c :: r)).len + d) = R2 at *
    obtain ⟨h1, h2⟩ := ih
    by_cases h0 : R.err = 0
    · simp [join, h0, h2, h1, W.shift]
    · simp [join, h0, h2]
theorem sp_blanks (t : Bs) : ∀ (n : Nat) (p : Nat), sp (List.replicate n blank ++ t) p = sp t (p + n)
  | 0, p => by simp
  | n + 1, p => by
    rw [List.replicate_succ, List.cons_append, sp_blank _ p blank_nat, sp_blanks t n (p + 1), show p + 1 + n = p + (n + 1) by omega]

/-- Words stand in their order, and do not meet. -/
def Placed (l : Bs) : Nat → List W → Prop
  | _, [] => True
  | p, x :: r => p ≤ x.pos ∧ x.pos < l.length ∧ x.pos + x.text.length ≤ l.length ∧ (l.drop x.pos).take x.text.length = x.text ∧ (x.kind = 1 ∧ x.text = [] ∨ x.kind ≠ 1 ∧ x.text ≠ [] ∧ x.n = 0) ∧ x.n < 2 ^ 63 ∧ Placed l (x.pos + max 1 x.text.length) r
theorem Placed.mono {l : Bs} {p q : Nat} {ws : List W} (h : Placed l q ws) (hpq : p ≤ q) : Placed l p ws := by
  cases ws with
  | nil => trivial
  | cons x r => exact ⟨Nat.le_trans hpq h.1, h.2⟩
theorem word_take (c : UInt8) (r : Bs) : (c :: r).take (word c r).length = word c r := by
  unfold word
  rw [List.length_cons, List.take_succ_cons]
  congr 1
  have : r.takeWhile (goes (kind c)) <+: r := List.takeWhile_prefix _
  exact (List.prefix_iff_eq_take.1 this).symm
theorem one_ok {c : UInt8} {r : Bs} (h : (one (c :: r)).err = 0) : ((one (c :: r)).kind = 1 ∧ (one (c :: r)).text = [] ∨ (one (c :: r)).kind ≠ 1 ∧ (one (c :: r)).text = word c r ∧ (one (c :: r)).n = 0) ∧ (one (c :: r)).n < 2 ^ 63 := by
  rcases one_ways c r with ⟨e, h2⟩ | e | e | e | e | ⟨e, _⟩ <;> rw [e] at h ⊢
  · exact ⟨.inl ⟨rfl, rfl⟩, h2⟩
  · exact ⟨.inr ⟨by show 2 ≠ 1; decide, rfl, rfl⟩, by show 0 < _; decide⟩
  · exact ⟨.inr ⟨by show 3 ≠ 1; decide, rfl, rfl⟩, by show 0 < _; decide⟩
  all_goals simp at h
theorem one_off {c : UInt8} {r : Bs} (h : (one (c :: r)).err ≠ 0) : (one (c :: r)).off < (c :: r).length := by
  rcases one_ways c r with ⟨e, h2⟩ | e | e | e | e | ⟨e, hh⟩ <;> rw [e] at h ⊢
  · simp
  · simp
  · simp
  · simp
  · simp
  show (word c r).length < (c :: r).length
  have h2 : r.takeWhile (goes (kind c)) ++ r.dropWhile (goes (kind c)) = r := List.takeWhile_append_dropWhile
  have h3 := congrArg List.length h2
  rw [List.length_append] at h3
  unfold word
  cases hd : r.dropWhile (goes (kind c)) with
  | nil => rw [hd] at hh; simp [headLetter] at hh
  | cons a b => rw [hd] at h3; simp at h3 ⊢; omega
theorem sp_places (l : Bs) : ∀ r p, r = l.drop p → p ≤ l.length → (sp r p).err = 0 ∧ Placed l p (sp r p).ws ∨ (sp r p).err ≠ 0 ∧ (sp r p).ws = [] ∧ (sp r p).pos < l.length := by
  refine by_len (P := fun r p => r = l.drop p → p ≤ l.length → (sp r p).err = 0 ∧ Placed l p (sp r p).ws ∨ (sp r p).err ≠ 0 ∧ (sp r p).ws = [] ∧ (sp r p).pos < l.length) ?_ ?_ ?_ ?_
  · intro p _ _; exact .inl ⟨rfl, trivial⟩
  · intro c r p h ih e hp
    have hlen := congrArg List.length e
    rw [List.length_drop] at hlen
    simp at hlen
    have e2 : r = l.drop (p + 1) := by rw [← List.drop_drop, ← e]; rfl
    rw [sp_blank r p h]
    rcases ih e2 (by omega) with ⟨h1, h2⟩ | h1
    · exact .inl ⟨h1, h2.mono (by omega)⟩
    · exact .inr h1
  · intro c r p h he e hp
    have hlen := congrArg List.length e
    rw [List.length_drop] at hlen
    have := one_off he
    rw [sp_fault p h he]
    exact .inr ⟨he, rfl, by show p + _ < _; omega⟩
  · intro c r p h he ih e hp
    have hlen := congrArg List.length e
    rw [List.length_drop] at hlen
    have hl := one_len_pos he
    have hw := word_len c r
    have hok := one_ok he
    have hlw := one_len he
    have e2 : (c :: r).drop (one (c :: r)).len = l.drop (p + (one (c :: r)).len) := by rw [← List.drop_drop, ← e]
    rw [sp_word p h he]
    rcases ih e2 (by omega) with ⟨h1, h2⟩ | ⟨h1, h2, h3⟩
    · refine .inl ⟨by simp [join, h1], ?_⟩
      simp only [join, if_pos h1, List.singleton_append]
      refine ⟨Nat.le_refl _, by show p < _; simp at hlen; omega, ?_, ?_, ?_, hok.2, ?_⟩
      · rcases hok.1 with ⟨_, k2⟩ | ⟨_, k2, _⟩
        · show p + (one (c :: r)).text.length ≤ _; rw [k2]; simp; exact hp
        · show p + (one (c :: r)).text.length ≤ _; rw [k2]; omega
      · rcases hok.1 with ⟨_, k2⟩ | ⟨_, k2, _⟩
        · rw [k2]; simp
        · rw [k2]; show (l.drop p).take _ = _; rw [← e]; exact word_take c r
      · rcases hok.1 with ⟨k1, k2⟩ | ⟨k1, k2, k3⟩
        · exact .inl ⟨k1, k2⟩
        · exact .inr ⟨k1, by rw [k2]; unfold word; simp, k3⟩
      · refine h2.mono ?_
        show p + max 1 (one (c :: r)).text.length ≤ _
        rcases hok.1 with ⟨_, k2⟩ | ⟨_, k2, _⟩
        · rw [k2]; simp; omega
        · rw [k2, hlw]; omega
    · exact .inr ⟨by simp [join, h1], by simp [join, h1], by simp [join, h1]; exact h3⟩

end Go.Proofs.YtlfeejjlcclbdaaDoor
