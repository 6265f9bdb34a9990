/-
  The document's scan, step by step: plain laws.
-/
import Derived.Test.YtdnpbnhfakjhoaaStk2
namespace Go.Proofs.Ytdnpbnhfakjhoaa
open Go.RowKit
set_option linter.unusedVariables false


theorem drop_cons {l : List W} {j : Nat} (h : j < l.length) : l.drop j = atL l j :: l.drop (j + 1) := by
  rw [List.drop_eq_getElem_cons h]
  unfold atL
  rw [List.getD_eq_getElem?_getD, List.getElem?_eq_getElem h]; rfl
section
variable {l : List W} {j : Nat} {top : Op1} {st : List Op1} {un : Nat} {R : Option (Nat × List W)}
theorem sc_deep {op : Bool} (hop : op = true) (h : scanM (l.drop j) top st un op = R) (hd : 16 < top.1 + top.2.length + un) : R = some (6, l.drop j) := by
  subst hop
  rw [← h]
  cases l.drop j with
  | nil => exact if_pos hd
  | cons x r => exact if_pos hd
theorem sc_sign (h : scanM (l.drop j) top st un true = R) (hj : j < l.length) (hd : ¬ 16 < top.1 + top.2.length + un) (hs : isW (atL l j) 45 = true ∨ isW (atL l j) 33 = true) : scanM (l.drop (j + 1)) top st (un + 1) true = R := by
  rw [drop_cons hj] at h
  unfold scanM at h
  rw [if_neg hd, if_pos (by rcases hs with h | h <;> simp [h])] at h
  exact h
theorem sc_open (h : scanM (l.drop j) top st un true = R) (hj : j < l.length) (hd : ¬ 16 < top.1 + top.2.length + un) (h1 : isW (atL l j) 45 = false) (h2 : isW (atL l j) 33 = false) (h3 : isW (atL l j) 40 = true) : scanM (l.drop (j + 1)) (top.1 + top.2.length + un + 1, []) (top :: st) 0 true = R := by
  rw [drop_cons hj] at h
  unfold scanM at h
  rw [if_neg hd, if_neg (by simp [h1, h2]), if_pos h3] at h
  exact h
theorem sc_word (h : scanM (l.drop j) top st un true = R) (hj : j < l.length) (hd : ¬ 16 < top.1 + top.2.length + un) (hk : (atL l j).kind = 1 ∨ (atL l j).kind = 2) : scanM (l.drop (j + 1)) top st 0 false = R := by
  have h3 : (atL l j).kind ≠ 3 := by omega
  rw [drop_cons hj] at h
  unfold scanM at h
  rw [if_neg hd, if_neg (by simp [isW_no h3]), if_neg (by simp [isW_no h3]), if_pos hk] at h
  exact h
theorem sc_else (h : scanM (l.drop j) top st un true = R) (hj : j < l.length) (hd : ¬ 16 < top.1 + top.2.length + un) (h1 : isW (atL l j) 45 = false) (h2 : isW (atL l j) 33 = false) (h3 : isW (atL l j) 40 = false) (hk : ¬ ((atL l j).kind = 1 ∨ (atL l j).kind = 2)) : R = some (3, l.drop j) := by
  rw [← h, drop_cons hj]
  conv => lhs; unfold scanM
  rw [if_neg hd, if_neg (by simp [h1, h2]), if_neg (by simp [h3]), if_neg hk]
theorem sc_end (h : scanM (l.drop j) top st un true = R) (hj : j = l.length) (hd : ¬ 16 < top.1 + top.2.length + un) : R = some (3, []) := by
  rw [← h, hj, List.drop_length]
  exact if_neg hd
theorem sc_shut {t2 : Op1} {s2 : List Op1} (h : scanM (l.drop j) top (t2 :: s2) un false = R) (hj : j < l.length) (h1 : isW (atL l j) 41 = true) : scanM (l.drop (j + 1)) t2 s2 0 false = R := by
  rw [drop_cons hj] at h
  unfold scanM at h
  rw [if_pos (by simp [h1])] at h
  exact h
theorem sc_bad (h : scanM (l.drop j) top st un false = R) (hj : j < l.length) (h1 : isW (atL l j) 41 = true → st = []) (hb : levW (atL l j) = 6 ∨ headIs (levW (atL l j)) (popK (levW (atL l j)) top.2) = true ∧ levW (atL l j) = 3) : R = some (3, l.drop j) := by
  rw [← h, drop_cons hj]
  conv => lhs; unfold scanM
  rw [if_neg (by intro h; simp only [Bool.and_eq_true] at h; have := h1 h.1; subst this; simp at h), if_pos hb]
theorem sc_next (h : scanM (l.drop j) top st un false = R) (hj : j < l.length) (h1 : isW (atL l j) 41 = true → st = []) (hb : ¬ (levW (atL l j) = 6 ∨ headIs (levW (atL l j)) (popK (levW (atL l j)) top.2) = true ∧ levW (atL l j) = 3)) : scanM (l.drop (j + 1)) (top.1, pushK (levW (atL l j)) top.2) st 0 true = R := by
  rw [drop_cons hj] at h
  unfold scanM at h
  rw [if_neg (by intro h; simp only [Bool.and_eq_true] at h; have := h1 h.1; subst this; simp at h), if_neg hb] at h
  exact h
theorem sc_stop (h : scanM (l.drop j) top st un false = R) (hj : j = l.length) : R = if st = [] then none else some (3, []) := by
  rw [← h, hj, List.drop_length]; rfl
end
theorem se_at {l : List W} {R : Option (Nat × List W)} (HR : scanM l (1, []) [] 0 true = R) {en e j : Nat} (h : R = some (e, l.drop j)) (hj : j < l.length) : scanE en l = (e, (atL l j).pos) := by
  unfold scanE; rw [HR, h, drop_cons hj]; rfl
theorem se_end {l : List W} {R : Option (Nat × List W)} (HR : scanM l (1, []) [] 0 true = R) {en e : Nat} (h : R = some (e, [])) : scanE en l = (e, en) := by
  unfold scanE; rw [HR, h]; rfl
theorem se_ok {l : List W} {R : Option (Nat × List W)} (HR : scanM l (1, []) [] 0 true = R) {en : Nat} (h : R = none) : scanE en l = (0, 0) := by
  unfold scanE; rw [HR, h]
theorem popK_len (k : Nat) : ∀ l : List Nat, (popK k l).length ≤ l.length
  | [] => Nat.le_refl _
  | x :: r => by
    unfold popK
    split
    · exact Nat.le_succ_of_le (popK_len k r)
    · exact Nat.le_refl _
theorem pushK_len (k : Nat) (l : List Nat) : (pushK k l).length ≤ l.length + 1 := by
  have := popK_len k l
  unfold pushK
  split
  · omega
  · simpa using this
theorem turn_cons (a b : Op1) (st : List Op1) : turn a (b :: st) = turn b st ++ [(a.1, a.2.reverse)] := by
  unfold turn
  rw [List.map_cons, List.reverse_cons]
theorem turn_nil (a : Op1) : turn a [] = [(a.1, a.2.reverse)] := rfl
end Go.Proofs.Ytdnpbnhfakjhoaa
