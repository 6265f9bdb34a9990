/-
  wordAt: one contract for words, one for faults.
-/
import Derived.Test.YtdnpbnhfakjhoaaWordT
namespace Go.Proofs.Ytdnpbnhfakjhoaa
open Go.RowKit
set_option linter.unusedVariables false


theorem kind_digit {c : UInt8} (h : kind c = 1) : digit c = true := by
  cases hd : digit c with
  | true => rfl
  | false =>
    unfold kind at h
    rw [hd] at h
    simp only [Bool.false_eq_true, if_false] at h
    repeat' split at h
    all_goals simp at h
theorem word_digits {c : UInt8} {r : Bs} (h : kind c = 1) : (word c r).all digit = true := by
  unfold word
  rw [List.all_cons, kind_digit h, Bool.true_and, h]
  exact List.all_takeWhile
theorem word_of (c : UInt8) (r : Bs) : word c r = c :: r.takeWhile (goes (kind c)) := rfl
/-- What a text has from a byte on. -/
structure From (s : ByteArray) (p : Nat) (c : UInt8) (r : Bs) : Prop where
  ls : s.data.toList.drop p = c :: r
theorem From.lt {s : ByteArray} {p : Nat} {c : UInt8} {r : Bs} (h : From s p c r) : p < s.size := by
  have := congrArg List.length h.ls
  rw [List.length_drop, size_list] at this
  simp at this; omega
theorem From.len {s : ByteArray} {p : Nat} {c : UInt8} {r : Bs} (h : From s p c r) : s.size = p + (r.length + 1) := by
  have := congrArg List.length h.ls
  rw [List.length_drop, size_list] at this
  have h2 := h.lt
  simp at this; omega
theorem drop_at (l : Bs) (p : Nat) (h : p < l.length) : l.drop p = l[p] :: l.drop (p + 1) := List.drop_eq_getElem_cons h
theorem From.cut {s : ByteArray} {p : Nat} {c : UInt8} {r : Bs} (h : From s p c r) : (s.extract p s.size).data.toList = c :: r := by
  rw [cut_list, ← size_list, List.take_length]; exact h.ls
theorem cut_size (s : ByteArray) (p : Nat) : (s.extract p s.size).size ≤ s.size := by
  rw [← size_list, cut_list, List.length_drop, List.length_take, size_list]; omega
theorem From.behind {s : ByteArray} {p : Nat} {c : UInt8} {r : Bs} (h : From s p c r) : s.data.toList.drop (p + (word c r).length) = r.dropWhile (goes (kind c)) := by
  rw [← List.drop_drop, h.ls, word_of, List.length_cons, List.drop_succ_cons]
  have h2 : r.takeWhile (goes (kind c)) ++ r.dropWhile (goes (kind c)) = r := List.takeWhile_append_dropWhile
  conv => lhs; arg 2; rw [← h2]
  rw [List.drop_left]
theorem From.letter_on {s : ByteArray} {p : Nat} {c : UInt8} {r : Bs} (h : From s p c r) (hlt : p + (word c r).length < s.size) : headLetter (r.dropWhile (goes (kind c))) = letter (s[p + (word c r).length]'hlt) := by
  have h2 : p + (word c r).length < s.data.toList.length := by rw [size_list]; exact hlt
  rw [← h.behind, drop_at _ _ h2, at_list hlt h2]; rfl
theorem From.letter_end {s : ByteArray} {p : Nat} {c : UInt8} {r : Bs} (h : From s p c r) (hlt : ¬ p + (word c r).length < s.size) : headLetter (r.dropWhile (goes (kind c))) = false := by
  rw [← h.behind, List.drop_eq_nil_of_le (by rw [size_list]; omega)]; rfl
end Go.Proofs.Ytdnpbnhfakjhoaa
