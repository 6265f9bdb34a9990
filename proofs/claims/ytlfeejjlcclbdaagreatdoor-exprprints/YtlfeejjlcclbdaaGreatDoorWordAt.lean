/-
  wordAt: one contract for words, one for faults.
-/
import Derived.Test.YtlfeejjlcclbdaaGreatDoorWordT
namespace Go.Proofs.YtlfeejjlcclbdaaGreatDoor
open Go.RowKit
set_option linter.unusedVariables false


/-- A word that was found, and how long it is; what is wrong, and where. -/
def okV (k : Nat) (t : Bs) (n p len : Nat) : Value := .tuple #[.agg #[.int .i64 k, .string (ba t), .int .i64 n, .int .i64 p], .int .i64 len, .agg #[.int .i64 0, .int .i64 0]]
def badV (e p : Nat) : Value := .tuple #[.agg #[.int .i64 0, .string ⟨#[]⟩, .int .i64 0, .int .i64 0], .int .i64 0, .agg #[.int .i64 e, .int .i64 p]]
theorem kind_le (c : UInt8) : kind c ≤ 3 := by
  unfold kind
  repeat' split
  all_goals decide
theorem kind_digit {c : UInt8} (h : kind c = 1) : digit c = true := by
  cases hd : digit c with
  | true => rfl
  | false =>
    unfold kind at h
    rw [hd] at h
    simp only [Bool.false_eq_true, if_false] at h
    repeat' split at h
    all_goals simp at h
theorem word_digits {c : UInt8} {r : Bs} (h : kind c = 1) : (word c r).all digit = true := by
  unfold word
  rw [List.all_cons, kind_digit h, Bool.true_and, h]
  exact List.all_takeWhile
theorem word_of (c : UInt8) (r : Bs) : word c r = c :: r.takeWhile (goes (kind c)) := rfl
/-- What a text has from a byte on. -/
structure From (s : ByteArray) (p : Nat) (c : UInt8) (r : Bs) : Prop where
  ls : s.data.toList.drop p = c :: r
theorem From.lt {s : ByteArray} {p : Nat} {c : UInt8} {r : Bs} (h : From s p c r) : p < s.size := by
  have := congrArg List.length h.ls
  rw [List.length_drop, size_list] at this
  simp at this; omega
theorem From.len {s : ByteArray} {p : Nat} {c : UInt8} {r : Bs} (h : From s p c r) : s.size = p + (r.length + 1) := by
  have := congrArg List.length h.ls
  rw [List.length_drop, size_list] at this
  have h2 := h.lt
  simp at this; omega
theorem drop_at (l : Bs) (p : Nat) (h : p < l.length) : l.drop p = l[p] :: l.drop (p + 1) := List.drop_eq_getElem_cons h
theorem From.byte {s : ByteArray} {p : Nat} {c : UInt8} {r : Bs} (h : From s p c r) : s[p]'h.lt = c := by
  have h2 : p < s.data.toList.length := by rw [size_list]; exact h.lt
  have := drop_at s.data.toList p h2
  rw [h.ls] at this
  rw [at_list h.lt h2]
  simp at this
  exact this.1.symm
theorem From.cut {s : ByteArray} {p : Nat} {c : UInt8} {r : Bs} (h : From s p c r) : (s.extract p s.size).data.toList = c :: r := by
  rw [cut_list, ← size_list, List.take_length]; exact h.ls
theorem cut_size (s : ByteArray) (p : Nat) : (s.extract p s.size).size ≤ s.size := by
  rw [← size_list, cut_list, List.length_drop, List.length_take, size_list]; omega
theorem From.behind {s : ByteArray} {p : Nat} {c : UInt8} {r : Bs} (h : From s p c r) : s.data.toList.drop (p + (word c r).length) = r.dropWhile (goes (kind c)) := by
  rw [← List.drop_drop, h.ls, word_of, List.length_cons, List.drop_succ_cons]
  have h2 : r.takeWhile (goes (kind c)) ++ r.dropWhile (goes (kind c)) = r := List.takeWhile_append_dropWhile
  conv => lhs; arg 2; rw [← h2]
  rw [List.drop_left]
theorem From.letter_on {s : ByteArray} {p : Nat} {c : UInt8} {r : Bs} (h : From s p c r) (hlt : p + (word c r).length < s.size) : headLetter (r.dropWhile (goes (kind c))) = letter (s[p + (word c r).length]'hlt) := by
  have h2 : p + (word c r).length < s.data.toList.length := by rw [size_list]; exact hlt
  rw [← h.behind, drop_at _ _ h2, at_list hlt h2]; rfl
theorem From.letter_end {s : ByteArray} {p : Nat} {c : UInt8} {r : Bs} (h : From s p c r) (hlt : ¬ p + (word c r).length < s.size) : headLetter (r.dropWhile (goes (kind c))) = false := by
  rw [← h.behind, List.drop_eq_nil_of_le (by rw [size_list]; omega)]; rfl
theorem From.kind_call {s : ByteArray} {p : Nat} {c : UInt8} {r : Bs} (h : From s p c r) {k : Nat} (hk : kind c = k) : ∀ w, Calls Tryz.prog 46 #[.int .u8 c.toNat] w fun e w' => e = .returned (.int .i64 k) ∧ w' = w := by
  subst hk; exact kindOf_any c
theorem From.text_call {s : ByteArray} {p : Nat} {c : UInt8} {r : Bs} (h : From s p c r) {k : Nat} (hk : kind c = k) (hs : s.size ≤ 4096) : ∀ w, Calls Tryz.prog 47 #[.int .i64 k, .string (s.extract p s.size)] w fun e w' => e = .returned (.string (ba (word c r))) ∧ w' = w := by
  subst hk
  exact textOf_any (kind c) (kind_le c) _ c r h.cut (Nat.le_trans (cut_size s p) hs)
theorem From.word_le {s : ByteArray} {p : Nat} {c : UInt8} {r : Bs} (h : From s p c r) : p + (word c r).length ≤ s.size := by
  have := word_len c r
  have h2 := h.len
  simp at this; omega
theorem clone_call (x : Bs) (h : x.length ≤ 4096) : ∀ w, Calls Tryz.prog 51 #[.string (ba x)] w fun e w' => e = .returned (.string (ba x)) ∧ Below w.heap.size w w' := fun w => clone_any _ w (by rw [ba_size]; omega)
theorem wordAt_ok {s : ByteArray} {p : Nat} {c : UInt8} {r : Bs} (h : From s p c r) (hs : s.size ≤ 4096) (he : (one (c :: r)).err = 0) (w : World) :
    Calls Tryz.prog 35 #[.string s, .int .i64 p] w fun e w' => e = .returned (okV (one (c :: r)).kind (one (c :: r)).text (one (c :: r)).n p (one (c :: r)).len) ∧ Below w.heap.size w w' := by
  have hw := h.word_le
  have hL : (word c r).length ≤ 4096 := by omega
  rw [one_cons, oneC] at *
  by_cases h1 : kind c = 1
  · rw [if_pos h1] at *
    by_cases h2 : 2 ^ 63 ≤ val 0 (word c r)
    · rw [if_pos h2] at he; simp at he
    · rw [if_neg h2] at *
      cases h3 : headLetter (r.dropWhile (goes (kind c))) with
      | true => rw [h3, if_pos rfl] at he; simp at he
      | false =>
        rw [if_neg (by simp)]
        by_cases h4 : p + (word c r).length < s.size
        · have h5 := h.letter_on h4
          rw [h3] at h5
          have := wa_num_on s (ba (word c r)) p (word c r).length (val 0 (word c r)) c h.lt h.byte rfl hs h4 (by omega) (h.kind_call h1) (h.text_call h1 hs) (parse_fits c _ (word_digits h1) (Nat.lt_of_not_le h2) hL) (by rw [h5]; exact isLetter_any _) w
          exact this
        · have := wa_num_end s (ba (word c r)) p (word c r).length (val 0 (word c r)) c h.lt h.byte rfl hs (by omega) (by omega) (h.kind_call h1) (h.text_call h1 hs) (parse_fits c _ (word_digits h1) (Nat.lt_of_not_le h2) hL) w
          exact this
  · rw [if_neg h1] at *
    by_cases h2 : kind c = 2
    · rw [if_pos h2] at *
      by_cases h3 : 32 < (word c r).length
      · rw [if_pos h3] at he; simp at he
      · rw [if_neg h3]
        exact wa_name s (ba (word c r)) p (word c r).length c h.lt h.byte rfl hs (by omega) (h.kind_call h2) (h.text_call h2 hs) (clone_call _ hL) w
    · rw [if_neg h2] at *
      by_cases h3 : kind c = 3
      · rw [if_pos h3]
        exact wa_sign s (ba (word c r)) p (word c r).length c h.lt h.byte rfl hs (h.kind_call h3) (h.text_call h3 hs) (clone_call _ hL) w
      · rw [if_neg h3] at he; simp at he
theorem wordAt_bad {s : ByteArray} {p : Nat} {c : UInt8} {r : Bs} (h : From s p c r) (hs : s.size ≤ 4096) (he : (one (c :: r)).err ≠ 0) (w : World) (hw0 : Held w) :
    Calls Tryz.prog 35 #[.string s, .int .i64 p] w fun e w' => e = .returned (badV (one (c :: r)).err (p + (one (c :: r)).off)) ∧ Below w.heap.size w w' := by
  have hw := h.word_le
  have hL : (word c r).length ≤ 4096 := by omega
  rw [one_cons, oneC] at *
  by_cases h1 : kind c = 1
  · rw [if_pos h1] at *
    by_cases h2 : 2 ^ 63 ≤ val 0 (word c r)
    · rw [if_pos h2] at *
      exact wa_num_great s (ba (word c r)) p (word c r).length c h.lt h.byte rfl hs (h.kind_call h1) (h.text_call h1 hs) (fun w hw => parse_great c _ (word_digits h1) h2 hL w hw) w hw0
    · rw [if_neg h2] at *
      cases h3 : headLetter (r.dropWhile (goes (kind c))) with
      | false => rw [h3, if_neg (by simp)] at he; simp at he
      | true =>
        rw [if_pos rfl]
        by_cases h4 : p + (word c r).length < s.size
        · have h5 := h.letter_on h4
          rw [h3] at h5
          have := wa_num_letter s (ba (word c r)) p (word c r).length (val 0 (word c r)) c h.lt h.byte rfl hs h4 (by omega) (h.kind_call h1) (h.text_call h1 hs) (parse_fits c _ (word_digits h1) (Nat.lt_of_not_le h2) hL) (by rw [h5]; exact isLetter_any _) w
          exact this
        · rw [h.letter_end h4] at h3; simp at h3
  · rw [if_neg h1] at *
    by_cases h2 : kind c = 2
    · rw [if_pos h2] at *
      by_cases h3 : 32 < (word c r).length
      · rw [if_pos h3] at *
        exact wa_name_long s (ba (word c r)) p (word c r).length c h.lt h.byte rfl hs (by omega) (h.kind_call h2) (h.text_call h2 hs) w
      · rw [if_neg h3] at he; simp at he
    · rw [if_neg h2] at *
      by_cases h3 : kind c = 3
      · rw [if_pos h3] at he; simp at he
      · rw [if_neg h3]
        have h0 : kind c = 0 := by have := kind_le c; omega
        exact wa_none s (ba (word c r)) p (word c r).length c h.lt h.byte rfl hs (h.kind_call h0) (h.text_call h0 hs) w
end Go.Proofs.YtlfeejjlcclbdaaGreatDoor
