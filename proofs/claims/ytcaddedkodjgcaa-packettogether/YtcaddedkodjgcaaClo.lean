/-
  The document's long division, as plain mathematics: a row of bits that is divided in place leaves the remainder that the steps of a word leave.
-/
import Derived.Test.YtcaddedkodjgcaaCbi
namespace Go.Proofs.Ytcaddedkodjgcaa.Crc

/-- A text's bits, each byte's lowest first; noughts behind. -/
def M (l : List (BitVec 8)) (j : Nat) : Bool := if j < 8 * l.length then (nth l (j / 8)).getLsbD (j % 8) else false

/-- The divisor's bits, the highest power first. -/
def poly (k : Nat) : Bool := (0x104c11db7#33).getLsbD (32 - k)

/-- The row with its first bits turned. -/
def F2 (l : List (BitVec 8)) (i : Nat) (j : Nat) : Bool := if j < i then !M l j else M l j

/-- One step of the division at place i, as far as the divisor's k first bits. -/
def G (f : Nat → Bool) (i k : Nat) (j : Nat) : Bool := f j ^^ (decide (i ≤ j ∧ j < i + k) && poly (j - i))
def F3 (l : List (BitVec 8)) : Nat → Nat → Bool
  | 0 => F2 l 32
  | i + 1 => if F3 l i i then G (F3 l i) i 33 else F3 l i

/-- The remainder as a word, bit by bit. -/
def R (l : List (BitVec 8)) : Nat → BitVec 32
  | 0 => BitVec.allOnes 32
  | i + 1 => S (R l i ^^^ (if M l i then 1#32 else 0#32))

theorem poly_P (k : Nat) (h : k < 32) : poly (k + 1) = P.getLsbD k := by
  unfold poly P
  have : ∀ k : Fin 32, (0x104c11db7#33).getLsbD (32 - (k.1 + 1)) = (0xedb88320#32).getLsbD k.1 := by decide
  exact this ⟨k, h⟩
theorem poly_0 : poly 0 = true := by decide

theorem one_bit (c : Bool) (i : Nat) : (if c then 1#32 else 0#32).getLsbD i = (decide (i = 0) && c) := by
  cases c
  · simp
  · simp only [if_pos, Bool.and_true]
    cases i with
    | zero => rfl
    | succ i => simp [BitVec.getLsbD_one]

/-- What the row holds when i bits have been divided away. -/
theorem holds (l : List (BitVec 8)) (i : Nat) : (∀ k, k < 32 → F3 l i (i + k) = ((R l i).getLsbD k ^^ M l (i + k))) ∧ ∀ j, i + 32 ≤ j → F3 l i j = M l j := by
  induction i with
  | zero =>
    refine ⟨fun k hk => ?_, fun j hj => ?_⟩
    · simp only [F3, F2, R, Nat.zero_add, hk, if_true, BitVec.getLsbD_allOnes, decide_true, Bool.true_xor]
    · have : ¬ j < 32 := by omega
      simp [F3, F2, this]
  | succ i ih =>
    obtain ⟨h1, h2⟩ := ih
    have h0 := h1 0 (by omega)
    rw [Nat.add_zero] at h0
    have hR0 : (R l i ^^^ (if M l i then 1#32 else 0#32)).getLsbD 0 = F3 l i i := by
      rw [BitVec.getLsbD_xor, one_bit, h0]; simp
    refine ⟨fun k hk => ?_, fun j hj => ?_⟩
    · show (if F3 l i i then G (F3 l i) i 33 else F3 l i) (i + 1 + k) = _
      have hb : (R l (i + 1)).getLsbD k = ((R l i).getLsbD (k + 1) ^^ (F3 l i i && P.getLsbD k)) := by
        show (S _).getLsbD k = _
        rw [S_bit _ _ hk, hR0, BitVec.getLsbD_xor, one_bit]
        simp
      rw [hb, ← poly_P k hk]
      have hf : F3 l i (i + 1 + k) = ((R l i).getLsbD (k + 1) ^^ M l (i + 1 + k)) := by
        by_cases hk31 : k + 1 < 32
        · have := h1 (k + 1) hk31
          rw [show i + (k + 1) = i + 1 + k by omega] at this
          exact this
        · rw [h2 _ (by omega), BitVec.getLsbD_of_ge _ _ (by omega)]; simp
      cases hc : F3 l i i
      · simp [hf]
      · simp only [if_true, G, hf, Bool.true_and]
        rw [show i + 1 + k - i = k + 1 by omega, decide_eq_true (by omega)]
        cases (R l i).getLsbD (k + 1) <;> cases M l (i + 1 + k) <;> cases poly (k + 1) <;> rfl
    · show (if F3 l i i then G (F3 l i) i 33 else F3 l i) j = _
      rw [← h2 j (by omega)]
      cases F3 l i i
      · rfl
      · have : ¬ (i ≤ j ∧ j < i + 33) := by omega
        simp [G, this]

theorem byte_shift (b : BitVec 8) (t : Nat) (ht : t < 8) : b.setWidth 32 >>> t = (if b.getLsbD t then 1#32 else 0#32) ^^^ ((b.setWidth 32 >>> (t + 1)) <<< 1) := by
  apply BitVec.eq_of_getLsbD_eq
  intro i hi
  rw [BitVec.getLsbD_xor, one_bit, BitVec.getLsbD_shiftLeft, BitVec.getLsbD_ushiftRight, BitVec.getLsbD_ushiftRight, BitVec.getLsbD_setWidth, BitVec.getLsbD_setWidth]
  cases i with
  | zero => simp; omega
  | succ i =>
    have : t + 1 + i = t + (i + 1) := by omega
    simp [this, hi]

theorem S_up (b : BitVec 8) (t : Nat) : S ((b.setWidth 32 >>> (t + 1)) <<< 1) = b.setWidth 32 >>> (t + 1) := by
  rw [S_even]
  · apply BitVec.eq_of_getLsbD_eq
    intro i hi
    simp only [BitVec.getLsbD_ushiftRight, BitVec.getLsbD_shiftLeft, BitVec.getLsbD_setWidth]
    by_cases h : 1 + i < 32
    · simp [h]
    · have : b.getLsbD (t + 1 + i) = false := BitVec.getLsbD_of_ge _ _ (by omega)
      simp [this]
  · simp

theorem iter_succ' (n : Nat) (c : BitVec 32) : iter (n + 1) c = iter n (S c) := iter_add n 1 c

theorem R_byte (l : List (BitVec 8)) (i : Nat) (hi : i < l.length) (t : Nat) (ht : t ≤ 8) : iter (8 - t) (R l (8 * i + t) ^^^ ((nth l i).setWidth 32 >>> t)) = eat (R l (8 * i)) (nth l i) := by
  induction t with
  | zero => simp [eat]
  | succ t ih =>
    have ih := ih (by omega)
    rw [show 8 - t = 8 - (t + 1) + 1 by omega, iter_succ', byte_shift _ t (by omega), ← BitVec.xor_assoc, S_xor, S_up] at ih
    rw [← ih]
    congr 2
    show R l (8 * i + t + 1) = _
    have hm : M l (8 * i + t) = (nth l i).getLsbD t := by
      unfold M
      rw [if_pos (by omega), show (8 * i + t) / 8 = i by omega, show (8 * i + t) % 8 = t by omega]
    rw [R, hm]

theorem R_upd (l : List (BitVec 8)) (i : Nat) (hi : i ≤ l.length) : R l (8 * i) = upd (BitVec.allOnes 32) (l.take i) := by
  induction i with
  | zero => rfl
  | succ i ih =>
    have h := R_byte l i (by omega) 8 (by omega)
    have hz : (nth l i).setWidth 32 >>> 8 = 0#32 := by
      apply BitVec.eq_of_getLsbD_eq
      intro j hj
      rw [BitVec.getLsbD_ushiftRight, BitVec.getLsbD_setWidth, BitVec.getLsbD_of_ge (nth l i) (8 + j) (by omega)]
      simp
    rw [hz, ih (by omega)] at h
    rw [show 8 * (i + 1) = 8 * i + 8 by omega]
    simp only [Nat.sub_self, iter, BitVec.xor_zero] at h
    rw [h, List.take_succ_eq_append_getElem (by omega), upd_append]
    simp [upd, nth, show i < l.length by omega]

/-- The sum read off the row's end. -/
def read (f : Nat → Bool) (n : Nat) : Nat → BitVec 32
  | 0 => 0#32
  | i + 1 => if f (n + i) then read f n i else read f n i ||| (1#32 <<< i)

theorem read_bit (f : Nat → Bool) (n i : Nat) (hi : i ≤ 32) (k : Nat) (hk : k < 32) : (read f n i).getLsbD k = (decide (k < i) && !f (n + k)) := by
  induction i with
  | zero => simp [read]
  | succ i ih =>
    have ih := ih (by omega)
    unfold read
    have h1 : ((1#32 <<< i).getLsbD k) = decide (k = i) := by
      rw [BitVec.getLsbD_shiftLeft, BitVec.getLsbD_one]
      by_cases h : k = i
      · subst h; simp [hk]
      · by_cases h2 : k < i
        · simp [h2]; omega
        · have e1 : decide (k = i) = false := by simp [h]
          have e2 : decide (k - i = 0) = false := by simp; omega
          rw [e1, e2]; simp
    cases hf : f (n + i)
    · simp only [Bool.false_eq_true, if_false]
      rw [BitVec.getLsbD_or, ih, h1]
      by_cases h : k = i
      · subst h; simp [hf]
      · by_cases h2 : k < i
        · simp [h2, h, show k < i + 1 by omega]
        · simp [h2, h, show ¬ (k < i + 1) by omega]
    · simp only [if_true]
      rw [ih]
      by_cases h : k = i
      · subst h; simp [hf]
      · by_cases h2 : k < i
        · simp [h2, show k < i + 1 by omega]
        · simp [h2, show ¬ (k < i + 1) by omega]

/-- THE LONG DIVISION's SUM IS THE WORD's. -/
theorem read_sum (l : List (BitVec 8)) : read (F3 l (8 * l.length)) (8 * l.length) 32 = sum l := by
  unfold sum go
  rw [show ~~~ 0#32 = BitVec.allOnes 32 by decide]
  have hR := R_upd l l.length (Nat.le_refl _)
  rw [List.take_length] at hR
  rw [← hR]
  apply BitVec.eq_of_getLsbD_eq
  intro k hk
  rw [read_bit _ _ _ (Nat.le_refl _) k hk, BitVec.getLsbD_not, (holds l (8 * l.length)).1 k hk]
  have : M l (8 * l.length + k) = false := by unfold M; rw [if_neg (by omega)]
  simp [hk, this]

end Go.Proofs.Ytcaddedkodjgcaa.Crc
