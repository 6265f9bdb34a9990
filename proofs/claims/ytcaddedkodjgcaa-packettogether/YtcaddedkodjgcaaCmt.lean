/-
  The remainder of the long division, as plain mathematics over words of 32 bits: one step, eight steps a byte, that a step is linear and loses nothing. It imports nothing of the program.
-/
namespace Go.Proofs.Ytcaddedkodjgcaa.Crc

/-- The divisor, its power 31 the lowest bit. -/
def P : BitVec 32 := 0xedb88320#32

/-- One bit divided away. -/
def S (c : BitVec 32) : BitVec 32 := (c >>> 1) ^^^ (if c.getLsbD 0 then P else 0#32)

def iter : Nat → BitVec 32 → BitVec 32
  | 0, c => c
  | n + 1, c => S (iter n c)

/-- One byte. -/
def eat (r : BitVec 32) (b : BitVec 8) : BitVec 32 := iter 8 (r ^^^ b.setWidth 32)

/-- A row of bytes. -/
def upd (r : BitVec 32) (l : List (BitVec 8)) : BitVec 32 := l.foldl eat r

/-- The sum that goes on; the sum. -/
def go (s : BitVec 32) (l : List (BitVec 8)) : BitVec 32 := ~~~ upd (~~~ s) l
def sum (l : List (BitVec 8)) : BitVec 32 := go 0#32 l

theorem upd_append (r : BitVec 32) (a b : List (BitVec 8)) : upd r (a ++ b) = upd (upd r a) b := by simp [upd]

theorem go_sum (a b : List (BitVec 8)) : go (sum a) b = sum (a ++ b) := by
  simp [sum, go, upd_append]

theorem S_bit (c : BitVec 32) (i : Nat) (_ : i < 32) : (S c).getLsbD i = (c.getLsbD (i + 1) ^^ (c.getLsbD 0 && P.getLsbD i)) := by
  unfold S
  cases h : c.getLsbD 0 <;> simp [BitVec.getLsbD_ushiftRight, Nat.add_comm]

theorem S_xor (a b : BitVec 32) : S (a ^^^ b) = S a ^^^ S b := by
  apply BitVec.eq_of_getLsbD_eq
  intro i hi
  rw [BitVec.getLsbD_xor, S_bit _ _ hi, S_bit _ _ hi, S_bit _ _ hi, BitVec.getLsbD_xor, BitVec.getLsbD_xor]
  cases a.getLsbD 0 <;> cases b.getLsbD 0 <;> cases a.getLsbD (i+1) <;> cases b.getLsbD (i+1) <;> cases P.getLsbD i <;> rfl

theorem iter_xor (n : Nat) (a b : BitVec 32) : iter n (a ^^^ b) = iter n a ^^^ iter n b := by
  induction n with
  | zero => rfl
  | succ n ih => simp [iter, ih, S_xor]

theorem iter_add (m n : Nat) (c : BitVec 32) : iter (m + n) c = iter m (iter n c) := by
  induction m with
  | zero => simp [iter]
  | succ m ih => rw [Nat.add_right_comm]; simp [iter, ih]

theorem xor_cancel {a b : BitVec 32} (h : a ^^^ b = 0#32) : a = b := by
  have : a ^^^ b ^^^ b = 0#32 ^^^ b := by rw [h]
  simpa [BitVec.xor_assoc] using this

theorem S_zero {z : BitVec 32} (h : S z = 0#32) : z = 0#32 := by
  have h31 := S_bit z 31 (by omega)
  rw [h] at h31
  have hP : P.getLsbD 31 = true := by decide
  have h32 : z.getLsbD 32 = false := BitVec.getLsbD_of_ge _ _ (by omega)
  rw [hP, h32] at h31
  have h0 : z.getLsbD 0 = false := by simpa using h31.symm
  apply BitVec.eq_of_getLsbD_eq
  intro i hi
  cases i with
  | zero => simpa using h0
  | succ i =>
    have hb := S_bit z i (by omega)
    rw [h, h0] at hb
    simpa using hb.symm

theorem S_inj {a b : BitVec 32} (h : S a = S b) : a = b := by
  apply xor_cancel
  apply S_zero
  rw [S_xor, h, BitVec.xor_self]

theorem iter_inj (n : Nat) {a b : BitVec 32} (h : iter n a = iter n b) : a = b := by
  induction n with
  | zero => exact h
  | succ n ih => exact ih (S_inj h)

theorem eat_inj {a b : BitVec 32} {x : BitVec 8} (h : eat a x = eat b x) : a = b := by
  have h1 := iter_inj 8 h
  have : a ^^^ x.setWidth 32 ^^^ x.setWidth 32 = b ^^^ x.setWidth 32 ^^^ x.setWidth 32 := by rw [h1]
  simpa [BitVec.xor_assoc] using this

theorem upd_inj (l : List (BitVec 8)) : ∀ {a b : BitVec 32}, upd a l = upd b l → a = b := by
  induction l with
  | nil => intro a b h; exact h
  | cons x l ih => intro a b h; exact eat_inj (ih (a := eat a x) (b := eat b x) h)

/-- Three rows of one length, blended. -/
theorem eat_three (a b c : BitVec 32) (x y z : BitVec 8) : eat (a ^^^ b ^^^ c) (x ^^^ y ^^^ z) = eat a x ^^^ eat b y ^^^ eat c z := by
  unfold eat
  rw [← iter_xor, ← iter_xor]
  congr 1
  apply BitVec.eq_of_getLsbD_eq
  intro i hi
  simp only [BitVec.getLsbD_xor, BitVec.getLsbD_setWidth]
  by_cases h8 : i < 32
  · simp only [h8, decide_true, Bool.true_and]
    cases a.getLsbD i <;> cases b.getLsbD i <;> cases c.getLsbD i <;> cases x.getLsbD i <;> cases y.getLsbD i <;> cases z.getLsbD i <;> rfl
  · omega

def blend : List (BitVec 8) → List (BitVec 8) → List (BitVec 8) → List (BitVec 8)
  | x :: a, y :: b, z :: c => (x ^^^ y ^^^ z) :: blend a b c
  | _, _, _ => []

theorem upd_blend : ∀ (l m n : List (BitVec 8)) (a b c : BitVec 32), l.length = m.length → m.length = n.length →
    upd (a ^^^ b ^^^ c) (blend l m n) = upd a l ^^^ upd b m ^^^ upd c n
  | [], [], [], a, b, c, _, _ => rfl
  | x :: l, y :: m, z :: n, a, b, c, h1, h2 => by
    have := upd_blend l m n (eat a x) (eat b y) (eat c z) (by simpa using h1) (by simpa using h2)
    simp only [blend, upd, List.foldl_cons]
    rw [eat_three]
    exact this

theorem not_three (x y z : BitVec 32) : ~~~ x ^^^ ~~~ y ^^^ ~~~ z = ~~~ (x ^^^ y ^^^ z) := by
  apply BitVec.eq_of_getLsbD_eq
  intro i hi
  simp only [BitVec.getLsbD_xor, BitVec.getLsbD_not, hi, decide_true, Bool.true_and]
  cases x.getLsbD i <;> cases y.getLsbD i <;> cases z.getLsbD i <;> rfl

theorem sum_blend (l m n : List (BitVec 8)) (h1 : l.length = m.length) (h2 : m.length = n.length) : sum l ^^^ sum m ^^^ sum n = sum (blend l m n) := by
  unfold sum go
  rw [not_three, ← upd_blend l m n _ _ _ h1 h2]
  congr 1

theorem blend_length : ∀ (l m n : List (BitVec 8)), l.length = m.length → m.length = n.length → (blend l m n).length = l.length
  | [], [], [], _, _ => rfl
  | x :: l, y :: m, z :: n, h1, h2 => by
    have := blend_length l m n (by simpa using h1) (by simpa using h2)
    simp [blend, this]

/-- Noughts below are shifted out. -/
theorem S_even (z : BitVec 32) (h : z.getLsbD 0 = false) : S z = z >>> 1 := by unfold S; rw [h]; simp

theorem iter_shift (n : Nat) : ∀ (z : BitVec 32), (∀ i, i < n → z.getLsbD i = false) → iter n z = z >>> n := by
  induction n with
  | zero => intro z _; simp [iter]
  | succ n ih =>
    intro z hz
    rw [iter, ih z (fun i hi => hz i (by omega)), S_even]
    · rw [← BitVec.shiftRight_add]
    · rw [BitVec.getLsbD_ushiftRight]; exact hz _ (by omega)

/-- Four bytes, the lowest first, as a word. -/
def word (b0 b1 b2 b3 : BitVec 8) : BitVec 32 := b0.setWidth 32 ^^^ (b1.setWidth 32 <<< 8) ^^^ (b2.setWidth 32 <<< 16) ^^^ (b3.setWidth 32 <<< 24)

theorem iter_up (n : Nat) (b : BitVec 8) (hn : n ≤ 24) : iter n (b.setWidth 32 <<< n) = b.setWidth 32 := by
  rw [iter_shift]
  · apply BitVec.eq_of_getLsbD_eq
    intro i hi
    simp only [BitVec.getLsbD_ushiftRight, BitVec.getLsbD_shiftLeft, BitVec.getLsbD_setWidth, hi, decide_true, Bool.true_and]
    by_cases h : n + i < 32
    · have e1 : ¬ (n + i < n) := by omega
      have e2 : n + i - n = i := by omega
      simp [h, e2, hi]
    · have : b.getLsbD i = false := BitVec.getLsbD_of_ge _ _ (by omega)
      simp [this]
  · intro i hi
    simp [BitVec.getLsbD_shiftLeft, hi]

theorem eat_four (r : BitVec 32) (b0 b1 b2 b3 : BitVec 8) : upd r [b0, b1, b2, b3] = iter 32 (r ^^^ word b0 b1 b2 b3) := by
  have e3 : iter 32 (b3.setWidth 32 <<< 24) = iter 8 (b3.setWidth 32) := by
    exact (iter_add 8 24 _).trans (by rw [iter_up 24 b3 (by omega)])
  have e2 : iter 32 (b2.setWidth 32 <<< 16) = iter 16 (b2.setWidth 32) := by
    exact (iter_add 16 16 _).trans (by rw [iter_up 16 b2 (by omega)])
  have e1 : iter 32 (b1.setWidth 32 <<< 8) = iter 24 (b1.setWidth 32) := by
    exact (iter_add 24 8 _).trans (by rw [iter_up 8 b1 (by omega)])
  simp only [upd, List.foldl_cons, List.foldl_nil, eat, word, iter_xor, ← iter_add, e1, e2, e3, BitVec.xor_assoc, Nat.reduceAdd]

theorem word_of (s : BitVec 32) : word (s.setWidth 8) ((s >>> 8).setWidth 8) ((s >>> 16).setWidth 8) ((s >>> 24).setWidth 8) = s := by
  apply BitVec.eq_of_getLsbD_eq
  intro i hi
  unfold word
  simp only [BitVec.getLsbD_xor, BitVec.getLsbD_shiftLeft, BitVec.getLsbD_setWidth, BitVec.getLsbD_ushiftRight, hi, decide_true, Bool.true_and]
  by_cases h1 : i < 8
  · simp [h1, show i < 16 by omega, show i < 24 by omega]
  · by_cases h2 : i < 16
    · simp [h1, h2, show i < 24 by omega, show i - 8 < 8 by omega, show i - 8 < 32 by omega, show 8 + (i - 8) = i by omega]
    · by_cases h3 : i < 24
      · simp [h1, h2, h3, show ¬ (i - 8 < 8) by omega, show i - 16 < 8 by omega, show i - 16 < 32 by omega, show 16 + (i - 16) = i by omega]
      · simp [h1, h2, h3, show ¬ (i - 8 < 8) by omega, show ¬ (i - 16 < 8) by omega, show i - 24 < 8 by omega, show i - 24 < 32 by omega, show 24 + (i - 24) = i by omega]

theorem ends (s : BitVec 32) : go s [s.setWidth 8, (s >>> 8).setWidth 8, (s >>> 16).setWidth 8, (s >>> 24).setWidth 8] = 0x2144df1c#32 := by
  unfold go
  rw [eat_four, word_of]
  have : ~~~ s ^^^ s = BitVec.allOnes 32 := by
    apply BitVec.eq_of_getLsbD_eq
    intro i hi
    simp only [BitVec.getLsbD_xor, BitVec.getLsbD_not, BitVec.getLsbD_allOnes, hi, decide_true, Bool.true_and]
    cases s.getLsbD i <;> rfl
  rw [this]
  decide +kernel

/-- Four bytes turned by a burst that is not 0 turn the sum. -/
theorem tells (p q : List (BitVec 8)) (b0 b1 b2 b3 c0 c1 c2 c3 : BitVec 8) (h : word b0 b1 b2 b3 ≠ word c0 c1 c2 c3) :
    sum (p ++ [b0, b1, b2, b3] ++ q) ≠ sum (p ++ [c0, c1, c2, c3] ++ q) := by
  intro e
  unfold sum go at e
  rw [BitVec.not_inj, upd_append, upd_append, upd_append, upd_append] at e
  have e1 := upd_inj q e
  rw [eat_four, eat_four] at e1
  have e2 := iter_inj 32 e1
  apply h
  generalize upd (~~~0#32) p = r at e2
  have e3 : r ^^^ (r ^^^ word b0 b1 b2 b3) = r ^^^ (r ^^^ word c0 c1 c2 c3) := by rw [e2]
  simpa [← BitVec.xor_assoc] using e3

theorem works : sum [49#8, 50#8, 51#8, 52#8, 53#8, 54#8, 55#8, 56#8, 57#8] = 0xcbf43926#32 := by decide +kernel

end Go.Proofs.Ytcaddedkodjgcaa.Crc
