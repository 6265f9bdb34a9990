/-
  Whole numbers as doubles: which words stand for a whole number, and what sum, difference, product, order and the cut to an integer give of such words. Plain mathematics over the model's floats.
-/
import Derived.Laws.ComplexArith
namespace Go.Proofs.Ytakahpfeajjaaaa
open Ieee

/-- The number 'mag * 2 ^ place' is the whole number k. -/
def Mag (m : Nat) (p : Int) (k : Nat) : Prop := ∃ H : Nat, m * 2 ^ (p + H).toNat = k * 2 ^ H ∧ -H ≤ p

def sg (s : Bool) (k : Nat) : Int := if s then -(k : Int) else (k : Int)

/-- The word b stands for the whole number n (a nought of either sign for 0). -/
def Is (b : Nat) (n : Int) : Prop := ∃ s m p k, double.read b = .number s m p ∧ -1074 ≤ p ∧ p ≤ 1000 ∧ Mag m p k ∧ n = sg s k

theorem sw : double.signWeight = 9223372036854775808 := by decide
theorem bn : double.binade = 4503599627370496 := by decide
theorem ir : double.infRung = 9218868437227405312 := by decide
theorem lp : double.leastPlace = -1074 := by decide
theorem fb : double.fractionBits = 52 := rfl

theorem pow_cancel {a b c : Nat} (h : a * 2 ^ c = b * 2 ^ c) : a = b := Nat.eq_of_mul_eq_mul_right (Nat.two_pow_pos c) h

/-- Where the place is not below 0. -/
theorem mag_up {m k : Nat} {p : Int} (h : Mag m p k) (hp : 0 ≤ p) : k = m * 2 ^ p.toNat := by
  obtain ⟨H, e, _⟩ := h
  have : (p + H).toNat = p.toNat + H := by omega
  rw [this, Nat.pow_add, ← Nat.mul_assoc] at e
  exact (pow_cancel e).symm
theorem mag_down {m k : Nat} {p : Int} (h : Mag m p k) (hp : p ≤ 0) : m = k * 2 ^ (-p).toNat := by
  obtain ⟨H, e, hq⟩ := h
  have h1 : k * 2 ^ H = k * 2 ^ (-p).toNat * 2 ^ (p + H).toNat := by
    rw [Nat.mul_assoc, ← Nat.pow_add]; congr 2; omega
  rw [h1] at e
  exact pow_cancel e
theorem mag_of_up {m : Nat} {p : Int} (hp : 0 ≤ p) : Mag m p (m * 2 ^ p.toNat) := by
  refine ⟨0, ?_, by omega⟩
  simp
theorem mag_of_down {k : Nat} {p : Int} (hp : p ≤ 0) : Mag (k * 2 ^ (-p).toNat) p k := by
  refine ⟨(-p).toNat, ?_, by omega⟩
  have : (p + (-p).toNat).toNat = 0 := by omega
  rw [this]; simp
theorem mag_nought (p : Int) : Mag 0 p 0 := ⟨(-p).toNat, by rw [Nat.zero_mul, Nat.zero_mul], by omega⟩
theorem mag_zero {m k : Nat} {p : Int} (h : Mag m p k) : m = 0 ↔ k = 0 := by
  obtain ⟨H, e, _⟩ := h
  have h1 := Nat.two_pow_pos H
  have h2 := Nat.two_pow_pos (p + H).toNat
  constructor
  · rintro rfl
    rw [Nat.zero_mul] at e
    rcases Nat.mul_eq_zero.1 e.symm with e | e <;> omega
  · rintro rfl
    rw [Nat.zero_mul] at e
    rcases Nat.mul_eq_zero.1 e with e | e <;> omega

theorem cut_none (way : Toward) (neg : Bool) (n : Nat) : way.cut neg n 0 = n := by
  unfold Toward.cut
  cases way <;> simp [Nat.mod_one]

theorem log2_shift (k d : Nat) (hk : k ≠ 0) : (k * 2 ^ d).log2 = k.log2 + d := by
  have h0 : k * 2 ^ d ≠ 0 := by
    have := Nat.two_pow_pos d
    exact Nat.ne_of_gt (Nat.mul_pos (Nat.pos_of_ne_zero hk) this)
  rw [Nat.log2_eq_iff h0]
  have a := (Nat.log2_eq_iff hk).1 rfl
  have := Nat.two_pow_pos d
  constructor
  · rw [Nat.pow_add]; exact Nat.mul_le_mul_right _ a.1
  · have e : k.log2 + d + 1 = (k.log2 + 1) + d := by omega
    rw [e, Nat.pow_add]; exact Nat.mul_lt_mul_of_pos_right a.2 this

theorem cut_whole (way : Toward) (neg : Bool) (k d : Nat) : way.cut neg (k * 2 ^ d) d = k := by
  by_cases hk : k = 0
  · subst hk
    unfold Toward.cut
    cases way <;> simp
  · have hm : min d ((k * 2 ^ d).log2 + 2) = d := by rw [log2_shift k d hk]; omega
    have hp := Nat.two_pow_pos d
    unfold Toward.cut
    simp only [hm, Nat.one_shiftLeft, Nat.mul_div_cancel _ hp, Nat.mul_mod_left]
    cases way <;> simp

theorem read_word (s : Bool) (r : Nat) (h : r < 9218868437227405312) (hb : 4503599627370496 ≤ r) :
    double.read (double.word s r) = .number s (4503599627370496 + r % 4503599627370496) (-1074 + (r / 4503599627370496 - 1 : Nat)) := by
  have hneg : (double.word s r / 9223372036854775808 % 2 == 1) = s := by
    unfold Format.word; rw [sw]
    cases s
    · simp; omega
    · simp; omega
  have hr : double.word s r % 9223372036854775808 = r := by
    unfold Format.word; rw [sw]
    cases s
    · simp; omega
    · simp; omega
  unfold Format.read
  simp only [sw, bn, ir, lp, hneg, hr]
  rw [if_neg (by omega), if_pos h]

theorem read_zero (s : Bool) : double.read (double.word s 0) = .number s 0 (-1074) := by cases s <;> decide

theorem rung_bits (L K : Nat) (hL : L ≤ 52) (h1 : 2 ^ 52 ≤ K) (h2 : K < 2 ^ 53) :
    min ((1022 + L) * 4503599627370496 + K) 9218868437227405312 = (1022 + L) * 4503599627370496 + K ∧
    (1022 + L) * 4503599627370496 + K < 9218868437227405312 ∧ 4503599627370496 ≤ (1022 + L) * 4503599627370496 + K ∧
    4503599627370496 + ((1022 + L) * 4503599627370496 + K) % 4503599627370496 = K ∧
    ((1022 + L) * 4503599627370496 + K) / 4503599627370496 = 1023 + L := by
  have h1' : 4503599627370496 ≤ K := h1
  have h2' : K < 9007199254740992 := h2
  clear h1 h2
  obtain ⟨R, rfl⟩ : ∃ R, K = 4503599627370496 + R := ⟨K - 4503599627370496, by omega⟩
  have hR : R < 4503599627370496 := by omega
  have hm : (1022 + L) * 4503599627370496 ≤ 1074 * 4503599627370496 := Nat.mul_le_mul_right _ (by omega)
  have e : (1022 + L) * 4503599627370496 + (4503599627370496 + R) = R + 4503599627370496 * (1023 + L) := by
    rw [Nat.mul_comm 4503599627370496 (1023 + L), show 1023 + L = (1022 + L) + 1 from by omega, Nat.add_mul]; omega
  have hlt : (1022 + L) * 4503599627370496 + (4503599627370496 + R) < 9218868437227405312 := by
    refine Nat.lt_of_le_of_lt (Nat.add_le_add_right hm _) ?_
    omega
  refine ⟨Nat.min_eq_left (Nat.le_of_lt hlt), hlt, ?_, ?_, ?_⟩
  · exact Nat.le_trans (Nat.le_add_right 4503599627370496 R) (Nat.le_add_left _ _)
  · rw [e, Nat.add_mul_mod_self_left, Nat.mod_eq_of_lt hR]
  · rw [e, Nat.add_mul_div_left _ _ (by omega), Nat.div_eq_of_lt hR]; omega

theorem nearest_is (s : Bool) (m : Nat) (p : Int) (k : Nat) (h : Mag m p k) (hk : k < 2 ^ 53) : Is (double.nearest s m p) (sg s k) := by
  by_cases h0 : m = 0
  · subst h0
    have : k = 0 := (mag_zero h).1 rfl
    subst this
    unfold Format.nearest
    rw [if_pos rfl]
    exact ⟨s, 0, -1074, 0, read_zero s, by omega, by omega, mag_nought _, rfl⟩
  · have hk0 : k ≠ 0 := fun e => h0 ((mag_zero h).2 e)
    have hlog : p + (m.log2 : Int) = k.log2 := by
      rcases Int.le_total 0 p with hp | hp
      · have e := mag_up h hp
        rw [e, log2_shift m _ h0]; omega
      · have e := mag_down h hp
        rw [e, log2_shift k _ hk0]; omega
    have hL : k.log2 ≤ 52 := by
      have := (Nat.log2_lt hk0).2 hk
      omega
    have hlo := (Nat.log2_eq_iff hk0).1 rfl
    generalize hLL : k.log2 = L at *
    have hlast : max (p + (m.log2 : Int) - (double.fractionBits : Int)) (-1074) = (L : Int) - 52 := by
      rw [fb, hlog]; omega
    have hK1 : 2 ^ 52 ≤ k * 2 ^ (52 - L) := by
      have : (2 : Nat) ^ 52 = 2 ^ L * 2 ^ (52 - L) := by rw [← Nat.pow_add]; congr 1; omega
      rw [this]; exact Nat.mul_le_mul_right _ hlo.1
    have hK2 : k * 2 ^ (52 - L) < 2 ^ 53 := by
      have : (2 : Nat) ^ 53 = 2 ^ (L + 1) * 2 ^ (52 - L) := by rw [← Nat.pow_add]; congr 1; omega
      rw [this]; exact Nat.mul_lt_mul_of_pos_right hlo.2 (Nat.two_pow_pos _)
    have hkept : Toward.even.cut s (m <<< (p - ((L : Int) - 52)).toNat) (((L : Int) - 52) - p).toNat = k * 2 ^ (52 - L) := by
      rw [Nat.shiftLeft_eq]
      rcases Int.le_total ((L : Int) - 52) p with hp | hp
      · have e0 : (((L : Int) - 52) - p).toNat = 0 := by omega
        rw [e0, cut_none]
        rcases Int.le_total 0 p with hq | hq
        · rw [mag_up h hq, Nat.mul_assoc, ← Nat.pow_add]; congr 2; omega
        · rw [mag_down h hq, Nat.mul_assoc, ← Nat.pow_add]; congr 2; omega
      · have e0 : (p - ((L : Int) - 52)).toNat = 0 := by omega
        rw [e0, Nat.pow_zero, Nat.mul_one]
        have e1 : m = k * 2 ^ (52 - L) * 2 ^ (((L : Int) - 52) - p).toNat := by
          rw [mag_down h (by omega), Nat.mul_assoc, ← Nat.pow_add]; congr 2; omega
        rw [e1, cut_whole]
    unfold Format.nearest
    rw [if_neg h0]
    simp only [lp, bn, ir]
    simp only [hlast, hkept]
    have ht : ((L : Int) - 52 - -1074).toNat = 1022 + L := by omega
    rw [ht]
    generalize hKK : k * 2 ^ (52 - L) = K at *
    obtain ⟨f1, f2, f3, f4, f5⟩ := rung_bits L K hL hK1 hK2
    rw [f1]
    refine ⟨s, _, _, k, read_word s _ f2 f3, ?_, ?_, ?_, rfl⟩
    · rw [f5]; omega
    · rw [f5]; omega
    · rw [f4, f5, ← hKK]
      have e2 : -1074 + ((1023 + L - 1 : Nat) : Int) = -(((52 - L : Nat) : Int)) := by omega
      rw [e2]
      have := mag_of_down (k := k) (p := -(((52 - L : Nat) : Int))) (by omega)
      simpa using this

theorem ofInt_is (n : Int) (h : n.natAbs < 2 ^ 53) : Is (floatOfInt .f64 n) n := by
  have := nearest_is (decide (n < 0)) n.natAbs 0 n.natAbs ⟨0, by simp, by omega⟩ h
  have e : sg (decide (n < 0)) n.natAbs = n := by
    unfold sg
    by_cases hn : n < 0 <;> simp [hn] <;> omega
  rw [e] at this
  exact this

theorem signed_eq (s : Bool) (m u : Nat) : signed s m u = sg s (m * 2 ^ u) := by
  unfold signed sg; rw [Nat.shiftLeft_eq]
theorem sg_mul (s : Bool) (a b : Nat) : sg s (a * b) = sg s a * (b : Int) := by
  unfold sg; split <;> simp [Int.neg_mul]

/-- A number's mantissa seen from a place b that is not above: its whole number, times 2^(-b). -/
theorem signed_base {s : Bool} {m k : Nat} {p b : Int} (h : Mag m p k) (hb : b ≤ p) (hb0 : b ≤ 0) : signed s m (p - b).toNat = sg s k * ((2 ^ (-b).toNat : Nat) : Int) := by
  rw [signed_eq, ← sg_mul]
  congr 1
  rcases Int.le_total 0 p with hp | hp
  · rw [mag_up h hp, Nat.mul_assoc, ← Nat.pow_add]; congr 2; omega
  · rw [mag_down h hp, Nat.mul_assoc, ← Nat.pow_add]; congr 2; omega

theorem sg_false (k : Nat) : sg false k = k := rfl
theorem sg_natAbs (n : Int) (s : Bool) (h : n ≠ 0 → s = decide (n < 0)) : sg s n.natAbs = n := by
  by_cases hn : n = 0
  · subst hn; unfold sg; simp
  · rw [h hn]; unfold sg
    by_cases h2 : n < 0 <;> simp [h2] <;> omega
theorem sg_abs (s : Bool) (k : Nat) : (sg s k).natAbs = k := by unfold sg; split <;> omega

/-- The sum of two data that stand for whole numbers. -/
theorem sum_is {s t : Bool} {m n k l : Nat} {p q : Int} (h : Mag m p k) (g : Mag n q l) (hp : -1074 ≤ p) (hq : -1074 ≤ q) (hs : (sg s k + sg t l).natAbs < 2 ^ 53) :
    ∃ r, ((Datum.number s m p).sum (.number t n q)).map double.write = some r ∧ Is r (sg s k + sg t l) := by
  refine ⟨_, rfl, ?_⟩
  simp only [Format.write]
  by_cases hb0 : min p q ≤ 0
  · have e1 := signed_base (s := s) h (b := min p q) (by omega) hb0
    have e2 := signed_base (s := t) g (b := min p q) (by omega) hb0
    rw [e1, e2, ← Int.add_mul]
    generalize hN : sg s k + sg t l = N at *
    have hpos : (0 : Int) < ((2 ^ (-(min p q)).toNat : Nat) : Int) := by
      have := Nat.two_pow_pos (-(min p q)).toNat
      omega
    generalize hF : (2 ^ (-(min p q)).toNat : Nat) = F at *
    have hna : (N * (F : Int)).natAbs = N.natAbs * F := by rw [Int.natAbs_mul]; simp
    have hM : Mag (N.natAbs * F) (min p q) N.natAbs := by rw [← hF]; exact mag_of_down hb0
    rw [hna]
    have := nearest_is (if N * (F : Int) = 0 then s && t else decide (N * (F : Int) < 0)) _ _ _ hM hs
    rw [sg_natAbs] at this
    · exact this
    · intro hn
      rw [if_neg (by intro h0; rcases Int.mul_eq_zero.1 h0 with e | e <;> omega)]
      congr 1
      apply propext
      constructor
      · intro h1
        refine Int.lt_of_not_ge fun h2 => ?_
        have := Int.mul_nonneg h2 (Int.le_of_lt hpos); omega
      · intro h1; exact Int.mul_neg_of_neg_of_pos h1 hpos
  · -- both places above 0
    have hp0 : 0 ≤ p := by omega
    have hq0 : 0 ≤ q := by omega
    have e1 : signed s m (p - min p q).toNat * ((2 ^ (min p q).toNat : Nat) : Int) = sg s k := by
      rw [signed_eq, ← sg_mul, mag_up h hp0, Nat.mul_assoc, ← Nat.pow_add]; congr 3; omega
    have e2 : signed t n (q - min p q).toNat * ((2 ^ (min p q).toNat : Nat) : Int) = sg t l := by
      rw [signed_eq, ← sg_mul, mag_up g hq0, Nat.mul_assoc, ← Nat.pow_add]; congr 3; omega
    rw [← e1, ← e2, ← Int.add_mul] at hs ⊢
    generalize signed s m (p - min p q).toNat + signed t n (q - min p q).toNat = N at *
    have hpos : (0 : Int) < ((2 ^ (min p q).toNat : Nat) : Int) := by
      have := Nat.two_pow_pos (min p q).toNat
      omega
    have hM : Mag N.natAbs (min p q) (N.natAbs * 2 ^ (min p q).toNat) := mag_of_up (by omega)
    have hna : (N * ((2 ^ (min p q).toNat : Nat) : Int)).natAbs = N.natAbs * 2 ^ (min p q).toNat := by rw [Int.natAbs_mul]; simp
    rw [hna] at hs
    have := nearest_is (if N = 0 then s && t else decide (N < 0)) _ _ _ hM hs
    rw [sg_mul, sg_natAbs] at this
    · exact this
    · intro hn; rw [if_neg hn]

theorem add_is {x y : Nat} {a b : Int} (hx : Is x a) (hy : Is y b) (h : (a + b).natAbs < 2 ^ 53) : ∃ r, floatBits .add .f64 x y = some r ∧ Is r (a + b) := by
  obtain ⟨s, m, p, k, e1, hp, _, hm, rfl⟩ := hx
  obtain ⟨t, n, q, l, e2, hq, _, hn, rfl⟩ := hy
  have := sum_is hm hn hp hq h
  unfold floatBits
  simp only [FloatKind.format, Format.add, e1, e2]
  exact this
theorem sg_not (s : Bool) (k : Nat) : sg (!s) k = - sg s k := by cases s <;> simp [sg]
theorem sub_is {x y : Nat} {a b : Int} (hx : Is x a) (hy : Is y b) (h : (a - b).natAbs < 2 ^ 53) : ∃ r, floatBits .sub .f64 x y = some r ∧ Is r (a - b) := by
  obtain ⟨s, m, p, k, e1, hp, _, hm, rfl⟩ := hx
  obtain ⟨t, n, q, l, e2, hq, _, hn, rfl⟩ := hy
  have := sum_is (s := s) (t := !t) hm hn hp hq (by rw [sg_not]; rwa [← Int.sub_eq_add_neg])
  rw [sg_not, ← Int.sub_eq_add_neg] at this
  unfold floatBits
  simp only [FloatKind.format, Format.sub, e1, e2, Datum.opposite]
  exact this
theorem sg_xor (s t : Bool) (k l : Nat) : sg (s ^^ t) (k * l) = sg s k * sg t l := by
  cases s <;> cases t <;> simp [sg, Int.neg_mul, Int.mul_neg]
theorem mag_mul {m n k l : Nat} {p q : Int} (h : Mag m p k) (g : Mag n q l) : Mag (m * n) (p + q) (k * l) := by
  obtain ⟨H, e, hp⟩ := h
  obtain ⟨G, f, hq⟩ := g
  refine ⟨H + G, ?_, by omega⟩
  have e0 : (p + q + (H + G : Nat)).toNat = (p + H).toNat + (q + G).toNat := by omega
  rw [e0, Nat.pow_add, Nat.pow_add, Nat.mul_mul_mul_comm, e, f, Nat.mul_mul_mul_comm]
theorem mul_is {x y : Nat} {a b : Int} (hx : Is x a) (hy : Is y b) (h : (a * b).natAbs < 2 ^ 53) : ∃ r, floatBits .mul .f64 x y = some r ∧ Is r (a * b) := by
  obtain ⟨s, m, p, k, e1, _, _, hm, rfl⟩ := hx
  obtain ⟨t, n, q, l, e2, _, _, hn, rfl⟩ := hy
  unfold floatBits
  simp only [FloatKind.format, Format.mul, e1, e2, Datum.product, Option.map_some]
  refine ⟨_, rfl, ?_⟩
  simp only [Format.write]
  rw [← sg_xor] at h ⊢
  rw [sg_abs] at h
  exact nearest_is _ _ _ _ (mag_mul hm hn) h

theorem order_is {x y : Nat} {a b : Int} (hx : Is x a) (hy : Is y b) : FloatKind.f64.format.order x y = some (compare a b) := by
  obtain ⟨s, m, p, k, e1, hp, hp2, hm, rfl⟩ := hx
  obtain ⟨t, n, q, l, e2, hq, hq2, hn, rfl⟩ := hy
  simp only [FloatKind.format, Format.order, e1, e2, Datum.order]
  congr 1
  have key : ∀ (A B F : Int), 0 < F → compare (A * F) (B * F) = compare A B := by
    intro A B F hF
    rcases Int.lt_trichotomy A B with h | h | h
    · have : A * F < B * F := Int.mul_lt_mul_of_pos_right h hF
      simp [compare, compareOfLessAndEq, h, this]
    · subst h; simp [compare, compareOfLessAndEq]
    · have h1 : B * F < A * F := Int.mul_lt_mul_of_pos_right h hF
      simp [compare, compareOfLessAndEq, show ¬ A < B by omega, show ¬ A = B by omega, show ¬ A * F < B * F by omega, show ¬ A * F = B * F by omega]
  by_cases hb0 : min p q ≤ 0
  · rw [signed_base (s := s) hm (b := min p q) (by omega) hb0, signed_base (s := t) hn (b := min p q) (by omega) hb0]
    exact key _ _ _ (by have := Nat.two_pow_pos (-(min p q)).toNat; omega)
  · have hp0 : 0 ≤ p := by omega
    have hq0 : 0 ≤ q := by omega
    have e1 : signed s m (p - min p q).toNat * ((2 ^ (min p q).toNat : Nat) : Int) = sg s k := by
      rw [signed_eq, ← sg_mul, mag_up hm hp0, Nat.mul_assoc, ← Nat.pow_add]; congr 3; omega
    have e2 : signed t n (q - min p q).toNat * ((2 ^ (min p q).toNat : Nat) : Int) = sg t l := by
      rw [signed_eq, ← sg_mul, mag_up hn hq0, Nat.mul_assoc, ← Nat.pow_add]; congr 3; omega
    rw [← e1, ← e2]
    exact (key _ _ _ (by have := Nat.two_pow_pos (min p q).toNat; omega)).symm

theorem toInt_is {x : Nat} {a : Int} (hx : Is x a) (lo : -2147483648 ≤ a) (hi : a ≤ 2147483647) : floatToIntVal .f64 x .i32 = some a := by
  obtain ⟨s, m, p, k, e1, hp, hp2, hm, rfl⟩ := hx
  have : ((FloatKind.f64.decode x).toInt .zero) = some (sg s k) := by
    simp only [FloatKind.decode, FloatKind.format, e1, Datum.toInt, Datum.integral]
    rw [signed_eq, Nat.pow_zero, Nat.mul_one, Nat.shiftLeft_eq]
    congr 2
    rcases Int.le_total 0 p with h | h
    · have e0 : (-p).toNat = 0 := by omega
      rw [e0, cut_none, mag_up hm h]
    · have e0 : p.toNat = 0 := by omega
      rw [e0, Nat.pow_zero, Nat.mul_one, mag_down hm h, cut_whole]
  unfold floatToIntVal
  rw [this]
  have h1 : IntKind.i32.min = -2147483648 := rfl
  have h2 : IntKind.i32.max = 2147483647 := rfl
  simp only [h1, h2]
  rw [if_pos ⟨lo, hi⟩]
end Go.Proofs.Ytakahpfeajjaaaa
