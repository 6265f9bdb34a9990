/-
  Quarter turns of points: on pairs of whole numbers, on the words of doubles, and that the one stands for the other. Plain mathematics.
-/
import Derived.Test.YtakahpfeajjaaaaFloat
namespace Go.Proofs.Ytakahpfeajjaaaa

/-- The word of 1. -/
theorem one_is : Is 4607182418800017408 1 := by
  have h : floatOfInt .f64 1 = 4607182418800017408 := by decide
  rw [← h]; exact ofInt_is 1 (by decide)
theorem nought_is : Is 0 0 := by
  have h : floatOfInt .f64 0 = 0 := by decide
  have := ofInt_is 0 (by decide)
  rw [h] at this; exact this

/-- A quarter's turn of whole numbers, k times. -/
def rx : Nat → Int → Int → Int
  | 0, a, _ => a
  | k + 1, a, b => rx k (-b) a
def ry : Nat → Int → Int → Int
  | 0, _, b => b
  | k + 1, a, b => ry k (-b) a

/-- The same of words. -/
def sx (x y : Nat) : Nat := ((cMulBits x y 0 4607182418800017408).getD (0, 0)).1
def sy (x y : Nat) : Nat := ((cMulBits x y 0 4607182418800017408).getD (0, 0)).2
def tx : Nat → Nat → Nat → Nat
  | 0, x, _ => x
  | k + 1, x, y => tx k (sx x y) (sy x y)
def ty : Nat → Nat → Nat → Nat
  | 0, _, y => y
  | k + 1, x, y => ty k (sx x y) (sy x y)

/-- The point (x, y), of words, stands for (a, b), neither part above 2^17. -/
structure At (x y : Nat) (a b : Int) : Prop where
  re : Is x a
  im : Is y b
  ha : a.natAbs ≤ 131072
  hb : b.natAbs ≤ 131072

theorem at_of (a b : Int) (ha : a.natAbs ≤ 131072) (hb : b.natAbs ≤ 131072) : At (floatOfInt .f64 a) (floatOfInt .f64 b) a b :=
  ⟨ofInt_is a (by omega), ofInt_is b (by omega), ha, hb⟩

theorem spin_is {x y : Nat} {a b : Int} (h : At x y a b) : cMulBits x y 0 4607182418800017408 = some (sx x y, sy x y) ∧ At (sx x y) (sy x y) (-b) a := by
  obtain ⟨hx, hy, ha, hb⟩ := h
  obtain ⟨ac, e1, i1⟩ := mul_is hx nought_is (by omega)
  obtain ⟨bd, e2, i2⟩ := mul_is hy one_is (by omega)
  obtain ⟨re, e3, i3⟩ := sub_is i1 i2 (by omega)
  obtain ⟨ad, e4, i4⟩ := mul_is hx one_is (by omega)
  obtain ⟨bc, e5, i5⟩ := mul_is hy nought_is (by omega)
  obtain ⟨im, e6, i6⟩ := add_is i4 i5 (by omega)
  have e : cMulBits x y 0 4607182418800017408 = some (re, im) := by
    unfold cMulBits
    simp only [e1, e2, e3, e4, e5, e6, Option.bind_some]
  have f1 : sx x y = re := by unfold sx; rw [e]; rfl
  have f2 : sy x y = im := by unfold sy; rw [e]; rfl
  have g1 : a * 0 - b * 1 = -b := by omega
  have g2 : a * 1 + b * 0 = a := by omega
  rw [g1] at i3
  rw [g2] at i6
  rw [f1, f2]
  exact ⟨e, i3, i6, by omega, ha⟩

theorem turn_is : ∀ (k : Nat) {x y : Nat} {a b : Int}, At x y a b → At (tx k x y) (ty k x y) (rx k a b) (ry k a b)
  | 0, _, _, _, _, h => h
  | k + 1, _, _, _, _, h => turn_is k (spin_is h).2

theorem tx_next : ∀ (k x y : Nat), tx (k + 1) x y = sx (tx k x y) (ty k x y) ∧ ty (k + 1) x y = sy (tx k x y) (ty k x y)
  | 0, _, _ => ⟨rfl, rfl⟩
  | k + 1, x, y => tx_next k (sx x y) (sy x y)

theorem spin_at {x y : Nat} {a b : Int} (h : At x y a b) (k : Nat) : cMulBits (tx k x y) (ty k x y) 0 4607182418800017408 = some (tx (k + 1) x y, ty (k + 1) x y) := by
  rw [(tx_next k x y).1, (tx_next k x y).2]
  exact (spin_is (turn_is k h)).1

theorem eq_is {x y : Nat} {a b : Int} (hx : Is x a) (hy : Is y b) : (FloatKind.f64.format.order x y == some .eq) = decide (a = b) := by
  rw [order_is hx hy]
  by_cases h : a = b
  · subst h; simp [compare, compareOfLessAndEq]
  · by_cases h2 : a < b <;> simp [compare, compareOfLessAndEq, h, h2]
theorem order_lt {x y : Nat} {a b : Int} (hx : Is x a) (hy : Is y b) (h : a < b) : FloatKind.f64.format.order x y = some .lt := by
  rw [order_is hx hy]; simp [compare, compareOfLessAndEq, h]
theorem order_eq {x y : Nat} {a : Int} (hx : Is x a) (hy : Is y a) : FloatKind.f64.format.order x y = some .eq := by
  rw [order_is hx hy]; simp [compare, compareOfLessAndEq]
theorem order_gt {x y : Nat} {a b : Int} (hx : Is x a) (hy : Is y b) (h : b < a) : FloatKind.f64.format.order x y = some .gt := by
  rw [order_is hx hy]; simp [compare, compareOfLessAndEq, show ¬ a < b by omega, show ¬ a = b by omega]
end Go.Proofs.Ytakahpfeajjaaaa
