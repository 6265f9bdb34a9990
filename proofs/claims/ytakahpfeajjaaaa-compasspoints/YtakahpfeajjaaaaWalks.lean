/-
  The program's small functions on points, and the document's: contracts.
-/
import Derived.Test.YtakahpfeajjaaaaRows
import Derived.Test.YtakahpfeajjaaaaSpin
import Derived.Laws.BitsAllLaws
import Derived.WalkKit
import Derived.ProofKit
import Derived.WalkLawsBesides
import Derived.Outline
namespace Go.Proofs.Ytakahpfeajjaaaa
open Go.RowKit

theorem and3 (n : Int) : bits .and .i64 n 3 = n % 4 := by
  have hx := Nat.mod_lt ((BitVec.ofInt 64 n).toNat) (show 4 > 0 by omega)
  show IntKind.i64.wrap ((BitVec.ofInt 64 n &&& BitVec.ofInt 64 (3 : Int)).toNat : Int) = _
  rw [BitVec.toNat_and, show (BitVec.ofInt 64 (3 : Int)).toNat = 3 from rfl, nat_mask2, IntKind.wrap_i64]
  have e : ((BitVec.ofInt 64 n).toNat : Int) = n % 18446744073709551616 := by
    rw [BitVec.toNat_ofInt]; omega
  omega

theorem wrap16 (n : Int) : IntKind.i16.wrap n = (n + 32768) % 65536 - 32768 := by
  simp [IntKind.wrap, IntKind.bits, IntKind.signed]
  split <;> omega

set_option maxRecDepth 100000 in
theorem half_any (n : Int) (w : World) : Calls Try.prog 25 #[.int .u16 n] w fun e w' => e = .returned (.float .f64 (floatOfInt .f64 ((n + 32768) % 65536 - 32768))) ∧ w' = w := by
  go_enter Try.func25, Try.ntmps25
  go_wp2
  go_ret
  rw [← wrap16]
  exact ⟨rfl, rfl⟩

set_option maxRecDepth 100000 in
theorem at_any (a b : Int) (w : World) : Calls Try.prog 15 #[.int .i16 a, .int .i16 b] w fun e w' => e = .returned (.complex .f64 (floatOfInt .f64 a) (floatOfInt .f64 b)) ∧ w' = w := by
  go_enter Try.func15, Try.ntmps15
  go_wp2
  go_ret
  exact ⟨rfl, rfl⟩

set_option maxRecDepth 100000 in
theorem parts_any (x y : Nat) (a b : Int) (h : At x y a b) (w : World) : Calls Try.prog 26 #[.complex .f64 x y] w fun e w' => e = .returned (.tuple #[.int .i64 a, .int .i64 b]) ∧ w' = w := by
  have H : Hid (At x y a b) := h
  have ha := h.ha
  have hb := h.hb
  clear h
  have c1 : ∀ w, (convert 28 21 (.float .f64 x)).run Try.prog w = .ok (.int .i32 a) w := fun w => run_convert_float_int w 28 21 .f64 .i32 x a (by rw [Try.underlying28]; rfl) Try.underlying21 (toInt_is H.out.re (by omega) (by omega))
  have c2 : ∀ w, (convert 28 21 (.float .f64 y)).run Try.prog w = .ok (.int .i32 b) w := fun w => run_convert_float_int w 28 21 .f64 .i32 y b (by rw [Try.underlying28]; rfl) Try.underlying21 (toInt_is H.out.im (by omega) (by omega))
  go_enter Try.func26, Try.ntmps26
  go_wp2_with (simp only [c1, c2])
  go_ret2
  exact ⟨rfl, rfl⟩

set_option maxRecDepth 100000 in
theorem turn_any (x y : Nat) (a b n : Int) (h : At x y a b) (w : World) : Calls Try.prog 16 #[.complex .f64 x y, .int .i64 n] w fun e w' => e = .returned (.complex .f64 (tx (n % 4).toNat x y) (ty (n % 4).toNat x y)) ∧ w' = w := by
  have H : Hid (At x y a b) := h
  clear h
  have hm := and3 n
  obtain ⟨m, hm4⟩ : ∃ m : Nat, n % 4 = m := ⟨(n % 4).toNat, by omega⟩
  have hm3 : m < 4 := by omega
  rw [hm4] at hm ⊢
  rw [Int.toNat_natCast]
  clear hm4
  go_enter Try.func16, Try.ntmps16
  go_wp2
  go_loop [7, 0] (fun i z => ∃ k : Nat, k ≤ m ∧ i = .int .i64 k ∧ z = .complex .f64 (tx k x y) (ty k x y)) (fun i _ => m - (intOf i).toNat)
  case atStart => exact ⟨0, Nat.zero_le _, rfl, rfl⟩
  case round =>
    obtain ⟨k, hk, rfl, rfl⟩ := hrel
    have c : ∀ w, (binOp .mul 26 (.complex .f64 (tx k x y) (ty k x y)) (.complex .f64 0 4607182418800017408)).run Try.prog w = .ok (.complex .f64 (tx (k + 1) x y) (ty (k + 1) x y)) w := fun w => run_complex_mul w 26 _ _ _ _ _ _ (spin_at H.out k)
    by_cases hlt : k < m
    · go_wp2_with (simp only [c])
      go_round
      case rel => exact ⟨k + 1, by omega, by go_num, rfl⟩
      case measure => simp [intOf]; omega
    · have he : k = m := by omega
      subst he
      go_wp2
      go_ret
      exact ⟨rfl, rfl⟩

theorem ret_int {m n : Int} (h : m = n) : Ending.returned (.int .i64 m) = .returned (.int .i64 n) := by rw [h]
theorem ret_two {m n k l : Int} (h : m = n) (g : k = l) : Ending.returned (.tuple #[.int .i64 m, .int .i64 k]) = .returned (.tuple #[.int .i64 n, .int .i64 l]) := by rw [h, g]
/-- A key's halves. -/
def lo (key : Int) : Int := (key % 65536 + 32768) % 65536 - 32768
def hi (key : Int) : Int := (key / 65536 + 32768) % 65536 - 32768
theorem lo_range (key : Int) : -32768 ≤ lo key ∧ lo key ≤ 32767 := by unfold lo; omega
theorem hi_range (key : Int) : -32768 ≤ hi key ∧ hi key ≤ 32767 := by unfold hi; omega
theorem sq_range {a : Int} (h : a.natAbs ≤ 131072) : 0 ≤ a * a ∧ a * a ≤ 17179869184 := by
  have e : a * a = ((a.natAbs * a.natAbs : Nat) : Int) := by rw [Int.natCast_mul]; exact (Int.natAbs_mul_self).symm
  have : a.natAbs * a.natAbs ≤ 131072 * 131072 := Nat.mul_le_mul h h
  omega

/-- Which quarter. -/
def qt (a b : Int) : Int := if 0 < a ∧ 0 ≤ b then 0 else if 0 < b ∧ a ≤ 0 then 1 else if a < 0 ∧ b ≤ 0 then 2 else if b < 0 ∧ 0 ≤ a then 3 else 0
theorem qt_range (a b : Int) : 0 ≤ qt a b ∧ qt a b ≤ 3 := by unfold qt; repeat' split
                                                             all_goals omega

set_option maxRecDepth 100000 in
theorem quarter_any (x y : Nat) (a b : Int) (h : At x y a b) (w : World) : Calls Try.prog 17 #[.complex .f64 x y] w fun e w' => e = .returned (.int .i64 (qt a b)) ∧ w' = w := by
  have H : Hid (At x y a b) := h
  clear h
  rcases Int.lt_trichotomy a 0 with ha | ha | ha <;> rcases Int.lt_trichotomy b 0 with hb | hb | hb
  · have q : qt a b = 2 := by unfold qt; (repeat' split) <;> omega
    have o1 := order_lt H.out.re nought_is ha
    have o2 := order_lt H.out.im nought_is hb
    rw [q]
    clear q ha hb
    go_enter Try.func17, Try.ntmps17
    go_wp2
    go_ret
    exact ⟨rfl, rfl⟩
  · subst hb
    have q : qt a 0 = 2 := by unfold qt; (repeat' split) <;> omega
    have o1 := order_lt H.out.re nought_is ha
    have o2 := order_eq H.out.im nought_is
    rw [q]
    clear q ha
    go_enter Try.func17, Try.ntmps17
    go_wp2
    go_ret
    exact ⟨rfl, rfl⟩
  · have q : qt a b = 1 := by unfold qt; (repeat' split) <;> omega
    have o1 := order_lt H.out.re nought_is ha
    have o2 := order_gt H.out.im nought_is hb
    rw [q]
    clear q ha hb
    go_enter Try.func17, Try.ntmps17
    go_wp2
    go_ret
    exact ⟨rfl, rfl⟩
  · subst ha
    have q : qt 0 b = 3 := by unfold qt; (repeat' split) <;> omega
    have o1 := order_eq H.out.re nought_is
    have o2 := order_lt H.out.im nought_is hb
    rw [q]
    clear q hb
    go_enter Try.func17, Try.ntmps17
    go_wp2
    go_ret
    exact ⟨rfl, rfl⟩
  · subst ha
    subst hb
    have q : qt 0 0 = 0 := by unfold qt; (repeat' split) <;> omega
    have o1 := order_eq H.out.re nought_is
    have o2 := order_eq H.out.im nought_is
    rw [q]
    clear q
    go_enter Try.func17, Try.ntmps17
    go_wp2
    go_ret
    exact ⟨rfl, rfl⟩
  · subst ha
    have q : qt 0 b = 1 := by unfold qt; (repeat' split) <;> omega
    have o1 := order_eq H.out.re nought_is
    have o2 := order_gt H.out.im nought_is hb
    rw [q]
    clear q hb
    go_enter Try.func17, Try.ntmps17
    go_wp2
    go_ret
    exact ⟨rfl, rfl⟩
  · have q : qt a b = 3 := by unfold qt; (repeat' split) <;> omega
    have o1 := order_gt H.out.re nought_is ha
    have o2 := order_lt H.out.im nought_is hb
    rw [q]
    clear q ha hb
    go_enter Try.func17, Try.ntmps17
    go_wp2
    go_ret
    exact ⟨rfl, rfl⟩
  · subst hb
    have q : qt a 0 = 0 := by unfold qt; (repeat' split) <;> omega
    have o1 := order_gt H.out.re nought_is ha
    have o2 := order_eq H.out.im nought_is
    rw [q]
    clear q ha
    go_enter Try.func17, Try.ntmps17
    go_wp2
    go_ret
    exact ⟨rfl, rfl⟩
  · have q : qt a b = 0 := by unfold qt; (repeat' split) <;> omega
    have o1 := order_gt H.out.re nought_is ha
    have o2 := order_gt H.out.im nought_is hb
    rw [q]
    clear q ha hb
    go_enter Try.func17, Try.ntmps17
    go_wp2
    go_ret
    exact ⟨rfl, rfl⟩

set_option maxRecDepth 100000 in
theorem norm_any (x y : Nat) (a b : Int) (h : At x y a b) (w : World) : Calls Try.prog 19 #[.complex .f64 x y] w fun e w' => e = .returned (.int .i64 (a * a + b * b)) ∧ w' = w := by
  have H : Hid (At x y a b) := h
  have s1 := sq_range h.ha
  have s2 := sq_range h.hb
  clear h
  go_enter Try.func19, Try.ntmps19
  go_wp2_with (go_at_call 26; refine (parts_any x y a b H.out _).mono ?_; rintro e w' ⟨rfl, rfl⟩)
  go_ret
  exact ⟨by go_num, rfl⟩

set_option maxRecDepth 100000 in
theorem rnorm_any (a b : Int) (w : World) (ha : a.natAbs ≤ 131072) (hb : b.natAbs ≤ 131072) : Calls Try.prog 20 #[.int .i64 a, .int .i64 b] w fun e w' => e = .returned (.int .i64 (a * a + b * b)) ∧ w' = w := by
  have s1 := sq_range ha
  have s2 := sq_range hb
  go_enter Try.func20, Try.ntmps20
  go_wp2
  go_ret
  exact ⟨by go_num, rfl⟩

set_option maxRecDepth 100000 in
theorem rquarter_any (a b : Int) (w : World) : Calls Try.prog 18 #[.int .i64 a, .int .i64 b] w fun e w' => e = .returned (.int .i64 (qt a b)) ∧ w' = w := by
  generalize hq : qt a b = q
  have HQ : Hid (qt a b = q) := hq
  clear hq
  go_enter Try.func18, Try.ntmps18
  go_wp2
  all_goals (go_ret; rw [← HQ.out]; refine ⟨ret_int ?_, rfl⟩; unfold qt; (repeat' split) <;> omega)

theorem tmod4 (n : Int) : Int.tmod (Int.tmod n 4 + 4) 4 = n % 4 := by
  rw [Int.tmod_eq_emod, Int.tmod_eq_emod]
  split <;> split <;> omega
theorem tmod4_range (n : Int) : -3 ≤ Int.tmod n 4 ∧ Int.tmod n 4 ≤ 3 := by
  rw [Int.tmod_eq_emod]; split <;> omega

set_option maxRecDepth 100000 in
theorem rturn_any (a b n : Int) (w : World) (ha : a.natAbs ≤ 131072) (hb : b.natAbs ≤ 131072) : Calls Try.prog 14 #[.int .i64 a, .int .i64 b, .int .i64 n] w fun e w' => e = .returned (.tuple #[.int .i64 (rx (n % 4).toNat a b), .int .i64 (ry (n % 4).toNat a b)]) ∧ w' = w := by
  have hr := tmod4_range n
  have hm := tmod4 n
  have h4 : n % 4 = 0 ∨ n % 4 = 1 ∨ n % 4 = 2 ∨ n % 4 = 3 := by omega
  rcases h4 with h | h | h | h <;> (
    rw [h] at hm ⊢
    clear h
    go_enter Try.func14, Try.ntmps14
    go_wp2
    go_ret2
    refine ⟨?_, rfl⟩
    simp [rx, ry])

set_option maxRecDepth 100000 in
theorem rparts_any (key : Int) (w : World) (h0 : 0 ≤ key) (h1 : key ≤ 4294967295) : Calls Try.prog 10 #[.int .u32 key] w fun e w' => e = .returned (.tuple #[.int .i64 (lo key), .int .i64 (hi key)]) ∧ w' = w := by
  go_enter Try.func10, Try.ntmps10
  go_wp2
  all_goals (go_ret2; exact ⟨ret_two (by unfold lo; omega) (by unfold hi; omega), rfl⟩)

set_option maxRecDepth 100000 in
theorem point_any (key : Int) (w : World) (h0 : 0 ≤ key) (h1 : key ≤ 4294967295) : Calls Try.prog 11 #[.int .u32 key] w fun e w' => e = .returned (.complex .f64 (floatOfInt .f64 (lo key)) (floatOfInt .f64 (hi key))) ∧ w' = w := by
  go_enter Try.func11, Try.ntmps11
  go_wp2_with (go_at_call 25; refine (half_any _ _).mono ?_; rintro e w' ⟨rfl, rfl⟩)
  go_ret
  have e : IntKind.u16.wrap key = key % 65536 := IntKind.wrap_u16 key
  unfold lo hi
  rw [← e]
  exact ⟨rfl, rfl⟩
end Go.Proofs.Ytakahpfeajjaaaa
