/-
  Which part of the circle: the program's Part, and the document's: both are one function of two whole numbers.
-/
import Derived.Test.YtakahpfeajjaaaaWalks
namespace Go.Proofs.Ytakahpfeajjaaaa
open Go.RowKit

/-- The parts of a point that is turned back into the first quarter. -/
def cx (a b : Int) : Int := rx ((-(qt a b)) % 4).toNat a b
def cy (a b : Int) : Int := ry ((-(qt a b)) % 4).toNat a b

theorem home (a b : Int) : 0 ≤ cx a b ∧ 0 ≤ cy a b ∧ cx a b + cy a b = a.natAbs + b.natAbs ∧ (cx a b = 0 → a = 0 ∧ b = 0) := by
  have : (qt a b = 0 ∧ 0 ≤ a ∧ 0 ≤ b ∧ (a = 0 → b = 0)) ∨ (qt a b = 1 ∧ 0 < b ∧ a ≤ 0) ∨ (qt a b = 2 ∧ a < 0 ∧ b ≤ 0) ∨ (qt a b = 3 ∧ b < 0 ∧ 0 ≤ a) := by
    unfold qt
    (repeat' split) <;> omega
  unfold cx cy
  rcases this with ⟨e, h⟩ | ⟨e, h⟩ | ⟨e, h⟩ | ⟨e, h⟩ <;> rw [e]
  · simp only [show ((-0 : Int) % 4).toNat = 0 by decide, rx, ry]; omega
  · simp only [show ((-1 : Int) % 4).toNat = 3 by decide, rx, ry]; omega
  · simp only [show ((-2 : Int) % 4).toNat = 2 by decide, rx, ry]; omega
  · simp only [show ((-3 : Int) % 4).toNat = 1 by decide, rx, ry]; omega

/-- Which part of n, where n is from 1 to 64. -/
def pv (a b n : Int) : Int := (qt a b * (cx a b + cy a b) + cy a b) * n / (4 * (cx a b + cy a b))
def pt (a b n : Int) : Int := if 1 ≤ n ∧ n ≤ 64 then pv a b n else 0
def pe (n : Int) : Int := if 1 ≤ n ∧ n ≤ 64 then 0 else 2
theorem pt_in {a b n : Int} (h : 1 ≤ n ∧ n ≤ 64) : pt a b n = pv a b n ∧ pe n = 0 := ⟨if_pos h, if_pos h⟩
theorem pt_out {a b n : Int} (h : ¬ (1 ≤ n ∧ n ≤ 64)) : pt a b n = 0 ∧ pe n = 2 := ⟨if_neg h, if_neg h⟩

set_option maxRecDepth 100000 in
theorem part_any (x y : Nat) (a b n : Int) (h : At x y a b) (w : World) : Calls Try.prog 21 #[.complex .f64 x y, .int .i64 n] w fun e w' => e = .returned (.tuple #[.int .i64 (pt a b n), .int .i64 (pe n)]) ∧ w' = w := by
  have H : Hid (At x y a b) := h
  clear h
  by_cases hn : 1 ≤ n ∧ n ≤ 64
  case neg =>
    rw [(pt_out (a := a) (b := b) hn).1, (pt_out (a := a) (b := b) hn).2]
    have hn' : n < 1 ∨ 64 < n := by omega
    clear hn
    rcases hn' with h | h
    · go_enter Try.func21, Try.ntmps21
      go_wp2
      go_ret2
      exact ⟨rfl, rfl⟩
    · go_enter Try.func21, Try.ntmps21
      go_wp2
      go_ret2
      exact ⟨rfl, rfl⟩
  case pos =>
    rw [(pt_in (a := a) (b := b) hn).1, (pt_in (a := a) (b := b) hn).2]
    obtain ⟨n1, n2⟩ := hn
    have q1 := (qt_range a b).1
    have q2 := (qt_range a b).2
    have HV : Hid (pv a b n = (qt a b * (cx a b + cy a b) + cy a b) * n / (4 * (cx a b + cy a b))) := rfl
    have hh := home a b
    have HT : Hid (At (tx ((-(qt a b)) % 4).toNat x y) (ty ((-(qt a b)) % 4).toNat x y) (cx a b) (cy a b)) := turn_is _ H.out
    have ha := H.out.ha
    have hb := H.out.hb
    generalize pv a b n = V at *
    generalize cx a b = c at *
    generalize cy a b = d at *
    have hc : 0 ≤ c := hh.1
    have hd : 0 ≤ d := hh.2.1
    have hs : c + d ≤ 262144 := by have := hh.2.2.1; omega
    clear hh ha hb
    generalize hq : qt a b = q at *
    have HQ : Hid _ := hq
    clear hq
    have m1 : 0 ≤ q * (c + d) := Int.mul_nonneg q1 (by omega)
    have m2 : q * (c + d) ≤ 3 * (c + d) := Int.mul_le_mul_of_nonneg_right q2 (by omega)
    have m3 : 0 ≤ (q * (c + d) + d) * n := Int.mul_nonneg (by omega) (by omega)
    have m4 : (q * (c + d) + d) * n ≤ (q * (c + d) + d) * 64 := Int.mul_le_mul_of_nonneg_left n2 (by omega)
    by_cases h0 : c + d = 0
    · go_enter Try.func21, Try.ntmps21
      go_wp2_with (first
        | (go_at_call 17; refine (quarter_any x y a b H.out _).mono ?_; rintro e w' ⟨rfl, rfl⟩; rw [HQ.out])
        | (go_at_call 16; refine (turn_any x y a b (-q) H.out _).mono ?_; rintro e w' ⟨rfl, rfl⟩)
        | (go_at_call 26; refine (parts_any _ _ c d HT.out _).mono ?_; rintro e w' ⟨rfl, rfl⟩))
      go_ret2
      refine ⟨ret_two ?_ rfl, rfl⟩
      have hv := HV.out
      rw [h0] at hv
      simpa using hv.symm
    · go_enter Try.func21, Try.ntmps21
      go_wp2_with (first
        | (go_at_call 17; refine (quarter_any x y a b H.out _).mono ?_; rintro e w' ⟨rfl, rfl⟩; rw [HQ.out])
        | (go_at_call 16; refine (turn_any x y a b (-q) H.out _).mono ?_; rintro e w' ⟨rfl, rfl⟩)
        | (go_at_call 26; refine (parts_any _ _ c d HT.out _).mono ?_; rintro e w' ⟨rfl, rfl⟩))
      go_ret2
      exact ⟨ret_two HV.out.symm rfl, rfl⟩

theorem pv_of (a b n : Int) (n1 : 1 ≤ n) (n2 : n ≤ 64) (h0 : ¬ (a = 0 ∧ b = 0)) :
    0 ≤ pv a b n ∧ pv a b n ≤ n - 1 ∧ 0 < cx a b + cy a b ∧ cy a b < cx a b + cy a b ∧ ∀ k : Int, (k ≤ pv a b n ↔ 4 * k * (cx a b + cy a b) ≤ n * (qt a b * (cx a b + cy a b) + cy a b)) := by
  obtain ⟨hc, hd, hs, hz⟩ := home a b
  have q1 := (qt_range a b).1
  have q2 := (qt_range a b).2
  have hc1 : 0 < cx a b := by
    rcases Int.lt_or_eq_of_le hc with h | h
    · exact h
    · exact absurd (hz h.symm) h0
  unfold pv
  generalize cx a b = c at *
  generalize cy a b = d at *
  generalize qt a b = q at *
  clear hz hs h0
  have hS : 0 < c + d := by omega
  have m1 : 0 ≤ q * (c + d) := Int.mul_nonneg q1 (by omega)
  have m2 : q * (c + d) ≤ 3 * (c + d) := Int.mul_le_mul_of_nonneg_right q2 (by omega)
  generalize hA : q * (c + d) + d = A at *
  have hA4 : A < 4 * (c + d) := by omega
  have hA0 : 0 ≤ A := by omega
  have hn : A * n < n * (4 * (c + d)) := by rw [Int.mul_comm A n]; exact Int.mul_lt_mul_of_pos_left hA4 (by omega)
  refine ⟨Int.ediv_nonneg (Int.mul_nonneg hA0 (by omega)) (by omega), ?_, hS, by omega, ?_⟩
  · have := Int.ediv_lt_of_lt_mul (show 0 < 4 * (c + d) by omega) hn
    omega
  · intro k
    rw [Int.le_ediv_iff_mul_le (show 0 < 4 * (c + d) by omega), Int.mul_comm A n]
    have : k * (4 * (c + d)) = 4 * k * (c + d) := by rw [← Int.mul_assoc, Int.mul_comm k 4]
    rw [this]

theorem pv_middle (n : Int) : pv 0 0 n = 0 := by
  have := home 0 0
  have e : cx 0 0 + cy 0 0 = 0 := by rw [this.2.2.1]; rfl
  unfold pv
  rw [e]; simp

set_option maxRecDepth 100000 in
theorem rpart_any (a b n : Int) (w : World) (ha : a.natAbs ≤ 131072) (hb : b.natAbs ≤ 131072) : Calls Try.prog 22 #[.int .i64 a, .int .i64 b, .int .i64 n] w fun e w' => e = .returned (.tuple #[.int .i64 (pt a b n), .int .i64 (pe n)]) ∧ w' = w := by
  by_cases hn : 1 ≤ n ∧ n ≤ 64
  case neg =>
    rw [(pt_out (a := a) (b := b) hn).1, (pt_out (a := a) (b := b) hn).2]
    have hn' : n < 1 ∨ 64 < n := by omega
    clear hn
    rcases hn' with h | h
    · go_enter Try.func22, Try.ntmps22
      go_wp2
      go_ret2
      exact ⟨rfl, rfl⟩
    · go_enter Try.func22, Try.ntmps22
      go_wp2
      go_ret2
      exact ⟨rfl, rfl⟩
  case pos =>
    rw [(pt_in (a := a) (b := b) hn).1, (pt_in (a := a) (b := b) hn).2]
    obtain ⟨n1, n2⟩ := hn
    by_cases h0 : a = 0 ∧ b = 0
    · obtain ⟨rfl, rfl⟩ := h0
      rw [pv_middle]
      clear ha hb
      go_enter Try.func22, Try.ntmps22
      go_wp2
      go_ret2
      exact ⟨rfl, rfl⟩
    have hab : Hid (¬ (a = 0 ∧ b = 0)) := h0
    obtain ⟨v0, v1, hS, hdS, hV⟩ := pv_of a b n n1 n2 h0
    have HV : Hid _ := hV
    clear hV
    have HT : Hid (∀ w, Calls Try.prog 14 #[.int .i64 a, .int .i64 b, .int .i64 (-(qt a b))] w fun e w' => e = .returned (.tuple #[.int .i64 (cx a b), .int .i64 (cy a b)]) ∧ w' = w) := fun w => rturn_any a b (-(qt a b)) w ha hb
    have q1 := (qt_range a b).1
    have q2 := (qt_range a b).2
    have hh := home a b
    have hc : 0 ≤ cx a b := hh.1
    have hd : 0 ≤ cy a b := hh.2.1
    have hs : cx a b + cy a b ≤ 262144 := by have := hh.2.2.1; omega
    clear hh
    generalize pv a b n = V at *
    generalize cx a b = c at *
    generalize cy a b = d at *
    generalize hq : qt a b = q at *
    have HQ : Hid (qt a b = q) := hq
    clear hq
    have m1 : 0 ≤ q * (c + d) := Int.mul_nonneg q1 (by omega)
    have m2 : q * (c + d) ≤ 3 * (c + d) := Int.mul_le_mul_of_nonneg_right q2 (by omega)
    have m3 : 0 ≤ n * (q * (c + d) + d) := Int.mul_nonneg (by omega) (by omega)
    have m4 : n * (q * (c + d) + d) ≤ 64 * (q * (c + d) + d) := Int.mul_le_mul_of_nonneg_right n2 (by omega)
    by_cases e0 : a = 0
    · have e1 : (b == 0) = false := by
        have : b ≠ 0 := fun f => h0 ⟨e0, f⟩
        simp [this]
      subst e0
      clear h0 ha hb
      go_enter Try.func22, Try.ntmps22
      go_wp2_with (first
        | (go_at_call 18; refine (rquarter_any 0 b _).mono ?_; rintro e w' ⟨rfl, rfl⟩; rw [HQ.out])
        | (go_at_call 14; refine (HT.out _).mono ?_; rintro e w' ⟨rfl, rfl⟩))
      go_loop [11] (fun i => ∃ k : Int, 0 ≤ k ∧ k ≤ 63 ∧ V ≤ k ∧ i = .int .i64 k) (fun i => (intOf i).toNat)
      case atStart => exact ⟨n - 1, by omega, by omega, by omega, rfl⟩
      case round =>
        obtain ⟨k, k0, k1, hk, rfl⟩ := hrel
        have b1 : 0 ≤ 4 * k * (c + d) := Int.mul_nonneg (by omega) (by omega)
        have b2 : 4 * k * (c + d) ≤ 4 * 63 * (c + d) := Int.mul_le_mul_of_nonneg_right (by omega) (by omega)
        have HK : Hid (k ≤ V ↔ 4 * k * (c + d) ≤ n * (q * (c + d) + d)) := HV.out k
        by_cases hk0 : k = 0
        · have hv : Hid (0 = V) := (by omega : (0 : Int) = V)
          subst hk0
          clear b1 b2
          go_wp2
          go_ret2
          exact ⟨ret_two hv.out rfl, rfl⟩
        · by_cases hv : k ≤ V
          · have e : Hid (k = V) := (by omega : k = V)
            have t := HK.out.1 hv
            clear hv
            go_wp2
            go_ret2
            exact ⟨ret_two e.out rfl, rfl⟩
          · have t : ¬ 4 * k * (c + d) ≤ n * (q * (c + d) + d) := fun h => hv (HK.out.2 h)
            go_wp2
            go_round
            case rel => exact ⟨k - 1, by omega, by omega, by omega, by go_num⟩
            case measure => simp [intOf]; omega
    · have e1 : (a == 0) = false := by simp [e0]
      clear h0 ha hb e0
      go_enter Try.func22, Try.ntmps22
      go_wp2_with (first
        | (go_at_call 18; refine (rquarter_any a b _).mono ?_; rintro e w' ⟨rfl, rfl⟩; rw [HQ.out])
        | (go_at_call 14; refine (HT.out _).mono ?_; rintro e w' ⟨rfl, rfl⟩))
      go_loop [11] (fun i => ∃ k : Int, 0 ≤ k ∧ k ≤ 63 ∧ V ≤ k ∧ i = .int .i64 k) (fun i => (intOf i).toNat)
      case atStart => exact ⟨n - 1, by omega, by omega, by omega, rfl⟩
      case round =>
        obtain ⟨k, k0, k1, hk, rfl⟩ := hrel
        have b1 : 0 ≤ 4 * k * (c + d) := Int.mul_nonneg (by omega) (by omega)
        have b2 : 4 * k * (c + d) ≤ 4 * 63 * (c + d) := Int.mul_le_mul_of_nonneg_right (by omega) (by omega)
        have HK : Hid (k ≤ V ↔ 4 * k * (c + d) ≤ n * (q * (c + d) + d)) := HV.out k
        by_cases hk0 : k = 0
        · have hv : Hid (0 = V) := (by omega : (0 : Int) = V)
          subst hk0
          clear b1 b2
          go_wp2
          go_ret2
          exact ⟨ret_two hv.out rfl, rfl⟩
        · by_cases hv : k ≤ V
          · have e : Hid (k = V) := (by omega : k = V)
            have t := HK.out.1 hv
            clear hv
            go_wp2
            go_ret2
            exact ⟨ret_two e.out rfl, rfl⟩
          · have t : ¬ 4 * k * (c + d) ≤ n * (q * (c + d) + d) := fun h => hv (HK.out.2 h)
            go_wp2
            go_round
            case rel => exact ⟨k - 1, by omega, by omega, by omega, by go_num⟩
            case measure => simp [intOf]; omega
end Go.Proofs.Ytakahpfeajjaaaa
