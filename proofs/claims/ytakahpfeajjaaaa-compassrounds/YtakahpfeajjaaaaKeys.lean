/-
  A text's key, the program's and the document's; which partition a name belongs to.
-/
import Derived.Test.YtakahpfeajjaaaaPart
namespace Go.Proofs.Ytakahpfeajjaaaa
open Go.RowKit

/-- A text's byte. -/
def bt (s : ByteArray) (k : Nat) : Nat := if h : k < s.size then (s[k]'h).toNat else 0
theorem bt_at {s : ByteArray} {k : Nat} (h : k < s.size) : (s[k]'h).toNat = bt s k := by unfold bt; rw [dif_pos h]
theorem bt_lt (s : ByteArray) (k : Nat) : bt s k < 256 := by
  unfold bt; split
  · exact UInt8.toNat_lt _
  · omega

/-- The key of a text's first k bytes. -/
def kv (s : ByteArray) : Nat → Nat
  | 0 => 2166136261
  | k + 1 => (kv s k ^^^ bt s k) * 16777619 % 4294967296
theorem kv_lt (s : ByteArray) (k : Nat) : kv s k < 4294967296 := by cases k <;> simp only [kv] <;> omega
def key (s : ByteArray) : Nat := kv s s.size
theorem cast_key (m : Nat) : ((m * 16777619 % 4294967296 : Nat) : Int) = (m : Int) * 16777619 % 4294967296 := by omega
theorem cast_low (m x : Nat) : ((m - m % 256 + x : Nat) : Int) = (m : Int) - (m : Int) % 256 + (x : Int) := by omega
theorem xor_lt {k b : Nat} (hk : k < 4294967296) (hb : b < 256) : k ^^^ b < 4294967296 := Nat.xor_lt_two_pow (n := 32) hk (by omega)

theorem xor_low {k b : Nat} (hb : b < 256) : k ^^^ b = k - k % 256 + (k % 256 ^^^ b) := by
  have h1 : (k ^^^ b) / 256 = k / 256 := by
    have := Nat.xor_div_two_pow (a := k) (b := b) (n := 8)
    rw [show (2 : Nat) ^ 8 = 256 from rfl, Nat.div_eq_of_lt hb, Nat.xor_zero] at this
    exact this
  have h2 : (k ^^^ b) % 256 = k % 256 ^^^ b := by
    have := Nat.xor_mod_two_pow (a := k) (b := b) (n := 8)
    rw [show (2 : Nat) ^ 8 = 256 from rfl, Nat.mod_eq_of_lt hb] at this
    exact this
  omega

set_option maxRecDepth 100000 in
theorem key_any (s : ByteArray) (w : World) (hs : s.size ≤ 9223372036854775807) : Calls Try.prog 12 #[.string s] w fun e w' => e = .returned (.int .u32 (key s)) ∧ w' = w := by
  go_enter Try.func12, Try.ntmps12
  go_wp2
  go_loop [7, 3] (fun i v => ∃ k : Nat, k ≤ s.size ∧ i = .int .i64 k ∧ v = .int .u32 (kv s k)) (fun i _ => s.size - (intOf i).toNat)
  case atStart => exact ⟨0, Nat.zero_le _, rfl, rfl⟩
  case round =>
    obtain ⟨k, hk, rfl, rfl⟩ := hrel
    by_cases hlt : k < s.size
    · have HN : Hid (kv s (k + 1) = (kv s k ^^^ bt s k) * 16777619 % 4294967296) := rfl
      have hv := kv_lt s k
      have hb : (s[k]'hlt).toNat < 256 := UInt8.toNat_lt _
      have HX : Hid _ := xor_lt hv hb
      have hx : bits .xor .u32 (kv s k : Int) ((s[k]'hlt).toNat : Int) = ((kv s k ^^^ (s[k]'hlt).toNat : Nat) : Int) := u32_xor_nat _ _ hv (by omega)
      go_wp2
      go_round
      case rel =>
        refine ⟨k + 1, by omega, by go_num, ?_⟩
        rw [HN.out, bt_at hlt]
        rw [cast_key]
      case measure => simp [intOf]; omega
    · have he : k = s.size := by omega
      subst he
      go_wp2
      go_ret
      exact ⟨rfl, rfl⟩

set_option maxRecDepth 100000 in
theorem rkey_any (s : ByteArray) (w : World) (hs : s.size ≤ 9223372036854775807) : Calls Try.prog 13 #[.string s] w fun e w' => e = .returned (.int .u32 (key s)) ∧ w' = w := by
  go_enter Try.func13, Try.ntmps13
  go_wp2
  go_loop [4, 3] (fun i v => ∃ k : Nat, k ≤ s.size ∧ i = .int .i64 k ∧ v = .int .u64 (kv s k)) (fun i _ => s.size - (intOf i).toNat)
  case atStart => exact ⟨0, Nat.zero_le _, rfl, rfl⟩
  case round =>
    obtain ⟨k, hk, rfl, rfl⟩ := hrel
    have hv := kv_lt s k
    by_cases hlt : k < s.size
    · have HN : Hid (kv s (k + 1) = (kv s k ^^^ bt s k) * 16777619 % 4294967296) := rfl
      have hb : (s[k]'hlt).toNat < 256 := UInt8.toNat_lt _
      have hx : bits .xor .u64 ((kv s k : Int) % 256) ((s[k]'hlt).toNat : Int) = ((kv s k % 256 ^^^ (s[k]'hlt).toNat : Nat) : Int) := u64_xor_nat (kv s k % 256) _ (by omega) (by omega)
      have HE : Hid (kv s k ^^^ (s[k]'hlt).toNat = kv s k - kv s k % 256 + (kv s k % 256 ^^^ (s[k]'hlt).toNat)) := xor_low hb
      have hz : kv s k % 256 ^^^ (s[k]'hlt).toNat < 256 := Nat.xor_lt_two_pow (n := 8) (by omega) hb
      go_wp2
      go_round
      case rel =>
        refine ⟨k + 1, by omega, by go_num, ?_⟩
        rw [HN.out, ← bt_at hlt, HE.out, cast_key, cast_low]
      case measure => simp [intOf]; omega
    · have he : k = s.size := by omega
      subst he
      go_wp2
      go_ret
      exact ⟨rfl, rfl⟩

theorem at_key (s : ByteArray) : At (floatOfInt .f64 (lo (key s))) (floatOfInt .f64 (hi (key s))) (lo (key s)) (hi (key s)) := by
  have h1 := lo_range (key s)
  have h2 := hi_range (key s)
  exact at_of _ _ (by omega) (by omega)
theorem key_range (s : ByteArray) : 0 ≤ (key s : Int) ∧ (key s : Int) ≤ 4294967295 := by have := kv_lt s s.size; unfold key; omega

set_option maxRecDepth 100000 in
theorem route_any (s : ByteArray) (n : Int) (w : World) (hs : s.size ≤ 9223372036854775807) : Calls Try.prog 23 #[.string s, .int .i64 n] w fun e w' => e = .returned (.tuple #[.int .i64 (pt (lo (key s)) (hi (key s)) n), .int .i64 (pe n)]) ∧ w' = w := by
  have H : Hid _ := at_key s
  have h1 := (key_range s).1
  have h2 := (key_range s).2
  go_enter Try.func23, Try.ntmps23
  go_wp2_with (first
    | (go_at_call 12; refine (key_any s _ hs).mono ?_; rintro e w' ⟨rfl, rfl⟩)
    | (go_at_call 11; refine (point_any (key s) _ h1 h2).mono ?_; rintro e w' ⟨rfl, rfl⟩)
    | (go_at_call 21; refine (part_any _ _ _ _ n H.out _).mono ?_; rintro e w' ⟨rfl, rfl⟩))
  go_ret2
  exact ⟨rfl, rfl⟩

set_option maxRecDepth 100000 in
theorem rroute_any (s : ByteArray) (n : Int) (w : World) (hs : s.size ≤ 9223372036854775807) : Calls Try.prog 24 #[.string s, .int .i64 n] w fun e w' => e = .returned (.tuple #[.int .i64 (pt (lo (key s)) (hi (key s)) n), .int .i64 (pe n)]) ∧ w' = w := by
  have h1 := (key_range s).1
  have h2 := (key_range s).2
  have HA : Hid _ := (at_key s).ha
  have HB : Hid _ := (at_key s).hb
  go_enter Try.func24, Try.ntmps24
  go_wp2_with (first
    | (go_at_call 13; refine (rkey_any s _ hs).mono ?_; rintro e w' ⟨rfl, rfl⟩)
    | (go_at_call 10; refine (rparts_any (key s) _ h1 h2).mono ?_; rintro e w' ⟨rfl, rfl⟩)
    | (go_at_call 22; refine (rpart_any _ _ n _ HA.out HB.out).mono ?_; rintro e w' ⟨rfl, rfl⟩))
  go_ret2
  exact ⟨rfl, rfl⟩

theorem is_lit {b : Nat} {n : Int} (h : floatOfInt .f64 n = b) (hn : n.natAbs < 2 ^ 53) : Is b n := by rw [← h]; exact ofInt_is n hn
theorem at11 : At 4607182418800017408 4607182418800017408 1 1 := ⟨one_is, one_is, by decide, by decide⟩
theorem at10 : At 4607182418800017408 0 1 0 := ⟨one_is, nought_is, by decide, by decide⟩
theorem at21 : At 4611686018427387904 4607182418800017408 2 1 := ⟨is_lit (n := 2) (by decide) (by decide), one_is, by decide, by decide⟩
theorem atm10 : At 13830554455654793216 0 (-1) 0 := ⟨is_lit (n := -1) (by decide) (by decide), nought_is, by decide, by decide⟩
theorem at34 : At 4613937818241073152 4616189618054758400 3 4 := ⟨is_lit (n := 3) (by decide) (by decide), is_lit (n := 4) (by decide) (by decide), by decide, by decide⟩
theorem atm12 : At 13830554455654793216 4611686018427387904 (-1) 2 := ⟨is_lit (n := -1) (by decide) (by decide), is_lit (n := 2) (by decide) (by decide), by decide, by decide⟩
theorem key_a : key ⟨#[97]⟩ = 3826002220 := by decide

theorem pt_pos (a b n : Int) : 0 ≤ pt a b n := by
  unfold pt
  split
  · rename_i h
    by_cases h0 : a = 0 ∧ b = 0
    · obtain ⟨rfl, rfl⟩ := h0; rw [pv_middle]; omega
    · exact (pv_of a b n h.1 h.2 h0).1
  · omega

theorem part_a (w : World) : Calls Try.prog 21 #[.complex .f64 4607182418800017408 4607182418800017408, .int .i64 8] w fun e w' => e = .returned (.tuple #[.int .i64 1, .int .i64 0]) ∧ w' = w := by
  have h := part_any _ _ _ _ 8 at11 w
  rw [show pt 1 1 8 = 1 by decide, show pe 8 = 0 by decide] at h
  exact h
theorem part_b (w : World) : Calls Try.prog 21 #[.complex .f64 4607182418800017408 0, .int .i64 0] w fun e w' => e = .returned (.tuple #[.int .i64 0, .int .i64 2]) ∧ w' = w := by
  have h := part_any _ _ _ _ 0 at10 w
  rw [show pt 1 0 0 = 0 by decide, show pe 0 = 2 by decide] at h
  exact h
theorem route_a (w : World) : Calls Try.prog 23 #[.string ⟨#[97]⟩, .int .i64 64] w fun e w' => ∃ r : Int, 0 ≤ r ∧ e = .returned (.tuple #[.int .i64 r, .int .i64 0]) ∧ w' = w := by
  have h := route_any ⟨#[97]⟩ 64 w (by decide)
  rw [show pe 64 = 0 by decide] at h
  exact h.mono fun e w' hh => ⟨_, pt_pos _ _ _, hh⟩
theorem turn_a (w : World) : Calls Try.prog 16 #[.complex .f64 4611686018427387904 4607182418800017408, .int .i64 1] w fun e w' => ∃ x y : Nat, (FloatKind.f64.format.order x 13830554455654793216 = some .eq) ∧ (FloatKind.f64.format.order y 4611686018427387904 = some .eq) ∧ e = .returned (.complex .f64 x y) ∧ w' = w := by
  have t := turn_is 1 at21
  have h := turn_any _ _ _ _ 1 at21 w
  rw [show ((1 : Int) % 4).toNat = 1 by decide] at h
  exact h.mono fun e w' hh => ⟨_, _, order_eq t.re atm12.re, order_eq t.im atm12.im, hh⟩
theorem quarter_a (w : World) : Calls Try.prog 17 #[.complex .f64 13830554455654793216 0] w fun e w' => e = .returned (.int .i64 2) ∧ w' = w := by
  have h := quarter_any _ _ _ _ atm10 w
  rw [show qt (-1) 0 = 2 by decide] at h
  exact h
theorem norm_a (w : World) : Calls Try.prog 19 #[.complex .f64 4613937818241073152 4616189618054758400] w fun e w' => e = .returned (.int .i64 25) ∧ w' = w := norm_any _ _ _ _ at34 w
theorem keys_a (w : World) : Calls Try.prog 12 #[.string ⟨#[97]⟩] w fun e w' => e = .returned (.int .u32 3826002220) ∧ w' = w := by
  have h := key_any ⟨#[97]⟩ w (by decide)
  rw [key_a] at h
  exact h

set_option maxRecDepth 100000 in
set_option maxHeartbeats 1000000 in
theorem works_any (w : World) : Calls Try.prog 9 #[] w fun e w' => e = .returned (.bool true) ∧ w' = w := by
  go_enter Try.func9, Try.ntmps9
  go_wp2_with (first
    | (go_at_call 12; refine (keys_a _).mono ?_; rintro e w' ⟨rfl, rfl⟩)
    | (go_at_call 19; refine (norm_a _).mono ?_; rintro e w' ⟨rfl, rfl⟩)
    | (go_at_call 17; refine (quarter_a _).mono ?_; rintro e w' ⟨rfl, rfl⟩)
    | (go_at_call 16; refine (turn_a _).mono ?_; rintro e w' ⟨x, y, ox, oy, rfl, rfl⟩)
    | (go_at_call 23; refine (route_a _).mono ?_; rintro e w' ⟨r, hr, rfl, rfl⟩)
    | (go_at_call 21; have := HDONE; refine (part_b _).mono ?_; rintro e w' ⟨rfl, rfl⟩)
    | (go_at_call 21; refine (part_a _).mono ?_; rintro e w' ⟨rfl, rfl⟩; have HDONE : Hid True := trivial))
  go_ret
  exact ⟨rfl, rfl⟩
end Go.Proofs.Ytakahpfeajjaaaa
