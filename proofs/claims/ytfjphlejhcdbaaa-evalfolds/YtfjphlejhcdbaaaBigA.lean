/-
  The document's numbers of three places: big, carry, small: contracts.
-/
import Derived.Test.YtfjphlejhcdbaaaBasA
import Derived.Test.YtfjphlejhcdbaaaRenA
import Derived.RegionTactic
namespace Go.Proofs.Ytfjphlejhcdbaaa
section
open Go.RowKit
set_option linter.unusedVariables false

/-- A number of three places as a value. -/
def bigV (m : Bool) (a b c : Nat) : Value := .agg #[.bool m, .int .u64 a, .int .u64 b, .int .u64 c]
set_option maxRecDepth 100000 in
set_option maxHeartbeats 400000 in
theorem big_pos (u : Nat) (h1 : u ≤ 9223372036854775807) (w : World) : Calls Try.prog 73 #[.int .i64 u] w fun e w' => e = .returned (bigV false (u % 4294967296) (u / 4294967296) 0) ∧ Below w.heap.size w w' := by
  have n0 : ¬ (u : Int) < 0 := by omega
  go_enter Try.func73, Try.ntmps73
  go_wp2
  refine bodyPost_ret (v := bigV false (u % 4294967296) (u / 4294967296) 0) (by simp [results, Try.results73, go_sem, bigV]) rfl ⟨rfl, (Below.refl _ _).alloc (Nat.le_refl _) _⟩
set_option maxRecDepth 100000 in
set_option maxHeartbeats 400000 in
theorem big_neg (u : Nat) (h0 : 1 ≤ u) (h1 : u ≤ 9223372036854775808) (w : World) : Calls Try.prog 73 #[.int .i64 (-(u : Int))] w fun e w' => e = .returned (bigV true (u % 4294967296) (u / 4294967296) 0) ∧ Below w.heap.size w w' := by
  have n0 : -(u : Int) < 0 := by omega
  have w1 : IntKind.u64.wrap (-(u : Int)) = 18446744073709551616 - u := by rw [IntKind.wrap_u64]; omega
  have w2 : IntKind.u64.wrap (-(18446744073709551616 - (u : Int))) = u := by rw [IntKind.wrap_u64]; omega
  have w3 : IntKind.u64.wrap ((u : Int) - 18446744073709551616) = u := by rw [IntKind.wrap_u64]; omega
  go_enter Try.func73, Try.ntmps73
  go_wp2
  refine bodyPost_ret (v := bigV true (u % 4294967296) (u / 4294967296) 0) (by simp [results, Try.results73, go_sem, bigV]) rfl ⟨rfl, (Below.refl _ _).alloc (Nat.le_refl _) _⟩
set_option maxRecDepth 100000 in
set_option maxHeartbeats 400000 in
theorem carry_any (m : Bool) (a b c : Nat) (ha : a < 18446744073709551616) (hb : b + a / 4294967296 < 18446744073709551616) (hc : c + (b + a / 4294967296) / 4294967296 < 18446744073709551616) (w : World) :
    Calls Try.prog 95 #[bigV m a b c] w fun e w' => e = .returned (bigV m (a % 4294967296) ((b + a / 4294967296) % 4294967296) (c + (b + a / 4294967296) / 4294967296)) ∧ Below w.heap.size w w' := by
  unfold bigV
  go_enter Try.func95, Try.ntmps95
  go_wp2
  refine bodyPost_ret (v := bigV m (a % 4294967296) ((b + a / 4294967296) % 4294967296) (c + (b + a / 4294967296) / 4294967296)) (by simp [results, Try.results95, go_sem, bigV]) rfl ⟨rfl, ((Below.refl _ _).alloc (Nat.le_refl _) _).alloc (le_alloc _ _) _⟩
set_option maxRecDepth 100000 in
set_option maxHeartbeats 400000 in
theorem small_no (m : Bool) (a b c : Nat) (ha : a < 4294967296) (hb : b < 4294967296) (hc : c < 18446744073709551616) (h : 0 < c ∨ 2147483648 < b) (w : World) :
    Calls Try.prog 76 #[bigV m a b c] w fun e w' => e = .returned (.tuple #[.int .i64 0, .bool false]) ∧ Below w.heap.size w w' := by
  unfold bigV
  by_cases h1 : 0 < c
  · have h2 : (0 : Int) < c := by omega
    go_enter Try.func76, Try.ntmps76
    go_wp2
    go_ret2
    exact ⟨rfl, (Below.refl _ _).alloc (Nat.le_refl _) _⟩
  · have h2 : ¬ (0 : Int) < c := by omega
    have h3 : (2147483648 : Int) < b := by omega
    go_enter Try.func76, Try.ntmps76
    go_wp2
    go_ret2
    exact ⟨rfl, (Below.refl _ _).alloc (Nat.le_refl _) _⟩
/-- A number, if it fits. -/
def SmP (w : World) (ok : Bool) (v : Int) (e : Ending) (w' : World) : Prop := (∃ z, e = .returned (.tuple #[.int .i64 z, .bool ok]) ∧ (ok = true → z = v)) ∧ Below w.heap.size w w'
set_option maxRecDepth 100000 in
set_option maxHeartbeats 400000 in
theorem small_pos (a b : Nat) (ha : a < 4294967296) (hb : b ≤ 2147483648) (w : World) :
    Calls Try.prog 76 #[bigV false a b 0] w (SmP w (decide (b * 4294967296 + a ≤ 9223372036854775807)) ((b * 4294967296 + a : Nat) : Int)) := by
  unfold bigV
  have h3 : ¬ (2147483648 : Int) < b := by omega
  obtain ⟨v, hv⟩ : ∃ v : Nat, v = b * 4294967296 + a := ⟨_, rfl⟩
  have hv2 : (b : Int) * 4294967296 + a = v := by omega
  rw [← hv]
  have hvl : v < 18446744073709551616 := by omega
  have hm : (b : Int) * 4294967296 < 18446744073709551616 := by omega
  clear hv
  by_cases h : v ≤ 9223372036854775807
  · have h4 : (v : Int) ≤ 9223372036854775807 := by omega
    have HD : Hid (decide (v ≤ 9223372036854775807) = true) := decide_eq_true h
    rw [HD.out]
    go_enter Try.func76, Try.ntmps76
    go_wp2
    go_ret2
    exact ⟨⟨_, rfl, fun _ => rfl⟩, (Below.refl _ _).alloc (Nat.le_refl _) _⟩
  · have h4 : ¬ (v : Int) ≤ 9223372036854775807 := by omega
    have HD : Hid (decide (v ≤ 9223372036854775807) = false) := decide_eq_false h
    rw [HD.out]
    go_enter Try.func76, Try.ntmps76
    go_wp2
    go_ret2
    exact ⟨⟨_, rfl, fun h' => absurd h' (by decide)⟩, (Below.refl _ _).alloc (Nat.le_refl _) _⟩
set_option maxRecDepth 100000 in
set_option maxHeartbeats 400000 in
theorem small_neg (a b : Nat) (ha : a < 4294967296) (hb : b ≤ 2147483648) (w : World) :
    Calls Try.prog 76 #[bigV true a b 0] w (SmP w (decide (b * 4294967296 + a ≤ 9223372036854775808)) (-((b * 4294967296 + a : Nat) : Int))) := by
  unfold bigV
  have h3 : ¬ (2147483648 : Int) < b := by omega
  obtain ⟨v, hv⟩ : ∃ v : Nat, v = b * 4294967296 + a := ⟨_, rfl⟩
  have hv2 : (b : Int) * 4294967296 + a = v := by omega
  rw [← hv]
  have hvl : v < 18446744073709551616 := by omega
  have hm : (b : Int) * 4294967296 < 18446744073709551616 := by omega
  clear hv
  by_cases h : v ≤ 9223372036854775808
  · have h4 : (v : Int) ≤ 9223372036854775808 := by omega
    have HD : Hid (decide (v ≤ 9223372036854775808) = true) := decide_eq_true h
    rw [HD.out]
    have HZ : Hid (wrap64 (IntKind.u64.wrap (-(v : Int))) = -(v : Int)) := by unfold Hid; rw [IntKind.wrap_u64]; unfold wrap64; omega
    go_enter Try.func76, Try.ntmps76
    go_wp2
    go_ret2
    exact ⟨⟨_, rfl, fun _ => HZ.out⟩, (Below.refl _ _).alloc (Nat.le_refl _) _⟩
  · have h4 : ¬ (v : Int) ≤ 9223372036854775808 := by omega
    have HD : Hid (decide (v ≤ 9223372036854775808) = false) := decide_eq_false h
    rw [HD.out]
    go_enter Try.func76, Try.ntmps76
    go_wp2
    go_ret2
    exact ⟨⟨_, rfl, fun h' => absurd h' (by decide)⟩, (Below.refl _ _).alloc (Nat.le_refl _) _⟩
end
section
open Go.RowKit
set_option linter.unusedVariables false

set_option maxRecDepth 100000 in
set_option maxHeartbeats 400000 in
theorem product_no (m1 m2 : Bool) (a0 a1 b0 b1 : Nat) (ha : 1 ≤ a1) (hb : 1 ≤ b1) (w : World) :
    Calls Try.prog 75 #[bigV m1 a0 a1 0, bigV m2 b0 b1 0] w fun e w' => e = .returned (.tuple #[bigV false 0 0 0, .bool false]) ∧ Below w.heap.size w w' := by
  unfold bigV
  have h1 : (0 : Int) < a1 := by omega
  have h2 : (0 : Int) < b1 := by omega
  go_enter Try.func75, Try.ntmps75
  go_wp2
  refine bodyPost_ret (v := .tuple #[bigV false 0 0 0, .bool false]) (by simp [results, Try.results75, go_sem, bigV]) rfl ⟨rfl, (((Below.refl _ _).alloc (Nat.le_refl _) _).alloc (le_alloc _ _) _).alloc (Nat.le_trans (le_alloc _ _) (le_alloc _ _)) _⟩
theorem third_cell (w : World) (x y o : Obj) (v0 v1 v2 v3 : Value) (t : TypeId) : Cell4 ((((w.alloc x).alloc y).alloc (.cells #[v0, v1, v2, v3] t)).alloc o) (w.heap.size + 1 + 1) v0 v1 v2 v3 := by
  have h := Cell4.new ((w.alloc x).alloc y) v0 v1 v2 v3 t
  rw [size_alloc, size_alloc] at h
  exact h.alloc o
theorem below_fourth (w : World) (x y z o : Obj) : Below w.heap.size w ((((w.alloc x).alloc y).alloc z).alloc o) :=
  ((((Below.refl _ _).alloc (Nat.le_refl _) _).alloc (le_alloc _ _) _).alloc (Nat.le_trans (le_alloc _ _) (le_alloc _ _)) _).alloc (Nat.le_trans (le_alloc _ _) (Nat.le_trans (le_alloc _ _) (le_alloc _ _))) _
theorem mul_small {a b : Nat} (ha : a < 4294967296) (hb : b < 4294967296) : a * b ≤ 18446744065119617025 := by
  have h1 : a ≤ 4294967295 := by omega
  have h2 : b ≤ 4294967295 := by omega
  exact Nat.mul_le_mul h1 h2
set_option maxRecDepth 100000 in
set_option maxHeartbeats 800000 in
theorem product_left (m1 m2 : Bool) (a0 a1 b0 : Nat) (ha0 : a0 < 4294967296) (ha1 : 1 ≤ a1) (ha2 : a1 < 4294967296) (hb0 : b0 < 4294967296) (w : World) (p t s : Nat) (hp : p = a0 * b0 % 4294967296) (ht : t = a0 * b0 / 4294967296 + a1 * b0 % 4294967296) (hs : s = a1 * b0 / 4294967296) :
    Calls Try.prog 75 #[bigV m1 a0 a1 0, bigV m2 b0 0 0] w fun e w' => e = .returned (.tuple #[bigV (m1 != m2) p (t % 4294967296) (s + t / 4294967296), .bool true]) ∧ Below w.heap.size w w' := by
  have hl := mul_small ha0 hb0
  have hmid := mul_small ha2 hb0
  have HC0 := carry_any (m1 != m2) p t s (by omega) (by omega) (by omega)
  have e1 : p / 4294967296 = 0 := by omega
  have e2 : p % 4294967296 = p := by omega
  rw [e1, e2, Nat.add_zero] at HC0
  have HC : Hid (∀ w, Calls Try.prog 95 #[.agg #[.bool (m1 != m2), .int .u64 p, .int .u64 t, .int .u64 s]] w fun e w' => e = .returned (bigV (m1 != m2) p (t % 4294967296) (s + t / 4294967296)) ∧ Below w.heap.size w w') := HC0
  have HB : Hid (∃ d0 d1 d2, bigV (m1 != m2) p (t % 4294967296) (s + t / 4294967296) = .agg #[.bool (m1 != m2), .int .u64 d0, .int .u64 d1, .int .u64 d2]) := ⟨_, _, _, rfl⟩
  obtain ⟨d0, d1, d2, hd⟩ := HB.out
  have HD : Hid (bigV (m1 != m2) p (t % 4294967296) (s + t / 4294967296) = .agg #[.bool (m1 != m2), .int .u64 d0, .int .u64 d1, .int .u64 d2]) := hd
  rw [hd] at HC ⊢
  have c1 : ((a0 * b0 : Nat) : Int) = (a0 : Int) * b0 := Int.natCast_mul _ _
  have c2 : ((a1 * b0 : Nat) : Int) = (a1 : Int) * b0 := Int.natCast_mul _ _
  have q1 : 0 ≤ (a0 : Int) * b0 := by omega
  have q2 : (a0 : Int) * b0 < 18446744073709551616 := by omega
  have q3 : 0 ≤ (a1 : Int) * b0 := by omega
  have q4 : (a1 : Int) * b0 < 18446744073709551616 := by omega
  have r3 : (a0 : Int) * b0 % 4294967296 = p := by omega
  have r4 : (a0 : Int) * b0 / 4294967296 + (a1 : Int) * b0 % 4294967296 = t := by omega
  have r5 : (a1 : Int) * b0 / 4294967296 = s := by omega
  have h1 : (0 : Int) < a1 := by omega
  have h3 : ((a1 : Int) == 0) = false := by rw [beq_eq_false_iff_ne]; omega
  clear hd HB hp ht hs HC0 e1 e2 HD hl hmid c1 c2
  unfold bigV
  have z0 : (0 : Int) ≤ a0 := by omega
  have z1 : (0 : Int) ≤ b0 := by omega
  have z2 : (a0 : Int) < 4294967296 := by omega
  have z3 : (b0 : Int) < 4294967296 := by omega
  have z4 : (a1 : Int) < 4294967296 := by omega
  clear ha0 ha1 ha2 hb0
  generalize (a0 : Int) = A0 at *
  generalize (a1 : Int) = A1 at *
  generalize (b0 : Int) = B0 at *
  go_enter Try.func75, Try.ntmps75
  go_wp2_with (go_at_call 95; refine (HC.out _).mono ?_; rintro e w2 ⟨rfl, HB⟩; obtain ⟨q0, q1, q2, q3, q4⟩ := (third_cell w _ _ _ _ _ _ _ _).below HB; have HB2 : Hid (Below w.heap.size w w2) := (below_fourth w _ _ _ _).trans (HB.mono (below_fourth w _ _ _ _).size); have hl2 := World.block_lt_of_cell? _ _ q0; clear HB)
  refine bodyPost_ret (v := .tuple #[.agg #[.bool (m1 != m2), .int .u64 d0, .int .u64 d1, .int .u64 d2], .bool true]) (by simp [results, Try.results75, go_sem, q0, q1, q2, q3]) rfl ⟨rfl, below_four HB2.out (M := w.heap.size + 1 + 1) (o := 0) (by omega)⟩
end
section
open Go.RowKit
set_option linter.unusedVariables false

set_option maxRecDepth 100000 in
set_option maxHeartbeats 800000 in
theorem product_right (m1 m2 : Bool) (a0 b0 b1 : Nat) (ha0 : a0 < 4294967296) (hb0 : b0 < 4294967296) (hb1 : b1 < 4294967296) (w : World) (p t s : Nat) (hp : p = a0 * b0 % 4294967296) (ht : t = a0 * b0 / 4294967296 + a0 * b1 % 4294967296) (hs : s = a0 * b1 / 4294967296) :
    Calls Try.prog 75 #[bigV m1 a0 0 0, bigV m2 b0 b1 0] w fun e w' => e = .returned (.tuple #[bigV (m1 != m2) p (t % 4294967296) (s + t / 4294967296), .bool true]) ∧ Below w.heap.size w w' := by
  have hl := mul_small ha0 hb0
  have hmid := mul_small ha0 hb1
  have HC0 := carry_any (m1 != m2) p t s (by omega) (by omega) (by omega)
  have e1 : p / 4294967296 = 0 := by omega
  have e2 : p % 4294967296 = p := by omega
  rw [e1, e2, Nat.add_zero] at HC0
  have HC : Hid (∀ w, Calls Try.prog 95 #[.agg #[.bool (m1 != m2), .int .u64 p, .int .u64 t, .int .u64 s]] w fun e w' => e = .returned (bigV (m1 != m2) p (t % 4294967296) (s + t / 4294967296)) ∧ Below w.heap.size w w') := HC0
  have HB : Hid (∃ d0 d1 d2, bigV (m1 != m2) p (t % 4294967296) (s + t / 4294967296) = .agg #[.bool (m1 != m2), .int .u64 d0, .int .u64 d1, .int .u64 d2]) := ⟨_, _, _, rfl⟩
  obtain ⟨d0, d1, d2, hd⟩ := HB.out
  have HD : Hid (bigV (m1 != m2) p (t % 4294967296) (s + t / 4294967296) = .agg #[.bool (m1 != m2), .int .u64 d0, .int .u64 d1, .int .u64 d2]) := hd
  rw [hd] at HC ⊢
  have c1 : ((a0 * b0 : Nat) : Int) = (a0 : Int) * b0 := Int.natCast_mul _ _
  have c2 : ((a0 * b1 : Nat) : Int) = (a0 : Int) * b1 := Int.natCast_mul _ _
  have q1 : 0 ≤ (a0 : Int) * b0 := by omega
  have q2 : (a0 : Int) * b0 < 18446744073709551616 := by omega
  have q3 : 0 ≤ (a0 : Int) * b1 := by omega
  have q4 : (a0 : Int) * b1 < 18446744073709551616 := by omega
  have r3 : (a0 : Int) * b0 % 4294967296 = p := by omega
  have r4 : (a0 : Int) * b0 / 4294967296 + (a0 : Int) * b1 % 4294967296 = t := by omega
  have r5 : (a0 : Int) * b1 / 4294967296 = s := by omega
  clear hd HB hp ht hs HC0 e1 e2 HD hl hmid c1 c2
  unfold bigV
  have z0 : (0 : Int) ≤ a0 := by omega
  have z1 : (0 : Int) ≤ b0 := by omega
  have z2 : (a0 : Int) < 4294967296 := by omega
  have z3 : (b0 : Int) < 4294967296 := by omega
  have z4 : (b1 : Int) < 4294967296 := by omega
  clear ha0 hb0 hb1
  generalize (a0 : Int) = A0 at *
  generalize (b1 : Int) = B1 at *
  generalize (b0 : Int) = B0 at *
  go_enter Try.func75, Try.ntmps75
  go_wp2_with (go_at_call 95; refine (HC.out _).mono ?_; rintro e w2 ⟨rfl, HB⟩; obtain ⟨q0, q1, q2, q3, q4⟩ := (third_cell w _ _ _ _ _ _ _ _).below HB; have HB2 : Hid (Below w.heap.size w w2) := (below_fourth w _ _ _ _).trans (HB.mono (below_fourth w _ _ _ _).size); have hl2 := World.block_lt_of_cell? _ _ q0; clear HB)
  refine bodyPost_ret (v := .tuple #[.agg #[.bool (m1 != m2), .int .u64 d0, .int .u64 d1, .int .u64 d2], .bool true]) (by simp [results, Try.results75, go_sem, q0, q1, q2, q3]) rfl ⟨rfl, below_four HB2.out (M := w.heap.size + 1 + 1) (o := 0) (by omega)⟩
end
section
open Go.RowKit
set_option linter.unusedVariables false

theorem third3 (w : World) (x y : Obj) (v0 v1 v2 v3 : Value) (t : TypeId) : Cell4 (((w.alloc x).alloc y).alloc (.cells #[v0, v1, v2, v3] t)) (w.heap.size + 1 + 1) v0 v1 v2 v3 := by
  have h := Cell4.new ((w.alloc x).alloc y) v0 v1 v2 v3 t
  rw [size_alloc, size_alloc] at h
  exact h
theorem below_third (w : World) (x y z : Obj) : Below w.heap.size w (((w.alloc x).alloc y).alloc z) :=
  (((Below.refl _ _).alloc (Nat.le_refl _) _).alloc (le_alloc _ _) _).alloc (Nat.le_trans (le_alloc _ _) (le_alloc _ _)) _
set_option maxRecDepth 100000 in
set_option maxHeartbeats 800000 in
theorem sum_same (m : Bool) (a0 a1 b0 b1 : Nat) (ha0 : a0 < 4294967296) (ha1 : a1 < 4294967296) (hb0 : b0 < 4294967296) (hb1 : b1 < 4294967296) (w : World) (p q : Nat) (hp : p = a0 + b0) (hq : q = a1 + b1) :
    Calls Try.prog 74 #[bigV m a0 a1 0, bigV m b0 b1 0] w fun e w' => e = .returned (bigV m (p % 4294967296) ((q + p / 4294967296) % 4294967296) ((q + p / 4294967296) / 4294967296)) ∧ Below w.heap.size w w' := by
  have HC0 := carry_any m p q 0 (by omega) (by omega) (by omega)
  rw [Nat.zero_add] at HC0
  have HC : Hid (∀ w, Calls Try.prog 95 #[.agg #[.bool m, .int .u64 p, .int .u64 q, .int .u64 0]] w fun e w' => e = .returned (bigV m (p % 4294967296) ((q + p / 4294967296) % 4294967296) ((q + p / 4294967296) / 4294967296)) ∧ Below w.heap.size w w') := HC0
  have HB : Hid (∃ d0 d1 d2, bigV m (p % 4294967296) ((q + p / 4294967296) % 4294967296) ((q + p / 4294967296) / 4294967296) = .agg #[.bool m, .int .u64 d0, .int .u64 d1, .int .u64 d2]) := ⟨_, _, _, rfl⟩
  obtain ⟨d0, d1, d2, hd⟩ := HB.out
  rw [hd] at HC ⊢
  have r1 : (a0 : Int) + b0 = p := by omega
  have r2 : (a1 : Int) + b1 = q := by omega
  have l1 : (p : Int) < 18446744073709551616 := by omega
  have l2 : (q : Int) < 18446744073709551616 := by omega
  have l3 : (0 : Int) ≤ p := by omega
  have l4 : (0 : Int) ≤ q := by omega
  clear hd HB hp hq HC0 ha0 ha1 hb0 hb1
  unfold bigV
  generalize (a0 : Int) = A0 at *
  generalize (a1 : Int) = A1 at *
  generalize (b0 : Int) = B0 at *
  generalize (b1 : Int) = B1 at *
  go_enter Try.func74, Try.ntmps74
  go_wp2_with (go_at_call 95; refine (HC.out _).mono ?_; rintro e w2 ⟨rfl, HB⟩; obtain ⟨q0, q1, q2, q3, q4⟩ := (third3 w _ _ _ _ _ _ _).below HB; have HB2 : Hid (Below w.heap.size w w2) := (below_third w _ _ _).trans (HB.mono (below_third w _ _ _).size); have hl2 := World.block_lt_of_cell? _ _ q0; clear HB)
  refine bodyPost_ret (v := .agg #[.bool m, .int .u64 d0, .int .u64 d1, .int .u64 d2]) (by simp [results, Try.results74, go_sem, q0, q1, q2, q3]) rfl ⟨rfl, below_four HB2.out (M := w.heap.size + 1 + 1) (o := 0) (by omega)⟩
theorem Cell4.drew {w : World} {b : Nat} {v0 v1 v2 v3 : Value} (h : Cell4 w b v0 v1 v2 v3) : Cell4 w.drew b v0 v1 v2 v3 := ⟨h.c0, h.c1, h.c2, h.c3, h.free⟩
/-- Is the size of one less than that of another? -/
def lessM (a0 a1 b0 b1 : Nat) : Bool := if a1 ≠ b1 then decide (a1 < b1) else if a0 ≠ b0 then decide (a0 < b0) else false
set_option maxRecDepth 100000 in
set_option maxHeartbeats 800000 in
theorem less_any (m1 m2 : Bool) (a0 a1 b0 b1 : Nat) (w : World) :
    Calls Try.prog 96 #[bigV m1 a0 a1 0, bigV m2 b0 b1 0] w fun e w' => e = .returned (.bool (lessM a0 a1 b0 b1)) ∧ Below w.heap.size w w' := by
  unfold bigV
  generalize hL : lessM a0 a1 b0 b1 = L at *
  have HB0 : Hid (∀ x y, Below w.heap.size w ((w.alloc x).alloc y)) := fun x y => ((Below.refl _ _).alloc (Nat.le_refl _) _).alloc (le_alloc _ _) _
  have HL : Hid (lessM a0 a1 b0 b1 = L) := hL
  clear hL
  go_enter Try.func96, Try.ntmps96
  go_wp2_with fail
  have HC0 : Hid (Cell4 ((w.alloc (.cells #[.bool m1, .int .u64 a0, .int .u64 a1, .int .u64 0] 103)).alloc (.cells #[.bool m2, .int .u64 b0, .int .u64 b1, .int .u64 0] 103)) w.heap.size (.bool m1) (.int .u64 a0) (.int .u64 a1) (.int .u64 0) ∧ Cell4 ((w.alloc (.cells #[.bool m1, .int .u64 a0, .int .u64 a1, .int .u64 0] 103)).alloc (.cells #[.bool m2, .int .u64 b0, .int .u64 b1, .int .u64 0] 103)) (w.heap.size + 1) (.bool m2) (.int .u64 b0) (.int .u64 b1) (.int .u64 0)) := by
    refine ⟨(Cell4.new w _ _ _ _ 103).alloc _, ?_⟩
    have h := Cell4.new (w.alloc (.cells #[.bool m1, .int .u64 a0, .int .u64 a1, .int .u64 0] 103)) (.bool m2) (.int .u64 b0) (.int .u64 b1) (.int .u64 0) 103
    rw [size_alloc] at h
    exact h
  have HBB := HB0.out (.cells #[.bool m1, .int .u64 a0, .int .u64 a1, .int .u64 0] 103) (.cells #[.bool m2, .int .u64 b0, .int .u64 b1, .int .u64 0] 103)
  have HB1 : Hid (Below w.heap.size w ((w.alloc (.cells #[.bool m1, .int .u64 a0, .int .u64 a1, .int .u64 0] 103)).alloc (.cells #[.bool m2, .int .u64 b0, .int .u64 b1, .int .u64 0] 103))) := HBB
  clear HBB HB0
  generalize (w.alloc (.cells #[.bool m1, .int .u64 a0, .int .u64 a1, .int .u64 0] 103)).alloc (.cells #[.bool m2, .int .u64 b0, .int .u64 b1, .int .u64 0] 103) = w0 at *
  go_loopw [5] (fun v wr => ∃ k : Nat, k ≤ 3 ∧ v = .int .i64 ((k : Int) - 1) ∧ Hid (Below w.heap.size w wr ∧ Cell4 wr w.heap.size (.bool m1) (.int .u64 a0) (.int .u64 a1) (.int .u64 0) ∧ Cell4 wr (w.heap.size + 1) (.bool m2) (.int .u64 b0) (.int .u64 b1) (.int .u64 0) ∧ (k ≤ 1 → a1 = b1) ∧ (k = 0 → a0 = b0))) (fun v _ => (intOf v + 1).toNat)
  case atStart => exact ⟨3, Nat.le_refl _, rfl, HB1.out, HC0.out.1, HC0.out.2, fun h => by omega, fun h => by omega⟩
  case round =>
    obtain ⟨k, hk, rfl, HR⟩ := hrel
    obtain ⟨p0, p1, p2, p3, p4⟩ := HR.out.2.1
    obtain ⟨q0, q1, q2, q3, q4⟩ := HR.out.2.2.1
    have hk4 : k = 0 ∨ k = 1 ∨ k = 2 ∨ k = 3 := by omega
    have HDr : Hid (Below w.heap.size w wr.drew) := Below.drew HR.out.1
    have hl0 := World.block_lt_of_cell? _ _ p0
    have hl1 := World.block_lt_of_cell? _ _ q0
    rcases hk4 with rfl | rfl | rfl | rfl
    · rw [show ((((0 : Nat) : Int)) - 1) = -1 from rfl]
      have HX : Hid (L = false) := by
        have h := HL.out
        unfold lessM at h
        rw [if_neg (fun h' => h' (HR.out.2.2.2.1 (by omega))), if_neg (fun h' => h' (HR.out.2.2.2.2 rfl))] at h
        exact h.symm
      go_wp2
      go_ret
      exact ⟨by rw [HX.out]; rfl, HR.out.1⟩
    · rw [show ((((1 : Nat) : Int)) - 1) = 0 from rfl]
      by_cases hx : a0 = b0
      · have hx2 : ((a0 : Int) != b0) = false := by rw [hx]; simp
        have HX : Hid (a0 = b0) := hx
        clear hx
        go_wp2
        go_region
        go_wp2
        go_roundw
        case rel => exact ⟨_, _, _, _, _, _, _, _, _, _, _, _, _, _, _, _, _, _, _, _, _, _, _, _, ⟨0, by omega, rfl, HDr.out, HR.out.2.1.drew, HR.out.2.2.1.drew, fun _ => HR.out.2.2.2.1 (by omega), fun _ => HX.out⟩, rfl⟩
        case measure => simp [intOf]
      · have hx2 : ((a0 : Int) != b0) = true := by simp; omega
        have HX : Hid (L = decide (a0 < b0)) := by
          have h := HL.out
          unfold lessM at h
          rw [if_neg (fun h' => h' (HR.out.2.2.2.1 (by omega))), if_pos hx] at h
          exact h.symm
        clear hx
        go_wp2
        go_region
        go_wp2
        go_region
        go_wp2
        go_ret
        exact ⟨by rw [HX.out]; rfl, Below.drew HDr.out⟩
    · rw [show ((((2 : Nat) : Int)) - 1) = 1 from rfl]
      by_cases hx : a1 = b1
      · have hx2 : ((a1 : Int) != b1) = false := by rw [hx]; simp
        have HX : Hid (a1 = b1) := hx
        clear hx
        go_wp2
        go_region
        go_wp2
        go_roundw
        case rel => exact ⟨_, _, _, _, _, _, _, _, _, _, _, _, _, _, _, _, _, _, _, _, _, _, _, _, ⟨1, by omega, rfl, HDr.out, HR.out.2.1.drew, HR.out.2.2.1.drew, fun _ => HX.out, fun h => by omega⟩, rfl⟩
        case measure => simp [intOf]
      · have hx2 : ((a1 : Int) != b1) = true := by simp; omega
        have HX : Hid (L = decide (a1 < b1)) := by
          have h := HL.out
          unfold lessM at h
          rw [if_pos hx] at h
          exact h.symm
        clear hx
        go_wp2
        go_region
        go_wp2
        go_region
        go_wp2
        go_ret
        exact ⟨by rw [HX.out]; rfl, Below.drew HDr.out⟩
    · rw [show ((((3 : Nat) : Int)) - 1) = 2 from rfl]
      go_wp2
      go_region
      go_wp2
      go_roundw
      case rel => exact ⟨_, _, _, _, _, _, _, _, _, _, _, _, _, _, _, _, _, _, _, _, _, _, _, _, ⟨2, by omega, rfl, HDr.out, HR.out.2.1.drew, HR.out.2.2.1.drew, fun h => by omega, fun h => by omega⟩, rfl⟩
      case measure => simp [intOf]
end
section
open Go.RowKit
set_option linter.unusedVariables false

/-- What lies where while the places are taken off one another. -/
structure Sub (w wr : World) (m1 m2 : Bool) (a0 a1 b0 b1 : Nat) (ob x0 x1 : Nat) : Prop where
  low : Below w.heap.size w wr
  a : Cell4 wr w.heap.size (.bool m1) (.int .u64 a0) (.int .u64 a1) (.int .u64 0)
  b : Cell4 wr (w.heap.size + 1) (.bool m2) (.int .u64 b0) (.int .u64 b1) (.int .u64 0)
  r : Cell4 wr (w.heap.size + 1 + 1) (.bool false) (.int .u64 0) (.int .u64 0) (.int .u64 0)
  hob : w.heap.size + 1 + 1 < ob
  o : Cell4 wr ob (.bool m1) (.int .u64 x0) (.int .u64 x1) (.int .u64 0)
theorem Cell4.put1 {w : World} {b : Nat} {v0 v1 v2 v3 : Value} (h : Cell4 w b v0 v1 v2 v3) (x : Value) : Cell4 (w.setCell ⟨b, 1, none⟩ x) b v0 x v2 v3 :=
  ⟨by rw [cell_put h.c0]; rfl, by rw [cell_put h.c1]; rfl, by rw [cell_put h.c2]; rfl, by rw [cell_put h.c3]; rfl, fun i => by simp only [World.frozen?_setCell]; exact h.free i⟩
theorem Cell4.put2 {w : World} {b : Nat} {v0 v1 v2 v3 : Value} (h : Cell4 w b v0 v1 v2 v3) (x : Value) : Cell4 (w.setCell ⟨b, 2, none⟩ x) b v0 v1 x v3 :=
  ⟨by rw [cell_put h.c0]; rfl, by rw [cell_put h.c1]; rfl, by rw [cell_put h.c2]; rfl, by rw [cell_put h.c3]; rfl, fun i => by simp only [World.frozen?_setCell]; exact h.free i⟩
theorem Cell4.put30 {w : World} {b : Nat} {v0 v1 v2 v3 : Value} (h : Cell4 w b v0 v1 v2 v3) (x : Value) : Cell4 (w.setCell ⟨b, 3, none⟩ x) b v0 v1 v2 x :=
  ⟨by rw [cell_put h.c0]; rfl, by rw [cell_put h.c1]; rfl, by rw [cell_put h.c2]; rfl, by rw [cell_put h.c3]; rfl, fun i => by simp only [World.frozen?_setCell]; exact h.free i⟩
theorem Sub.put {w wr : World} {m1 m2 : Bool} {a0 a1 b0 b1 ob x0 x1 y0 y1 : Nat} (h : Sub w wr m1 m2 a0 a1 b0 b1 ob x0 x1) {j : Nat} {v : Value} (ho : Cell4 (wr.setCell ⟨ob, j, none⟩ v) ob (.bool m1) (.int .u64 y0) (.int .u64 y1) (.int .u64 0)) : Sub w (wr.setCell ⟨ob, j, none⟩ v) m1 m2 a0 a1 b0 b1 ob y0 y1 := by
  have hb := h.hob
  exact ⟨h.low.setCell (p := ⟨ob, j, none⟩) (by show w.heap.size ≤ ob; omega) _, h.a.far (by show w.heap.size ≠ ob; omega) _, h.b.far (by show w.heap.size + 1 ≠ ob; omega) _, h.r.far (by show w.heap.size + 1 + 1 ≠ ob; omega) _, hb, ho⟩
theorem Sub.new (w w2 : World) (m1 m2 : Bool) (a0 a1 b0 b1 : Nat) (HB : Below (((w.alloc (.cells #[.bool m1, .int .u64 a0, .int .u64 a1, .int .u64 0] 103)).alloc (.cells #[.bool m2, .int .u64 b0, .int .u64 b1, .int .u64 0] 103)).alloc (.cells #[.bool false, .int .u64 0, .int .u64 0, .int .u64 0] 103)).heap.size (((w.alloc (.cells #[.bool m1, .int .u64 a0, .int .u64 a1, .int .u64 0] 103)).alloc (.cells #[.bool m2, .int .u64 b0, .int .u64 b1, .int .u64 0] 103)).alloc (.cells #[.bool false, .int .u64 0, .int .u64 0, .int .u64 0] 103)) w2) :
    Cell4 w2 w.heap.size (.bool m1) (.int .u64 a0) (.int .u64 a1) (.int .u64 0) ∧ Cell4 w2 (w.heap.size + 1) (.bool m2) (.int .u64 b0) (.int .u64 b1) (.int .u64 0) ∧ Cell4 w2 (w.heap.size + 1 + 1) (.bool false) (.int .u64 0) (.int .u64 0) (.int .u64 0) ∧ Below w.heap.size w w2 := by
  refine ⟨(((Cell4.new w _ _ _ _ 103).alloc _).alloc _).below HB, ?_, (third3 w _ _ _ _ _ _ 103).below HB, (below_third w _ _ _).trans (HB.mono (below_third w _ _ _).size)⟩
  have h := Cell4.new (w.alloc (.cells #[.bool m1, .int .u64 a0, .int .u64 a1, .int .u64 0] 103)) (.bool m2) (.int .u64 b0) (.int .u64 b1) (.int .u64 0) 103
  rw [size_alloc] at h
  exact (h.alloc _).below HB
theorem less_not {a0 a1 b0 b1 : Nat} (h : lessM a0 a1 b0 b1 = false) : b1 < a1 ∨ (a1 = b1 ∧ b0 ≤ a0) := by
  unfold lessM at h
  by_cases e : a1 = b1
  · rw [if_neg (fun h' => h' e)] at h
    by_cases f : a0 = b0
    · exact .inr ⟨e, by omega⟩
    · rw [if_pos f] at h
      have := of_decide_eq_false h
      exact .inr ⟨e, by omega⟩
  · rw [if_pos e] at h
    have := of_decide_eq_false h
    exact .inl (by omega)
set_option maxRecDepth 100000 in
set_option maxHeartbeats 1200000 in
theorem sum_sub (m1 m2 : Bool) (hm : (m1 == m2) = false) (a0 a1 b0 b1 : Nat) (ha0 : a0 < 4294967296) (ha1 : a1 < 4294967296) (hb0 : b0 < 4294967296) (hb1 : b1 < 4294967296) (hl : lessM a0 a1 b0 b1 = false) (w : World) (r0 r1 c : Nat) (hr : (a0 < b0 ∧ c = 1 ∧ r0 + b0 = a0 + 4294967296 ∧ r1 + b1 + 1 = a1) ∨ (b0 ≤ a0 ∧ c = 0 ∧ r0 + b0 = a0 ∧ r1 + b1 = a1)) :
    Calls Try.prog 74 #[bigV m1 a0 a1 0, bigV m2 b0 b1 0] w fun e w' => e = .returned (bigV m1 r0 r1 0) ∧ Below w.heap.size w w' := by
  have HLs : Hid (∀ w, Calls Try.prog 96 #[.agg #[.bool m1, .int .u64 a0, .int .u64 a1, .int .u64 0], .agg #[.bool m2, .int .u64 b0, .int .u64 b1, .int .u64 0]] w fun e w' => e = .returned (.bool false) ∧ Below w.heap.size w w') := fun w => by
    have := less_any m1 m2 a0 a1 b0 b1 w
    rw [hl] at this
    exact this
  clear hl
  unfold bigV
  go_enter Try.func74, Try.ntmps74
  go_wp2_with (go_at_call 96; refine (HLs.out _).mono ?_; rintro e w2 ⟨rfl, HB⟩; obtain ⟨k1, k2, k3, k4⟩ := Sub.new w w2 m1 m2 a0 a1 b0 b1 HB; have HS0 : Hid (Sub w (w2.alloc (.cells #[.bool m1, .int .u64 0, .int .u64 0, .int .u64 0] 103)) m1 m2 a0 a1 b0 b1 w2.heap.size 0 0) := ⟨k4.alloc k4.size _, k1.alloc _, k2.alloc _, k3.alloc _, k3.lt, Cell4.new w2 _ _ _ _ 103⟩; obtain ⟨p0, p1, p2, p3, p4⟩ := k1; have hlp : w.heap.size < w2.heap.size := World.block_lt_of_cell? _ _ p0; clear HB k2 k3 k4)
  generalize w2.alloc (.cells #[.bool m1, .int .u64 0, .int .u64 0, .int .u64 0] 103) = w3 at *
  generalize w2.heap.size = ob at *
  go_loopw [6, 7] (fun vb vi wr => ∃ (k bor x0 x1 : Nat), vi = .int .i64 k ∧ vb = .int .u64 bor ∧ Hid (((k = 0 ∧ bor = 0 ∧ x0 = 0 ∧ x1 = 0) ∨ (k = 1 ∧ bor = c ∧ x0 = r0 ∧ x1 = 0) ∨ (k = 2 ∧ bor = 0 ∧ x0 = r0 ∧ x1 = r1) ∨ (k = 3 ∧ bor = 0 ∧ x0 = r0 ∧ x1 = r1)) ∧ Sub w wr m1 m2 a0 a1 b0 b1 ob x0 x1)) (fun _ vi _ => 3 - (intOf vi).toNat)
  case atStart => exact ⟨0, 0, 0, 0, rfl, rfl, .inl ⟨rfl, rfl, rfl, rfl⟩, HS0.out⟩
  case round =>
    obtain ⟨k, bor, x0, x1, rfl, rfl, HR⟩ := hrel
    obtain ⟨hc, hS⟩ := HR.out
    clear HR
    have HS : Hid (Sub w wr m1 m2 a0 a1 b0 b1 ob x0 x1) := hS
    clear hS
    obtain ⟨p0, p1, p2, p3, p4⟩ := HS.out.a
    obtain ⟨q0, q1, q2, q3, q4⟩ := HS.out.b
    obtain ⟨s0, s1, s2, s3, s4⟩ := HS.out.r
    obtain ⟨o0, o1, o2, o3, o4⟩ := HS.out.o
    have g1 := World.block_lt_of_cell? _ _ p0
    have g2 := World.block_lt_of_cell? _ _ q0
    have g3 := World.block_lt_of_cell? _ _ s0
    have g4 := World.block_lt_of_cell? _ _ o0
    have hob := HS.out.hob
    rcases hc with ⟨rfl, rfl, rfl, rfl⟩ | ⟨rfl, rfl, rfl, rfl⟩ | ⟨rfl, rfl, rfl, rfl⟩ | ⟨rfl, rfl, rfl, rfl⟩
    · rw [show (((0 : Nat) : Int)) = 0 from rfl]
      rcases hr with ⟨h1, rfl, h2, h3⟩ | ⟨h1, rfl, h2, h3⟩
      · have f1 : (a0 : Int) < b0 := by omega
        have f2 : (a0 : Int) + 4294967296 - b0 = r0 := by omega
        go_wp2
        go_roundw
        case rel => exact ⟨1, 1, r0, 0, rfl, rfl, .inr (.inl ⟨rfl, rfl, rfl, rfl⟩), HS.out.put (HS.out.o.put1 _)⟩
        case measure => simp [intOf]
      · have f1 : ¬ (a0 : Int) < b0 := by omega
        have f2 : (a0 : Int) - b0 = r0 := by omega
        go_wp2
        go_roundw
        case rel => exact ⟨1, 0, r0, 0, rfl, rfl, .inr (.inl ⟨rfl, rfl, rfl, rfl⟩), HS.out.put (HS.out.o.put1 _)⟩
        case measure => simp [intOf]
    · rw [show (((1 : Nat) : Int)) = 1 from rfl]
      have f1 : ¬ (a1 : Int) < b1 + bor := by omega
      have f2 : (a1 : Int) - (b1 + bor) = r1 := by omega
      have f3 : (bor : Int) ≤ 1 := by omega
      clear hr
      go_wp2
      go_roundw
      case rel => exact ⟨2, 0, x0, r1, rfl, rfl, .inr (.inr (.inl ⟨rfl, rfl, rfl, rfl⟩)), HS.out.put (HS.out.o.put2 _)⟩
      case measure => simp [intOf]
    · rw [show (((2 : Nat) : Int)) = 2 from rfl, show (((0 : Nat) : Int)) = 0 from rfl]
      clear hr
      go_wp2
      go_roundw
      case rel => exact ⟨3, 0, x0, x1, rfl, rfl, .inr (.inr (.inr ⟨rfl, rfl, rfl, rfl⟩)), HS.out.put (HS.out.o.put30 _)⟩
      case measure => simp [intOf]
    · rw [show (((3 : Nat) : Int)) = 3 from rfl]
      clear hr
      go_wp2
      refine bodyPost_ret (v := .agg #[.bool m1, .int .u64 x0, .int .u64 x1, .int .u64 0]) (by simp [results, Try.results74, go_sem, s0, s1, s2, s3]) rfl ⟨rfl, below_four HS.out.low (M := w.heap.size + 1 + 1) (o := 0) (by omega)⟩
end
section
open Go.RowKit
set_option linter.unusedVariables false

/-- The number that a sign and three places are. -/
def valB (m : Bool) (a b c : Nat) : Int := if m = true then -((c * 18446744073709551616 + b * 4294967296 + a : Nat) : Int) else ((c * 18446744073709551616 + b * 4294967296 + a : Nat) : Int)
def SumP (w : World) (v : Int) (e : Ending) (w' : World) : Prop := (∃ m r0 r1 r2, e = .returned (bigV m r0 r1 r2) ∧ r0 < 4294967296 ∧ r1 < 4294967296 ∧ r2 < 4294967296 ∧ valB m r0 r1 r2 = v) ∧ Below w.heap.size w w'
set_option maxRecDepth 100000 in
set_option maxHeartbeats 800000 in
theorem sum_less (m1 m2 : Bool) (hm : (m1 == m2) = false) (a0 a1 b0 b1 : Nat) (hl : lessM a0 a1 b0 b1 = true) (w : World) (r0 r1 : Nat)
    (HS : Hid (∀ w, Calls Try.prog 74 #[.agg #[.bool m2, .int .u64 b0, .int .u64 b1, .int .u64 0], .agg #[.bool m1, .int .u64 a0, .int .u64 a1, .int .u64 0]] w fun e w' => e = .returned (.agg #[.bool m2, .int .u64 r0, .int .u64 r1, .int .u64 0]) ∧ Below w.heap.size w w')) :
    Calls Try.prog 74 #[bigV m1 a0 a1 0, bigV m2 b0 b1 0] w fun e w' => e = .returned (bigV m2 r0 r1 0) ∧ Below w.heap.size w w' := by
  have HLs : Hid (∀ w, Calls Try.prog 96 #[.agg #[.bool m1, .int .u64 a0, .int .u64 a1, .int .u64 0], .agg #[.bool m2, .int .u64 b0, .int .u64 b1, .int .u64 0]] w fun e w' => e = .returned (.bool true) ∧ Below w.heap.size w w') := fun w => by
    have := less_any m1 m2 a0 a1 b0 b1 w
    rw [hl] at this
    exact this
  clear hl
  unfold bigV
  go_enter Try.func74, Try.ntmps74
  go_wp2_with (first
    | (go_at_call 74; have := HK; refine (HS.out _).mono ?_; rintro e w3 ⟨rfl, HB⟩; obtain ⟨s0, s1, s2, s3, s4⟩ := HK.out.1.below HB; have g3 := World.block_lt_of_cell? _ _ s0; have HF : Hid (Below w.heap.size w w3) := HK.out.2.trans (HB.mono HK.out.2.size); clear HB HK)
    | (go_at_call 96; refine (HLs.out _).mono ?_; rintro e w2 ⟨rfl, HB⟩; obtain ⟨⟨p0, p1, p2, p3, p4⟩, ⟨q0, q1, q2, q3, q4⟩, k3, k4⟩ := Sub.new w w2 m1 m2 a0 a1 b0 b1 HB; have HK : Hid (Cell4 w2 (w.heap.size + 1 + 1) (.bool false) (.int .u64 0) (.int .u64 0) (.int .u64 0) ∧ Below w.heap.size w w2) := ⟨k3, k4⟩; clear HB k3 k4))
  refine bodyPost_ret (v := .agg #[.bool m2, .int .u64 r0, .int .u64 r1, .int .u64 0]) (by simp [results, Try.results74, go_sem, s0, s1, s2, s3]) rfl ⟨rfl, below_four HF.out (M := w.heap.size + 1 + 1) (o := 0) (by omega)⟩
theorem less_yes {a0 a1 b0 b1 : Nat} (h : lessM a0 a1 b0 b1 = true) : lessM b0 b1 a0 a1 = false := by
  unfold lessM at h ⊢
  by_cases e : a1 = b1
  · rw [if_neg (fun h' => h' e)] at h
    rw [if_neg (fun h' => h' e.symm)]
    by_cases f : a0 = b0
    · rw [if_neg (fun h' => h' f)] at h; cases h
    · rw [if_pos f] at h
      rw [if_pos (fun h' => f h'.symm)]
      have := of_decide_eq_true h
      exact decide_eq_false (by omega)
  · rw [if_pos e] at h
    rw [if_pos (fun h' => e h'.symm)]
    have := of_decide_eq_true h
    exact decide_eq_false (by omega)
/-- The places that are left. -/
theorem sub_places {a0 a1 b0 b1 : Nat} (ha0 : a0 < 4294967296) (hb0 : b0 < 4294967296) (h : lessM a0 a1 b0 b1 = false) : ∃ r0 r1 c, ((a0 < b0 ∧ c = 1 ∧ r0 + b0 = a0 + 4294967296 ∧ r1 + b1 + 1 = a1) ∨ (b0 ≤ a0 ∧ c = 0 ∧ r0 + b0 = a0 ∧ r1 + b1 = a1)) := by
  have h2 := less_not h
  by_cases e : a0 < b0
  · exact ⟨a0 + 4294967296 - b0, a1 - b1 - 1, 1, .inl ⟨e, rfl, by omega, by omega⟩⟩
  · exact ⟨a0 - b0, a1 - b1, 0, .inr ⟨by omega, rfl, by omega, by omega⟩⟩
theorem sum_any (m1 m2 : Bool) (a0 a1 b0 b1 : Nat) (ha0 : a0 < 4294967296) (ha1 : a1 < 4294967296) (hb0 : b0 < 4294967296) (hb1 : b1 < 4294967296) (w : World) : Calls Try.prog 74 #[bigV m1 a0 a1 0, bigV m2 b0 b1 0] w (SumP w (valB m1 a0 a1 0 + valB m2 b0 b1 0)) := by
  by_cases hm : m1 = m2
  · subst hm
    refine (sum_same m1 a0 a1 b0 b1 ha0 ha1 hb0 hb1 w _ _ rfl rfl).mono fun e w' h => ⟨⟨_, _, _, _, h.1, by omega, by omega, by omega, ?_⟩, h.2⟩
    unfold valB
    cases m1
    · simp only [Bool.false_eq_true, if_false]; omega
    · simp only [if_true]; omega
  · have hm2 : (m1 == m2) = false := by simpa using hm
    have hm3 : (m2 == m1) = false := by rw [beq_eq_false_iff_ne]; exact fun h => hm h.symm
    cases hl : lessM a0 a1 b0 b1 with
    | false =>
      obtain ⟨r0, r1, c, hr⟩ := sub_places ha0 hb0 hl
      refine (sum_sub m1 m2 hm2 a0 a1 b0 b1 ha0 ha1 hb0 hb1 hl w r0 r1 c hr).mono fun e w' h => ⟨⟨_, _, _, _, h.1, by omega, by omega, by omega, ?_⟩, h.2⟩
      unfold valB
      cases m1 <;> cases m2
      · exact absurd rfl hm
      · simp only [Bool.false_eq_true, if_false, if_true]; omega
      · simp only [Bool.false_eq_true, if_false, if_true]; omega
      · exact absurd rfl hm
    | true =>
      obtain ⟨r0, r1, c, hr⟩ := sub_places hb0 ha0 (less_yes hl)
      have HS := fun w => sum_sub m2 m1 hm3 b0 b1 a0 a1 hb0 hb1 ha0 ha1 (less_yes hl) w r0 r1 c hr
      refine (sum_less m1 m2 hm2 a0 a1 b0 b1 hl w r0 r1 HS).mono fun e w' h => ⟨⟨_, _, _, _, h.1, by omega, by omega, by omega, ?_⟩, h.2⟩
      unfold valB
      cases m1 <;> cases m2
      · exact absurd rfl hm
      · simp only [Bool.false_eq_true, if_false, if_true]; omega
      · simp only [Bool.false_eq_true, if_false, if_true]; omega
      · exact absurd rfl hm
/-- Is it a number of 64 bits? -/
def inB (v : Int) : Bool := decide (-9223372036854775808 ≤ v ∧ v ≤ 9223372036854775807)
theorem small_any (m : Bool) (a b c : Nat) (ha : a < 4294967296) (hb : b < 4294967296) (hc : c < 18446744073709551616) (w : World) : Calls Try.prog 76 #[bigV m a b c] w (SmP w (inB (valB m a b c)) (valB m a b c)) := by
  by_cases h : 0 < c ∨ 2147483648 < b
  · refine (small_no m a b c ha hb hc h w).mono fun e w' h' => ?_
    have hi : inB (valB m a b c) = false := by
      unfold inB valB
      refine decide_eq_false ?_
      cases m
      · simp only [Bool.false_eq_true, if_false]; omega
      · simp only [if_true]; omega
    rw [hi]
    exact ⟨⟨0, h'.1, fun h => absurd h (by decide)⟩, h'.2⟩
  · obtain rfl : c = 0 := by omega
    have hb2 : b ≤ 2147483648 := by omega
    cases m
    · have e1 : valB false a b 0 = ((b * 4294967296 + a : Nat) : Int) := by unfold valB; simp only [Bool.false_eq_true, if_false]; omega
      have e2 : inB ((b * 4294967296 + a : Nat) : Int) = decide (b * 4294967296 + a ≤ 9223372036854775807) := by unfold inB; exact decide_eq_decide.2 (by omega)
      rw [e1, e2]
      exact small_pos a b ha hb2 w
    · have e1 : valB true a b 0 = -((b * 4294967296 + a : Nat) : Int) := by unfold valB; simp only [if_true]; omega
      have e2 : inB (-((b * 4294967296 + a : Nat) : Int)) = decide (b * 4294967296 + a ≤ 9223372036854775808) := by unfold inB; exact decide_eq_decide.2 (by omega)
      rw [e1, e2]
      exact small_neg a b ha hb2 w
end
end Go.Proofs.Ytfjphlejhcdbaaa
