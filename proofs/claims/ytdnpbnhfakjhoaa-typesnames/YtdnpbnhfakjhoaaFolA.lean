/-
  What is known of a tree: contracts.
-/
import Derived.Test.YtdnpbnhfakjhoaaRenA
import Derived.Test.YtdnpbnhfakjhoaaTreA
namespace Go.Proofs.Ytdnpbnhfakjhoaa
section
open Go.RowKit
set_option linter.unusedVariables false

def plainK (k : Int) : Bool := decide (k = 1 ∨ k = 3 ∨ k = 4)
def knK (k : Int) : Int := if plainK k = true then k else 0
def knN (k n : Int) : Int := if plainK k = true then n else 0
set_option maxRecDepth 100000 in
set_option maxHeartbeats 400000 in
theorem both_any (a b c d : Int) (w : World) : Calls Try.prog 78 #[.agg #[.int .i64 a, .int .i64 b, .int .i64 c, .int .i64 d]] w fun e w' => e = .returned (.bool (decide (a ≠ 0 ∧ c ≠ 0))) ∧ Below w.heap.size w w' := by
  go_enter Try.func78, Try.ntmps78
  go_wp2
  all_goals (go_ret; refine ⟨?_, (Below.refl _ _).alloc (Nat.le_refl _) _⟩; congr 2; show Value.bool _ = Value.bool _; congr 1; rw [Bool.eq_iff_iff]; simp; try omega)
set_option maxRecDepth 100000 in
set_option maxHeartbeats 400000 in
theorem isTruth_any (a b : Int) (w : World) : Calls Try.prog 75 #[.agg #[.int .i64 a, .int .i64 b]] w fun e w' => e = .returned (.bool (decide (a = 3 ∨ a = 4))) ∧ Below w.heap.size w w' := by
  go_enter Try.func75, Try.ntmps75
  go_wp2
  all_goals (go_ret; refine ⟨?_, (Below.refl _ _).alloc (Nat.le_refl _) _⟩; congr 2; show Value.bool _ = Value.bool _; congr 1; rw [Bool.eq_iff_iff]; simp; try omega)
set_option maxRecDepth 100000 in
set_option maxHeartbeats 400000 in
theorem isNumber_any (a b : Int) (w : World) : Calls Try.prog 96 #[.agg #[.int .i64 a, .int .i64 b]] w fun e w' => e = .returned (.bool (decide (a = 1))) ∧ Below w.heap.size w w' := by
  go_enter Try.func96, Try.ntmps96
  go_wp2
  all_goals (go_ret; refine ⟨?_, (Below.refl _ _).alloc (Nat.le_refl _) _⟩; congr 2)
set_option maxRecDepth 100000 in
set_option maxHeartbeats 400000 in
theorem know_any (k n : Int) (s : ByteArray) (a : Option Addr) (l c : Nat) (w : World) : Calls Try.prog 74 #[.agg #[.int .i64 k, .int .i64 n, .string s, .slice a l c]] w fun e w' => e = .returned (.agg #[.int .i64 (knK k), .int .i64 (knN k n)]) ∧ Below w.heap.size w w' := by
  unfold knK knN
  by_cases h : plainK k = true
  · rw [if_pos h, if_pos h]
    unfold plainK at h
    simp only [decide_eq_true_eq] at h
    rcases h with rfl | rfl | rfl
    all_goals (
      go_enter Try.func74, Try.ntmps74
      go_wp2
      refine bodyPost_ret (v := .agg #[.int .i64 _, .int .i64 n]) (by simp [results, Try.results74, go_sem]) rfl ⟨rfl, ?_⟩
      exact ((Below.refl _ _).alloc (Nat.le_refl _) _).alloc (le_alloc _ _) _)
  · rw [if_neg h, if_neg h]
    unfold plainK at h
    simp only [decide_eq_true_eq] at h
    have h1 : (k == 1) = false := by simp; omega
    have h3 : (k == 3) = false := by simp; omega
    have h4 : (k == 4) = false := by simp; omega
    clear h
    go_enter Try.func74, Try.ntmps74
    go_wp2
    refine bodyPost_ret (v := .agg #[.int .i64 0, .int .i64 0]) (by simp [results, Try.results74, go_sem]) rfl ⟨rfl, ?_⟩
    exact ((Below.refl _ _).alloc (Nat.le_refl _) _).alloc (le_alloc _ _) _
set_option maxRecDepth 100000 in
set_option maxHeartbeats 400000 in
theorem answer_any (b : Bool) (w : World) : Calls Try.prog 76 #[.bool b] w fun e w' => e = .returned (.agg #[.int .i64 (if b = true then 3 else 4), .int .i64 0, .string ⟨#[]⟩, .slice none 0 0]) ∧ Below w.heap.size w w' := by
  cases b
  all_goals (
    go_enter Try.func76, Try.ntmps76
    go_wp2
    refine bodyPost_ret (v := .agg #[.int .i64 _, .int .i64 0, .string ⟨#[]⟩, .slice none 0 0]) (by simp [results, Try.results76, go_sem]) rfl ⟨rfl, ?_⟩
    exact (Below.refl _ _).alloc (Nat.le_refl _) _)
set_option maxRecDepth 100000 in
set_option maxHeartbeats 400000 in
theorem holds_any (k a b c d : Int) (w : World) : Calls Try.prog 79 #[.int .i64 k, .agg #[.int .i64 a, .int .i64 b, .int .i64 c, .int .i64 d]] w fun e w' => e = .returned (.bool (if k = 11 then decide (a = c ∧ b = d) else decide (b < d))) ∧ Below w.heap.size w w' := by
  by_cases hk : k = 11
  · rw [if_pos hk]
    subst hk
    go_enter Try.func79, Try.ntmps79
    go_wp2
    all_goals (go_ret; refine ⟨?_, (Below.refl _ _).alloc (Nat.le_refl _) _⟩; congr 2; show Value.bool _ = Value.bool _; congr 1; rw [Bool.eq_iff_iff]; simp; omega)
  · rw [if_neg hk]
    go_enter Try.func79, Try.ntmps79
    go_wp2
    all_goals (go_ret; refine ⟨?_, (Below.refl _ _).alloc (Nat.le_refl _) _⟩; congr 2)
end
section
open Go.RowKit
set_option linter.unusedVariables false

def recM (k a b : Int) : Option Int :=
  if k = 7 then (if a + b ≤ 9223372036854775807 then some (a + b) else none)
  else if k = 8 then (if b ≤ a then some (a - b) else none)
  else if k = 9 then (if a * b ≤ 9223372036854775807 then some (a * b) else none)
  else if k = 10 then (if b ≠ 0 then some (a / b) else none) else none
/-- What the call tells: the number, and whether it is one. -/
def Told (r : Option Int) (v : Int) (ok : Bool) : Prop := (r = some v ∧ ok = true) ∨ (r = none ∧ ok = false)
def RecP (r : Option Int) (w : World) (e : Ending) (w' : World) : Prop := ∃ v ok, e = .returned (.tuple #[.int .i64 v, .bool ok]) ∧ Told r v ok ∧ Below w.heap.size w w'
set_option maxRecDepth 100000 in
set_option maxHeartbeats 800000 in
theorem rec_not (k a b c d : Int) (h : ¬ (a = 1 ∧ c = 1)) (w : World) : Calls Try.prog 80 #[.int .i64 k, .agg #[.int .i64 a, .int .i64 b, .int .i64 c, .int .i64 d]] w (RecP none w) := by
  have HN1 : Hid (∀ w, Calls Try.prog 96 #[.agg #[.int .i64 a, .int .i64 b]] w fun e w' => e = .returned (.bool (decide (a = 1))) ∧ Below w.heap.size w w') := isNumber_any a b
  have HN2 : Hid (∀ w, Calls Try.prog 96 #[.agg #[.int .i64 c, .int .i64 d]] w fun e w' => e = .returned (.bool (decide (c = 1))) ∧ Below w.heap.size w w') := isNumber_any c d
  by_cases h1 : a = 1
  · have h2 : ¬ c = 1 := fun h2 => h ⟨h1, h2⟩
    rw [decide_eq_true h1] at HN1
    rw [decide_eq_false h2] at HN2
    clear h h1 h2
    go_enter Try.func80, Try.ntmps80
    go_wp2_with (first
      | (go_at_call 96; have := HB1; refine (HN2.out _).mono ?_; rintro e w2 ⟨rfl, HB⟩; have HB2 : Hid (Below w.heap.size w w2) := HB1.out.trans (HB.mono HB1.out.size); clear HB)
      | (go_at_call 96; refine (HN1.out _).mono ?_; rintro e w1 ⟨rfl, HB⟩; obtain ⟨q0, q1, q2, q3, q4⟩ := (Cell4.new w (.int .i64 a) (.int .i64 b) (.int .i64 c) (.int .i64 d) 97).below HB; have hl1 := World.block_lt_of_cell? _ _ q0; have HB1 : Hid (Below w.heap.size w w1) := ((Below.refl _ _).alloc (Nat.le_refl _) _).trans (HB.mono (le_alloc _ _)); clear HB))
    go_ret2
    exact ⟨_, _, rfl, .inr ⟨rfl, rfl⟩, HB2.out⟩
  · rw [decide_eq_false h1] at HN1
    clear h h1
    go_enter Try.func80, Try.ntmps80
    go_wp2_with (go_at_call 96; refine (HN1.out _).mono ?_; rintro e w1 ⟨rfl, HB⟩; have HB1 : Hid (Below w.heap.size w w1) := ((Below.refl _ _).alloc (Nat.le_refl _) _).trans (HB.mono (le_alloc _ _)); clear HB)
    go_ret2
    exact ⟨_, _, rfl, .inr ⟨rfl, rfl⟩, HB1.out⟩
set_option maxRecDepth 100000 in
set_option maxHeartbeats 1600000 in
theorem rec_num (k b d : Int) (hb : 0 ≤ b) (hb2 : b ≤ 9223372036854775807) (hd : 0 ≤ d) (hd2 : d ≤ 9223372036854775807) (w : World) : Calls Try.prog 80 #[.int .i64 k, .agg #[.int .i64 1, .int .i64 b, .int .i64 1, .int .i64 d]] w (RecP (recM k b d) w) := by
  have HN1 : Hid (∀ w, Calls Try.prog 96 #[.agg #[.int .i64 1, .int .i64 b]] w fun e w' => e = .returned (.bool true) ∧ Below w.heap.size w w') := isNumber_any 1 b
  have HN2 : Hid (∀ w, Calls Try.prog 96 #[.agg #[.int .i64 1, .int .i64 d]] w fun e w' => e = .returned (.bool true) ∧ Below w.heap.size w w') := isNumber_any 1 d
  by_cases h7 : k = 7
  · subst h7
    by_cases hs : b + d ≤ 9223372036854775807
    · have e : recM 7 b d = some (b + d) := by unfold recM; rw [if_pos rfl, if_pos hs]
      rw [e]
      have hc : b ≤ 9223372036854775807 - d := by omega
      go_enter Try.func80, Try.ntmps80
      go_wp2_with (first
        | (go_at_call 96; have := HB1; refine (HN2.out _).mono ?_; rintro e w2 ⟨rfl, HB⟩; obtain ⟨q0, q1, q2, q3, q4⟩ := (Cell4.mk q0 q1 q2 q3 q4).below HB; have hl1 := World.block_lt_of_cell? _ _ q0; have HB2 : Hid (Below w.heap.size w w2) := HB1.out.trans (HB.mono HB1.out.size); clear HB)
        | (go_at_call 96; refine (HN1.out _).mono ?_; rintro e w1 ⟨rfl, HB⟩; obtain ⟨q0, q1, q2, q3, q4⟩ := (Cell4.new w (.int .i64 1) (.int .i64 b) (.int .i64 1) (.int .i64 d) 97).below HB; have hl1 := World.block_lt_of_cell? _ _ q0; have HB1 : Hid (Below w.heap.size w w1) := ((Below.refl _ _).alloc (Nat.le_refl _) _).trans (HB.mono (le_alloc _ _)); clear HB))
      go_region
      all_goals go_wp2
      go_ret2
      exact ⟨_, _, rfl, .inl ⟨rfl, rfl⟩, Below.drew HB2.out⟩
    · have e : recM 7 b d = none := by unfold recM; rw [if_pos rfl, if_neg hs]
      rw [e]
      have hc : ¬ b ≤ 9223372036854775807 - d := by omega
      go_enter Try.func80, Try.ntmps80
      go_wp2_with (first
        | (go_at_call 96; have := HB1; refine (HN2.out _).mono ?_; rintro e w2 ⟨rfl, HB⟩; obtain ⟨q0, q1, q2, q3, q4⟩ := (Cell4.mk q0 q1 q2 q3 q4).below HB; have hl1 := World.block_lt_of_cell? _ _ q0; have HB2 : Hid (Below w.heap.size w w2) := HB1.out.trans (HB.mono HB1.out.size); clear HB)
        | (go_at_call 96; refine (HN1.out _).mono ?_; rintro e w1 ⟨rfl, HB⟩; obtain ⟨q0, q1, q2, q3, q4⟩ := (Cell4.new w (.int .i64 1) (.int .i64 b) (.int .i64 1) (.int .i64 d) 97).below HB; have hl1 := World.block_lt_of_cell? _ _ q0; have HB1 : Hid (Below w.heap.size w w1) := ((Below.refl _ _).alloc (Nat.le_refl _) _).trans (HB.mono (le_alloc _ _)); clear HB))
      go_region
      all_goals go_wp2
      go_ret2
      exact ⟨_, _, rfl, .inr ⟨rfl, decide_eq_false (by omega)⟩, Below.drew HB2.out⟩
  by_cases h8 : k = 8
  · subst h8
    by_cases hs : d ≤ b
    · have e : recM 8 b d = some (b - d) := by unfold recM; rw [if_neg (by decide), if_pos rfl, if_pos hs]
      rw [e]
      go_enter Try.func80, Try.ntmps80
      go_wp2_with (first
        | (go_at_call 96; have := HB1; refine (HN2.out _).mono ?_; rintro e w2 ⟨rfl, HB⟩; obtain ⟨q0, q1, q2, q3, q4⟩ := (Cell4.mk q0 q1 q2 q3 q4).below HB; have hl1 := World.block_lt_of_cell? _ _ q0; have HB2 : Hid (Below w.heap.size w w2) := HB1.out.trans (HB.mono HB1.out.size); clear HB)
        | (go_at_call 96; refine (HN1.out _).mono ?_; rintro e w1 ⟨rfl, HB⟩; obtain ⟨q0, q1, q2, q3, q4⟩ := (Cell4.new w (.int .i64 1) (.int .i64 b) (.int .i64 1) (.int .i64 d) 97).below HB; have hl1 := World.block_lt_of_cell? _ _ q0; have HB1 : Hid (Below w.heap.size w w1) := ((Below.refl _ _).alloc (Nat.le_refl _) _).trans (HB.mono (le_alloc _ _)); clear HB))
      go_region
      all_goals go_wp2
      go_ret2
      exact ⟨_, _, rfl, .inl ⟨rfl, rfl⟩, Below.drew HB2.out⟩
    · have e : recM 8 b d = none := by unfold recM; rw [if_neg (by decide), if_pos rfl, if_neg hs]
      rw [e]
      go_enter Try.func80, Try.ntmps80
      go_wp2_with (first
        | (go_at_call 96; have := HB1; refine (HN2.out _).mono ?_; rintro e w2 ⟨rfl, HB⟩; obtain ⟨q0, q1, q2, q3, q4⟩ := (Cell4.mk q0 q1 q2 q3 q4).below HB; have hl1 := World.block_lt_of_cell? _ _ q0; have HB2 : Hid (Below w.heap.size w w2) := HB1.out.trans (HB.mono HB1.out.size); clear HB)
        | (go_at_call 96; refine (HN1.out _).mono ?_; rintro e w1 ⟨rfl, HB⟩; obtain ⟨q0, q1, q2, q3, q4⟩ := (Cell4.new w (.int .i64 1) (.int .i64 b) (.int .i64 1) (.int .i64 d) 97).below HB; have hl1 := World.block_lt_of_cell? _ _ q0; have HB1 : Hid (Below w.heap.size w w1) := ((Below.refl _ _).alloc (Nat.le_refl _) _).trans (HB.mono (le_alloc _ _)); clear HB))
      go_region
      all_goals go_wp2
      go_ret2
      exact ⟨_, _, rfl, .inr ⟨rfl, decide_eq_false (by omega)⟩, Below.drew HB2.out⟩
  by_cases h10 : k = 10
  · subst h10
    by_cases hs : d ≠ 0
    · have e : recM 10 b d = some (b / d) := by unfold recM; rw [if_neg (by decide), if_neg (by decide), if_neg (by decide), if_pos rfl, if_pos hs]
      rw [e]
      go_enter Try.func80, Try.ntmps80
      go_wp2_with (first
        | (go_at_call 96; have := HB1; refine (HN2.out _).mono ?_; rintro e w2 ⟨rfl, HB⟩; obtain ⟨q0, q1, q2, q3, q4⟩ := (Cell4.mk q0 q1 q2 q3 q4).below HB; have hl1 := World.block_lt_of_cell? _ _ q0; have HB2 : Hid (Below w.heap.size w w2) := HB1.out.trans (HB.mono HB1.out.size); clear HB)
        | (go_at_call 96; refine (HN1.out _).mono ?_; rintro e w1 ⟨rfl, HB⟩; obtain ⟨q0, q1, q2, q3, q4⟩ := (Cell4.new w (.int .i64 1) (.int .i64 b) (.int .i64 1) (.int .i64 d) 97).below HB; have hl1 := World.block_lt_of_cell? _ _ q0; have HB1 : Hid (Below w.heap.size w w1) := ((Below.refl _ _).alloc (Nat.le_refl _) _).trans (HB.mono (le_alloc _ _)); clear HB))
      go_region
      all_goals go_wp2
      go_ret2
      exact ⟨_, _, rfl, .inl ⟨rfl, rfl⟩, Below.drew HB2.out⟩
    · have e : recM 10 b d = none := by unfold recM; rw [if_neg (by decide), if_neg (by decide), if_neg (by decide), if_pos rfl, if_neg hs]
      rw [e]
      have hd0 : (d != 0) = false := by simp; omega
      clear hs e
      go_enter Try.func80, Try.ntmps80
      go_wp2_with (first
        | (go_at_call 96; have := HB1; refine (HN2.out _).mono ?_; rintro e w2 ⟨rfl, HB⟩; obtain ⟨q0, q1, q2, q3, q4⟩ := (Cell4.mk q0 q1 q2 q3 q4).below HB; have hl1 := World.block_lt_of_cell? _ _ q0; have HB2 : Hid (Below w.heap.size w w2) := HB1.out.trans (HB.mono HB1.out.size); clear HB)
        | (go_at_call 96; refine (HN1.out _).mono ?_; rintro e w1 ⟨rfl, HB⟩; obtain ⟨q0, q1, q2, q3, q4⟩ := (Cell4.new w (.int .i64 1) (.int .i64 b) (.int .i64 1) (.int .i64 d) 97).below HB; have hl1 := World.block_lt_of_cell? _ _ q0; have HB1 : Hid (Below w.heap.size w w1) := ((Below.refl _ _).alloc (Nat.le_refl _) _).trans (HB.mono (le_alloc _ _)); clear HB))
      go_region
      all_goals go_wp2
      go_ret2
      exact ⟨_, _, rfl, .inr ⟨rfl, rfl⟩, Below.drew HB2.out⟩
  by_cases h9 : k = 9
  · subst h9
    obtain ⟨x, rfl⟩ : ∃ x : Nat, b = x := ⟨b.toNat, by omega⟩
    obtain ⟨y, rfl⟩ : ∃ y : Nat, d = y := ⟨d.toNat, by omega⟩
    have HM : Hid (∀ w, Calls Try.prog 97 #[.int .u64 x, .int .u64 y] w fun e w' => e = .returned (.tuple #[.int .u64 ((x * y / 18446744073709551616 : Nat) : Int), .int .u64 ((x * y % 18446744073709551616 : Nat) : Int)]) ∧ w' = w) := fun w => Try.bits_Mul64 x y (by omega) (by omega) w
    have hz : x * y / 18446744073709551616 < 18446744073709551616 := by
      have := Nat.mul_le_mul (show x ≤ 9223372036854775807 by omega) (show y ≤ 9223372036854775807 by omega)
      omega
    have hxy : ((x : Int) * (y : Int)) = ((x * y : Nat) : Int) := by push_cast; rfl
    by_cases hs : x * y ≤ 9223372036854775807
    · have e : recM 9 x y = some ((x * y : Nat) : Int) := by unfold recM; rw [if_neg (by decide), if_neg (by decide), if_pos rfl, hxy, if_pos (by omega)]
      rw [e]
      rw [Nat.div_eq_of_lt (by omega), Nat.mod_eq_of_lt (by omega)] at HM
      generalize x * y = z at *
      go_enter Try.func80, Try.ntmps80
      go_wp2_with (first
        | (go_at_call 96; have := HB1; refine (HN2.out _).mono ?_; rintro e w2 ⟨rfl, HB⟩; obtain ⟨q0, q1, q2, q3, q4⟩ := (Cell4.mk q0 q1 q2 q3 q4).below HB; have hl1 := World.block_lt_of_cell? _ _ q0; have HB2 : Hid (Below w.heap.size w w2) := HB1.out.trans (HB.mono HB1.out.size); clear HB)
        | (go_at_call 96; refine (HN1.out _).mono ?_; rintro e w1 ⟨rfl, HB⟩; obtain ⟨q0, q1, q2, q3, q4⟩ := (Cell4.new w (.int .i64 1) (.int .i64 x) (.int .i64 1) (.int .i64 y) 97).below HB; have hl1 := World.block_lt_of_cell? _ _ q0; have HB1 : Hid (Below w.heap.size w w1) := ((Below.refl _ _).alloc (Nat.le_refl _) _).trans (HB.mono (le_alloc _ _)); clear HB))
      go_region
      all_goals (go_wp2_with (go_at_call 97; refine (HM.out _).mono ?_; rintro e w3 ⟨rfl, rfl⟩))
      go_ret2
      exact ⟨_, _, rfl, .inl ⟨rfl, decide_eq_true (by omega)⟩, Below.drew HB2.out⟩
    · have e : recM 9 x y = none := by unfold recM; rw [if_neg (by decide), if_neg (by decide), if_pos rfl, hxy, if_neg (by omega)]
      rw [e]
      by_cases hb3 : x * y < 18446744073709551616
      · rw [Nat.div_eq_of_lt hb3, Nat.mod_eq_of_lt hb3] at HM
        have hg : ¬ ((x * y : Nat) : Int) ≤ 9223372036854775807 := by omega
        generalize x * y = z at *
        go_enter Try.func80, Try.ntmps80
        go_wp2_with (first
          | (go_at_call 96; have := HB1; refine (HN2.out _).mono ?_; rintro e w2 ⟨rfl, HB⟩; obtain ⟨q0, q1, q2, q3, q4⟩ := (Cell4.mk q0 q1 q2 q3 q4).below HB; have hl1 := World.block_lt_of_cell? _ _ q0; have HB2 : Hid (Below w.heap.size w w2) := HB1.out.trans (HB.mono HB1.out.size); clear HB)
          | (go_at_call 96; refine (HN1.out _).mono ?_; rintro e w1 ⟨rfl, HB⟩; obtain ⟨q0, q1, q2, q3, q4⟩ := (Cell4.new w (.int .i64 1) (.int .i64 x) (.int .i64 1) (.int .i64 y) 97).below HB; have hl1 := World.block_lt_of_cell? _ _ q0; have HB1 : Hid (Below w.heap.size w w1) := ((Below.refl _ _).alloc (Nat.le_refl _) _).trans (HB.mono (le_alloc _ _)); clear HB))
        go_region
        all_goals (go_wp2_with (go_at_call 97; refine (HM.out _).mono ?_; rintro e w3 ⟨rfl, rfl⟩))
        go_ret2
        exact ⟨_, _, rfl, .inr ⟨rfl, decide_eq_false (by omega)⟩, Below.drew HB2.out⟩
      · have hh : ((x * y / 18446744073709551616 : Nat) : Int) ≠ 0 := by omega
        have hh2 : (((x * y / 18446744073709551616 : Nat) : Int) == 0) = false := by simpa using hh
        have hl2 : x * y % 18446744073709551616 < 18446744073709551616 := Nat.mod_lt _ (by decide)
        generalize x * y / 18446744073709551616 = h at *
        generalize x * y % 18446744073709551616 = lo at *
        clear hh hs hb3 e hxy
        go_enter Try.func80, Try.ntmps80
        go_wp2_with (first
          | (go_at_call 96; have := HB1; refine (HN2.out _).mono ?_; rintro e w2 ⟨rfl, HB⟩; obtain ⟨q0, q1, q2, q3, q4⟩ := (Cell4.mk q0 q1 q2 q3 q4).below HB; have hl1 := World.block_lt_of_cell? _ _ q0; have HB2 : Hid (Below w.heap.size w w2) := HB1.out.trans (HB.mono HB1.out.size); clear HB)
          | (go_at_call 96; refine (HN1.out _).mono ?_; rintro e w1 ⟨rfl, HB⟩; obtain ⟨q0, q1, q2, q3, q4⟩ := (Cell4.new w (.int .i64 1) (.int .i64 x) (.int .i64 1) (.int .i64 y) 97).below HB; have hl1 := World.block_lt_of_cell? _ _ q0; have HB1 : Hid (Below w.heap.size w w1) := ((Below.refl _ _).alloc (Nat.le_refl _) _).trans (HB.mono (le_alloc _ _)); clear HB))
        go_region
        all_goals (go_wp2_with (go_at_call 97; refine (HM.out _).mono ?_; rintro e w3 ⟨rfl, rfl⟩))
        go_ret2
        exact ⟨_, _, rfl, .inr ⟨rfl, rfl⟩, Below.drew HB2.out⟩
  · have e : recM k b d = none := by unfold recM; rw [if_neg h7, if_neg h8, if_neg h9, if_neg h10]
    rw [e]
    have g7 : (k == 7) = false := by simpa using h7
    have g8 : (k == 8) = false := by simpa using h8
    have g9 : (k == 9) = false := by simpa using h9
    have g10 : (k == 10) = false := by simpa using h10
    clear h7 h8 h9 h10 e
    go_enter Try.func80, Try.ntmps80
    go_wp2_with (first
      | (go_at_call 96; have := HB1; refine (HN2.out _).mono ?_; rintro e w2 ⟨rfl, HB⟩; obtain ⟨q0, q1, q2, q3, q4⟩ := (Cell4.mk q0 q1 q2 q3 q4).below HB; have hl1 := World.block_lt_of_cell? _ _ q0; have HB2 : Hid (Below w.heap.size w w2) := HB1.out.trans (HB.mono HB1.out.size); clear HB)
      | (go_at_call 96; refine (HN1.out _).mono ?_; rintro e w1 ⟨rfl, HB⟩; obtain ⟨q0, q1, q2, q3, q4⟩ := (Cell4.new w (.int .i64 1) (.int .i64 b) (.int .i64 1) (.int .i64 d) 97).below HB; have hl1 := World.block_lt_of_cell? _ _ q0; have HB1 : Hid (Below w.heap.size w w1) := ((Below.refl _ _).alloc (Nat.le_refl _) _).trans (HB.mono (le_alloc _ _)); clear HB))
    go_region
    all_goals go_wp2
    go_ret2
    exact ⟨_, _, rfl, .inr ⟨rfl, rfl⟩, Below.drew HB2.out⟩
end
section
open Go.RowKit
set_option linter.unusedVariables false

def ansT (b : Bool) : Tr := ⟨if b = true then 3 else 4, 0, [], []⟩
def oneM (k : Int) (s : Tr) : Tr := if k = 6 ∧ (s.kind = 3 ∨ s.kind = 4) then ansT (decide (s.kind = 4)) else if k = 5 ∧ s.kind = 1 ∧ s.n = 0 then s else ⟨k, 0, [], [s]⟩
/-- A tree that was made, of blocks from base on. -/
def FPost (base : Nat) (w : World) (t : Tr) (e : Ending) (w' : World) : Prop := ∃ k n s a l c, e = .returned (.agg #[.int .i64 k, .int .i64 n, .string s, .slice a l c]) ∧ Tre w' (fun g => base ≤ g) (.agg #[.int .i64 k, .int .i64 n, .string s, .slice a l c]) t ∧ Below w.heap.size w w'
theorem ans_tre (w : World) (P : Nat → Prop) (b : Bool) : Tre w P (.agg #[.int .i64 (if b = true then 3 else 4), .int .i64 0, .string ⟨#[]⟩, .slice none 0 0]) (ansT b) := by
  cases b
  · exact Tre.leaf w P ⟨by decide, by decide⟩ inR_zero [] (by decide)
  · exact Tre.leaf w P ⟨by decide, by decide⟩ inR_zero [] (by decide)
theorem node1_out {w W : World} (hb : Below w.heap.size w W) {base g : Nat} (hbase : base ≤ w.heap.size) {v0 v1 v2 v3 : Value} {s : Tr} (hT : Tre w (fun g => base ≤ g) (.agg #[v0, v1, v2, v3]) s) {k : Int} (hk : InR k) (hg : g = W.heap.size) :
    Tre (W.alloc (.cells #[v0, v1, v2, v3] 24)) (fun g => base ≤ g) (.agg #[.int .i64 k, .int .i64 0, .string ⟨#[]⟩, .slice (some ⟨g, 0, none⟩) 1 1]) ⟨k, 0, [], [s]⟩ ∧ Below w.heap.size w (W.alloc (.cells #[v0, v1, v2, v3] 24)) := by
  subst hg
  have h1 := hb.alloc hb.size (.cells #[v0, v1, v2, v3] 24)
  obtain ⟨c0, c1, c2, c3, _⟩ := Cell4.new W v0 v1 v2 v3 24
  exact ⟨Tre.node1 hk (hT.below h1) (show base ≤ W.heap.size by have := hb.size; omega) c0 c1 c2 c3, h1⟩
set_option maxRecDepth 100000 in
set_option maxHeartbeats 1600000 in
theorem one_any (base : Nat) (k : Int) (hk : InR k) (t : Tr) (v : Value) (w : World) (hT : Tre w (fun g => base ≤ g) v t) (hbase : base ≤ w.heap.size) : Calls Try.prog 49 #[.int .i64 k, v] w (FPost base w (oneM k t)) := by
  obtain ⟨a, c, rfl⟩ := hT.four
  have HT : Hid (Tre w (fun g => base ≤ g) (.agg #[.int .i64 t.kind, .int .i64 t.n, .string (ba t.name), .slice a t.kids.length c]) t) := hT
  have HKn : Hid (∀ w, Calls Try.prog 74 #[.agg #[.int .i64 t.kind, .int .i64 t.n, .string (ba t.name), .slice a t.kids.length c]] w fun e w' => e = .returned (.agg #[.int .i64 (knK t.kind), .int .i64 (knN t.kind t.n)]) ∧ Below w.heap.size w w') := know_any _ _ _ _ _ _
  have HTr : Hid (∀ w, Calls Try.prog 75 #[.agg #[.int .i64 (knK t.kind), .int .i64 (knN t.kind t.n)]] w fun e w' => e = .returned (.bool (decide (knK t.kind = 3 ∨ knK t.kind = 4))) ∧ Below w.heap.size w w') := isTruth_any _ _
  have HAn : Hid (∀ b w, Calls Try.prog 76 #[.bool b] w fun e w' => e = .returned (.agg #[.int .i64 (if b = true then 3 else 4), .int .i64 0, .string ⟨#[]⟩, .slice none 0 0]) ∧ Below w.heap.size w w') := answer_any
  have HKi : Hid (InR k) := hk
  have hkk : (knK t.kind = 3 ∨ knK t.kind = 4) ↔ (t.kind = 3 ∨ t.kind = 4) := by unfold knK plainK; split <;> rename_i h <;> simp at h <;> omega
  clear hT hk
  by_cases h6 : k = 6
  · by_cases hs : t.kind = 3 ∨ t.kind = 4
    · have e : oneM k t = ansT (decide (t.kind = 4)) := if_pos ⟨h6, hs⟩
      rw [e]
      have hkn : knK t.kind = t.kind := by unfold knK plainK; rw [if_pos (by simp; omega)]
      rw [decide_eq_true (hkk.2 hs)] at HTr
      rw [hkn] at HKn HTr
      subst h6
      have HA2 : Hid (∀ w, Calls Try.prog 76 #[.bool (t.kind == 4)] w fun e w' => e = .returned (.agg #[.int .i64 (if decide (t.kind = 4) = true then 3 else 4), .int .i64 0, .string ⟨#[]⟩, .slice none 0 0]) ∧ Below w.heap.size w w') := HAn.out _
      have HTa : Hid (∀ w P, Tre w P (.agg #[.int .i64 (if decide (t.kind = 4) = true then 3 else 4), .int .i64 0, .string ⟨#[]⟩, .slice none 0 0]) (ansT (decide (t.kind = 4)))) := fun w P => ans_tre w P _
      generalize knN t.kind t.n = kn at *
      generalize t.n = tn at *
      generalize ba t.name = ts at *
      generalize t.kids.length = tl at *
      clear hkk hkn e HAn
      generalize (if decide (t.kind = 4) = true then (3 : Int) else 4) = ak at *
      generalize ansT (decide (t.kind = 4)) = rt at *
      generalize hq : (t.kind == 4) = q4 at *
      generalize t.kind = tk at *
      obtain ⟨kk, hkk⟩ : ∃ kk, kk = tk := ⟨_, rfl⟩
      go_enter Try.func49, Try.ntmps49
      go_wp2_with (first
        | (go_at_call 76; have := HB2; refine (HA2.out _).mono ?_; rintro e w3 ⟨rfl, HB⟩; obtain ⟨q0, q1, q2, q3, q4'⟩ := HB2.out.2.1.below HB; have HB3 : Hid (Below w.heap.size w w3) := HB2.out.2.2.trans (HB.mono HB2.out.2.2.size); clear HB)
        | (go_at_call 75; have := HB1; refine (HTr.out _).mono ?_; rintro e w2 ⟨rfl, HB⟩; have HB2 : Hid (Cell4 w2 w.heap.size (.int .i64 tk) (.int .i64 tn) (.string ts) (.slice a tl c) ∧ Cell4 w2 (w.heap.size + 1) (.int .i64 0) (.int .i64 0) (.string ⟨#[]⟩) (.slice none 0 0) ∧ Below w.heap.size w w2) := ⟨(HB1.out.1.alloc _).below HB, (HB1.out.2.1.alloc _).below HB, (HB1.out.2.2.alloc HB1.out.2.2.size _).trans (HB.mono (Nat.le_trans HB1.out.2.2.size (le_alloc _ _)))⟩; have z0 : w2.cell? ⟨w1.heap.size, 0, none⟩ = some (.int .i64 tk) := (RowC.new w1 #[.int .i64 tk, .int .i64 kn] 95).below HB 0 _ rfl; have hlz := World.block_lt_of_cell? _ _ z0; obtain ⟨p0, p1, p2, p3, p4⟩ := HB2.out.1; obtain ⟨q0, q1, q2, q3, q4⟩ := HB2.out.2.1; have hlp := World.block_lt_of_cell? _ _ p0; have hlq := World.block_lt_of_cell? _ _ q0; clear HB)
        | (go_at_call 74; refine (HKn.out _).mono ?_; rintro e w1 ⟨rfl, HB⟩; have HB1 : Hid (Cell4 w1 w.heap.size (.int .i64 tk) (.int .i64 tn) (.string ts) (.slice a tl c) ∧ Cell4 w1 (w.heap.size + 1) (.int .i64 0) (.int .i64 0) (.string ⟨#[]⟩) (.slice none 0 0) ∧ Below w.heap.size w w1) := two_next HB; obtain ⟨p0, p1, p2, p3, p4⟩ := HB1.out.1; obtain ⟨q0, q1, q2, q3, q4⟩ := HB1.out.2.1; have hlp := World.block_lt_of_cell? _ _ p0; have hlq := World.block_lt_of_cell? _ _ q0; clear HB))
      refine bodyPost_ret (v := .agg #[.int .i64 ak, .int .i64 0, .string ⟨#[]⟩, .slice none 0 0]) (by simp [results, Try.results49, go_sem, q0, q1, q2, q3]) rfl ⟨_, _, _, _, _, _, rfl, HTa.out _ _, below_four HB3.out (M := w.heap.size + 1) (o := 0) (Nat.le_succ _)⟩
    · have e : oneM k t = ⟨k, 0, [], [t]⟩ := by unfold oneM; rw [if_neg (fun h => hs h.2), if_neg (fun h => by omega)]
      rw [e]
      rw [decide_eq_false (fun h => hs (hkk.1 h))] at HTr
      subst h6
      clear hkk e HAn hs
      generalize knN t.kind t.n = kn at *
      generalize t.n = tn at *
      generalize ba t.name = ts at *
      generalize t.kids.length = tl at *
      generalize knK t.kind = kk at *
      generalize t.kind = tk at *
      go_enter Try.func49, Try.ntmps49
      go_wp2_with (first
        | (go_at_call 75; have := HB1; refine (HTr.out _).mono ?_; rintro e w2 ⟨rfl, HB⟩; have HB2 : Hid (Cell4 w2 w.heap.size (.int .i64 tk) (.int .i64 tn) (.string ts) (.slice a tl c) ∧ Cell4 w2 (w.heap.size + 1) (.int .i64 0) (.int .i64 0) (.string ⟨#[]⟩) (.slice none 0 0) ∧ Below w.heap.size w w2) := ⟨(HB1.out.1.alloc _).below HB, (HB1.out.2.1.alloc _).below HB, (HB1.out.2.2.alloc HB1.out.2.2.size _).trans (HB.mono (Nat.le_trans HB1.out.2.2.size (le_alloc _ _)))⟩; have z0 : w2.cell? ⟨w1.heap.size, 0, none⟩ = some (.int .i64 kk) := (RowC.new w1 #[.int .i64 kk, .int .i64 kn] 95).below HB 0 _ rfl; have hlz := World.block_lt_of_cell? _ _ z0; obtain ⟨p0, p1, p2, p3, p4⟩ := HB2.out.1; obtain ⟨q0, q1, q2, q3, q4⟩ := HB2.out.2.1; have hlp := World.block_lt_of_cell? _ _ p0; have hlq := World.block_lt_of_cell? _ _ q0; clear HB)
        | (go_at_call 74; refine (HKn.out _).mono ?_; rintro e w1 ⟨rfl, HB⟩; have HB1 : Hid (Cell4 w1 w.heap.size (.int .i64 tk) (.int .i64 tn) (.string ts) (.slice a tl c) ∧ Cell4 w1 (w.heap.size + 1) (.int .i64 0) (.int .i64 0) (.string ⟨#[]⟩) (.slice none 0 0) ∧ Below w.heap.size w w1) := two_next HB; obtain ⟨p0, p1, p2, p3, p4⟩ := HB1.out.1; obtain ⟨q0, q1, q2, q3, q4⟩ := HB1.out.2.1; have hlp := World.block_lt_of_cell? _ _ p0; have hlq := World.block_lt_of_cell? _ _ q0; clear HB))
      refine bodyPost_ret (v := .agg #[.int .i64 6, .int .i64 0, .string ⟨#[]⟩, .slice (some ⟨w2.heap.size, 0, none⟩) 1 1]) (by simp [results, Try.results49, go_sem, q0, q1, q2, q3, hlq]) rfl ⟨_, _, _, _, _, _, rfl, ?_⟩
      exact node1_out (below_four HB2.out.2.2 (M := w.heap.size + 1) (o := 0) (Nat.le_succ _)) hbase HT.out HKi.out four_size.symm
  · by_cases h5 : k = 5
    · by_cases hs : t.kind = 1 ∧ t.n = 0
      · have e : oneM k t = t := by unfold oneM; rw [if_neg (fun h => h6 h.1), if_pos ⟨h5, hs⟩]
        rw [e]
        have hkn : knK t.kind = 1 ∧ knN t.kind t.n = 0 := by unfold knK knN plainK; rw [if_pos (by simp; omega), if_pos (by simp; omega)]; exact hs
        rw [hkn.1, hkn.2] at HKn
        subst h5
        clear hkk e HAn hkn HTr
        generalize t.n = tn at *
        generalize ba t.name = ts at *
        generalize t.kids.length = tl at *
        clear hs
        generalize t.kind = tk at *
        go_enter Try.func49, Try.ntmps49
        go_wp2_with (go_at_call 74; refine (HKn.out _).mono ?_; rintro e w1 ⟨rfl, HB⟩; have HB1 : Hid (Cell4 w1 w.heap.size (.int .i64 tk) (.int .i64 tn) (.string ts) (.slice a tl c) ∧ Cell4 w1 (w.heap.size + 1) (.int .i64 0) (.int .i64 0) (.string ⟨#[]⟩) (.slice none 0 0) ∧ Below w.heap.size w w1) := two_next HB; obtain ⟨p0, p1, p2, p3, p4⟩ := HB1.out.1; obtain ⟨q0, q1, q2, q3, q4⟩ := HB1.out.2.1; have hlp := World.block_lt_of_cell? _ _ p0; have hlq := World.block_lt_of_cell? _ _ q0; clear HB)
        refine bodyPost_ret (v := .agg #[.int .i64 tk, .int .i64 tn, .string ts, .slice a tl c]) (by simp [results, Try.results49, go_sem, q0, q1, q2, q3, hlq]) rfl ⟨_, _, _, _, _, _, rfl, ?_⟩
        have h0 := below_four HB1.out.2.2 (M := w.heap.size + 1) (o := 0) (u0 := .int .i64 tk) (u1 := .int .i64 tn) (u2 := .string ts) (u3 := .slice a tl c) (Nat.le_succ _)
        have h1 := h0.alloc h0.size (.cells #[.int .i64 1, .int .i64 0] 95)
        exact ⟨HT.out.below h1, h1⟩
      · have e : oneM k t = ⟨k, 0, [], [t]⟩ := by unfold oneM; rw [if_neg (fun h => h6 h.1), if_neg (fun h => hs h.2)]
        rw [e]
        have hkn : knK t.kind = 1 → ¬ knN t.kind t.n = 0 := by
          unfold knK knN
          by_cases hp : plainK t.kind = true
          · rw [if_pos hp, if_pos hp]; exact fun h1 h2 => hs ⟨h1, h2⟩
          · rw [if_neg hp, if_neg hp]; intro h; omega
        subst h5
        clear hkk e HAn hs HTr
        generalize knN t.kind t.n = kn at *
        generalize t.n = tn at *
        generalize ba t.name = ts at *
        generalize t.kids.length = tl at *
        generalize knK t.kind = kk at *
        generalize t.kind = tk at *
        by_cases hk1 : kk = 1
        · have hkn0 : (kn == 0) = false := by simpa using hkn hk1
          subst hk1
          clear hkn
          go_enter Try.func49, Try.ntmps49
          go_wp2_with (go_at_call 74; refine (HKn.out _).mono ?_; rintro e w1 ⟨rfl, HB⟩; have HB1 : Hid (Cell4 w1 w.heap.size (.int .i64 tk) (.int .i64 tn) (.string ts) (.slice a tl c) ∧ Cell4 w1 (w.heap.size + 1) (.int .i64 0) (.int .i64 0) (.string ⟨#[]⟩) (.slice none 0 0) ∧ Below w.heap.size w w1) := two_next HB; obtain ⟨p0, p1, p2, p3, p4⟩ := HB1.out.1; obtain ⟨q0, q1, q2, q3, q4⟩ := HB1.out.2.1; have hlp := World.block_lt_of_cell? _ _ p0; have hlq := World.block_lt_of_cell? _ _ q0; clear HB)
          have hlq2 : w.heap.size + 1 < w1.heap.size + 1 := by omega
          refine bodyPost_ret (v := .agg #[.int .i64 5, .int .i64 0, .string ⟨#[]⟩, .slice (some ⟨w1.heap.size + 1, 0, none⟩) 1 1]) (by simp [results, Try.results49, go_sem, q0, q1, q2, q3, hlq, hlq2]) rfl ⟨_, _, _, _, _, _, rfl, ?_⟩
          have hf := below_four HB1.out.2.2 (M := w.heap.size + 1) (o := 0) (u0 := .int .i64 5) (u1 := .int .i64 0) (u2 := .string ⟨#[]⟩) (u3 := .slice (some ⟨w1.heap.size + 1, 0, none⟩) 1 1) (Nat.le_succ _)
          exact node1_out (hf.alloc hf.size (.cells #[.int .i64 1, .int .i64 kn] 95)) hbase HT.out HKi.out (by rw [size_alloc, four_size])
        · have hk2 : (kk == 1) = false := by simpa using hk1
          clear hkn hk1
          go_enter Try.func49, Try.ntmps49
          go_wp2_with (go_at_call 74; refine (HKn.out _).mono ?_; rintro e w1 ⟨rfl, HB⟩; have HB1 : Hid (Cell4 w1 w.heap.size (.int .i64 tk) (.int .i64 tn) (.string ts) (.slice a tl c) ∧ Cell4 w1 (w.heap.size + 1) (.int .i64 0) (.int .i64 0) (.string ⟨#[]⟩) (.slice none 0 0) ∧ Below w.heap.size w w1) := two_next HB; obtain ⟨p0, p1, p2, p3, p4⟩ := HB1.out.1; obtain ⟨q0, q1, q2, q3, q4⟩ := HB1.out.2.1; have hlp := World.block_lt_of_cell? _ _ p0; have hlq := World.block_lt_of_cell? _ _ q0; clear HB)
          have hlq2 : w.heap.size + 1 < w1.heap.size + 1 := by omega
          refine bodyPost_ret (v := .agg #[.int .i64 5, .int .i64 0, .string ⟨#[]⟩, .slice (some ⟨w1.heap.size + 1, 0, none⟩) 1 1]) (by simp [results, Try.results49, go_sem, q0, q1, q2, q3, hlq, hlq2]) rfl ⟨_, _, _, _, _, _, rfl, ?_⟩
          have hf := below_four HB1.out.2.2 (M := w.heap.size + 1) (o := 0) (u0 := .int .i64 5) (u1 := .int .i64 0) (u2 := .string ⟨#[]⟩) (u3 := .slice (some ⟨w1.heap.size + 1, 0, none⟩) 1 1) (Nat.le_succ _)
          exact node1_out (hf.alloc hf.size (.cells #[.int .i64 kk, .int .i64 kn] 95)) hbase HT.out HKi.out (by rw [size_alloc, four_size])
    · have e : oneM k t = ⟨k, 0, [], [t]⟩ := by unfold oneM; rw [if_neg (fun h => h6 h.1), if_neg (fun h => h5 h.1)]
      rw [e]
      have g5 : (k == 5) = false := by simpa using h5
      have g6 : (k == 6) = false := by simpa using h6
      clear hkk e HAn HTr h5 h6
      generalize knN t.kind t.n = kn at *
      generalize t.n = tn at *
      generalize ba t.name = ts at *
      generalize t.kids.length = tl at *
      generalize knK t.kind = kk at *
      generalize t.kind = tk at *
      go_enter Try.func49, Try.ntmps49
      go_wp2_with (go_at_call 74; refine (HKn.out _).mono ?_; rintro e w1 ⟨rfl, HB⟩; have HB1 : Hid (Cell4 w1 w.heap.size (.int .i64 tk) (.int .i64 tn) (.string ts) (.slice a tl c) ∧ Cell4 w1 (w.heap.size + 1) (.int .i64 0) (.int .i64 0) (.string ⟨#[]⟩) (.slice none 0 0) ∧ Below w.heap.size w w1) := two_next HB; obtain ⟨p0, p1, p2, p3, p4⟩ := HB1.out.1; obtain ⟨q0, q1, q2, q3, q4⟩ := HB1.out.2.1; have hlp := World.block_lt_of_cell? _ _ p0; have hlq := World.block_lt_of_cell? _ _ q0; clear HB)
      have hlq2 : w.heap.size + 1 < w1.heap.size + 1 := by omega
      refine bodyPost_ret (v := .agg #[.int .i64 k, .int .i64 0, .string ⟨#[]⟩, .slice (some ⟨w1.heap.size + 1, 0, none⟩) 1 1]) (by simp [results, Try.results49, go_sem, q0, q1, q2, q3, hlq, hlq2]) rfl ⟨_, _, _, _, _, _, rfl, ?_⟩
      have hf := below_four HB1.out.2.2 (M := w.heap.size + 1) (o := 0) (u0 := .int .i64 k) (u1 := .int .i64 0) (u2 := .string ⟨#[]⟩) (u3 := .slice (some ⟨w1.heap.size + 1, 0, none⟩) 1 1) (Nat.le_succ _)
      exact node1_out (hf.alloc hf.size (.cells #[.int .i64 kk, .int .i64 kn] 95)) hbase HT.out HKi.out (by rw [size_alloc, four_size])
end
end Go.Proofs.Ytdnpbnhfakjhoaa
