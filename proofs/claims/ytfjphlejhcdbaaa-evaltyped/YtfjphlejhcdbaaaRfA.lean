/-
  The document's small functions of what is known: contracts.
-/
import Derived.Test.YtfjphlejhcdbaaaFolX
namespace Go.Proofs.Ytfjphlejhcdbaaa
section
open Go.RowKit
set_option linter.unusedVariables false


set_option maxRecDepth 100000 in
set_option maxHeartbeats 400000 in
theorem yes_any (b : Bool) (w : World) : Calls Try.prog 56 #[.bool b] w fun e w' => e = .returned (.agg #[.int .i64 (if b = true then 3 else 4), .int .i64 0, .string ⟨#[]⟩, .slice none 0 0]) ∧ Below w.heap.size w w' := by
  cases b
  all_goals (
    go_enter Try.func56, Try.ntmps56
    go_wp2
    refine bodyPost_ret (v := .agg #[.int .i64 _, .int .i64 0, .string ⟨#[]⟩, .slice none 0 0]) (by simp [results, Try.results56, go_sem]) rfl ⟨rfl, ?_⟩
    exact (Below.refl _ _).alloc (Nat.le_refl _) _)
set_option maxRecDepth 100000 in
set_option maxHeartbeats 400000 in
theorem num_any (n : Int) (w : World) : Calls Try.prog 97 #[.int .i64 n] w fun e w' => e = .returned (.agg #[.int .i64 1, .int .i64 n, .string ⟨#[]⟩, .slice none 0 0]) ∧ Below w.heap.size w w' := by
  go_enter Try.func97, Try.ntmps97
  go_wp2
  refine bodyPost_ret (v := .agg #[.int .i64 1, .int .i64 n, .string ⟨#[]⟩, .slice none 0 0]) (by simp [results, Try.results97, go_sem]) rfl ⟨rfl, ?_⟩
  exact (Below.refl _ _).alloc (Nat.le_refl _) _
set_option maxRecDepth 100000 in
set_option maxHeartbeats 400000 in
theorem plain_any (k n : Int) (s : ByteArray) (a : Option Addr) (l c : Nat) (w : World) : Calls Try.prog 55 #[.agg #[.int .i64 k, .int .i64 n, .string s, .slice a l c]] w fun e w' => e = .returned (.bool (plainK k)) ∧ Below w.heap.size w w' := by
  go_enter Try.func55, Try.ntmps55
  go_wp2
  all_goals (go_ret; refine ⟨?_, (Below.refl _ _).alloc (Nat.le_refl _) _⟩; congr 2; show Value.bool _ = Value.bool _; congr 1; unfold plainK; rw [Bool.eq_iff_iff]; simp; try omega)
set_option maxRecDepth 100000 in
set_option maxHeartbeats 400000 in
theorem same_any2 (k n : Int) (s : ByteArray) (a : Option Addr) (l c : Nat) (k2 n2 : Int) (s2 : ByteArray) (a2 : Option Addr) (l2 c2 : Nat) (w : World) : Calls Try.prog 78 #[.agg #[.int .i64 k, .int .i64 n, .string s, .slice a l c], .agg #[.int .i64 k2, .int .i64 n2, .string s2, .slice a2 l2 c2]] w fun e w' => e = .returned (.bool (decide (k = k2 ∧ n = n2))) ∧ Below w.heap.size w w' := by
  go_enter Try.func78, Try.ntmps78
  go_wp2
  all_goals (go_ret; refine ⟨?_, ((Below.refl _ _).alloc (Nat.le_refl _) _).alloc (le_alloc _ _) _⟩; congr 2; show Value.bool _ = Value.bool _; congr 1; rw [Bool.eq_iff_iff]; simp; try omega)
/-- What sums tells. -/
def SumR (r : Option Int) (w : World) (e : Ending) (w' : World) : Prop := ((∃ v, r = some v ∧ e = .returned (.tuple #[.agg #[.int .i64 1, .int .i64 v, .string ⟨#[]⟩, .slice none 0 0], .bool true])) ∨ (r = none ∧ e = .returned (.tuple #[.agg #[.int .i64 0, .int .i64 0, .string ⟨#[]⟩, .slice none 0 0], .bool false]))) ∧ Below w.heap.size w w'
theorem res_new (w : World) {w' : World} (HB : Below (w.alloc (.cells #[.int .i64 0, .int .i64 0, .string ⟨#[]⟩, .slice none 0 0] 24)).heap.size (w.alloc (.cells #[.int .i64 0, .int .i64 0, .string ⟨#[]⟩, .slice none 0 0] 24)) w') : Cell4 w' w.heap.size (.int .i64 0) (.int .i64 0) (.string ⟨#[]⟩) (.slice none 0 0) ∧ Below w.heap.size w w' :=
  ⟨(Cell4.new w _ _ _ _ 24).below HB, ((Below.refl _ _).alloc (Nat.le_refl _) _).trans (HB.mono (le_alloc _ _))⟩
set_option maxRecDepth 100000 in
set_option maxHeartbeats 1600000 in
theorem sums_any (k a b : Int) (hk : 7 ≤ k ∧ k ≤ 10) (ha : 0 ≤ a) (ha2 : a ≤ 9223372036854775807) (hb : 0 ≤ b) (hb2 : b ≤ 9223372036854775807) (w : World) : Calls Try.prog 79 #[.int .i64 k, .int .i64 a, .int .i64 b] w (SumR (recM k a b) w) := by
  obtain rfl | rfl | rfl | rfl : k = 7 ∨ k = 8 ∨ k = 9 ∨ k = 10 := by omega
  · by_cases hs : a + b ≤ 9223372036854775807
    · have e : recM 7 a b = .some (a + b) := by unfold recM; rw [if_pos rfl, if_pos hs]
      rw [e]
      have hc : b ≤ 9223372036854775807 - a := by omega
      have HC : Hid (∀ w, Calls Try.prog 97 #[.int .i64 (a + b)] w fun e w' => e = .returned (.agg #[.int .i64 1, .int .i64 (a + b), .string ⟨#[]⟩, .slice none 0 0]) ∧ Below w.heap.size w w') := num_any _
      go_enter Try.func79, Try.ntmps79
      go_wp2_with (go_at_call 97; refine (HC.out _).mono ?_; rintro e w1 ⟨rfl, HB⟩; obtain ⟨⟨q0, q1, q2, q3, q4⟩, hb5⟩ := res_new w HB; have HB5 : Hid (Below w.heap.size w w1) := hb5; clear HB hb5)
      refine bodyPost_ret (v := .tuple #[.agg #[.int .i64 1, .int .i64 (a + b), .string ⟨#[]⟩, .slice none 0 0], .bool true]) (by simp [results, Try.results79, go_sem, q0, q1, q2, q3]) rfl ⟨.inl ⟨_, rfl, rfl⟩, below_four HB5.out (M := w.heap.size) (o := 0) (Nat.le_refl _)⟩
    · have e : recM 7 a b = .none := by unfold recM; rw [if_pos rfl, if_neg hs]
      rw [e]
      have hc : 9223372036854775807 - a < b := by omega
      go_enter Try.func79, Try.ntmps79
      go_wp2
      refine bodyPost_ret (v := .tuple #[.agg #[.int .i64 0, .int .i64 0, .string ⟨#[]⟩, .slice none 0 0], .bool false]) (by simp [results, Try.results79, go_sem]) rfl ⟨.inr ⟨rfl, rfl⟩, ?_⟩
      exact (Below.refl _ _).alloc (Nat.le_refl _) _
  · by_cases hs : b ≤ a
    · have e : recM 8 a b = .some (a - b) := by unfold recM; rw [if_neg (by decide), if_pos rfl, if_pos hs]
      rw [e]
      have HC : Hid (∀ w, Calls Try.prog 97 #[.int .i64 (a - b)] w fun e w' => e = .returned (.agg #[.int .i64 1, .int .i64 (a - b), .string ⟨#[]⟩, .slice none 0 0]) ∧ Below w.heap.size w w') := num_any _
      go_enter Try.func79, Try.ntmps79
      go_wp2_with (go_at_call 97; refine (HC.out _).mono ?_; rintro e w1 ⟨rfl, HB⟩; obtain ⟨⟨q0, q1, q2, q3, q4⟩, hb5⟩ := res_new w HB; have HB5 : Hid (Below w.heap.size w w1) := hb5; clear HB hb5)
      refine bodyPost_ret (v := .tuple #[.agg #[.int .i64 1, .int .i64 (a - b), .string ⟨#[]⟩, .slice none 0 0], .bool true]) (by simp [results, Try.results79, go_sem, q0, q1, q2, q3]) rfl ⟨.inl ⟨_, rfl, rfl⟩, below_four HB5.out (M := w.heap.size) (o := 0) (Nat.le_refl _)⟩
    · have e : recM 8 a b = .none := by unfold recM; rw [if_neg (by decide), if_pos rfl, if_neg hs]
      rw [e]
      go_enter Try.func79, Try.ntmps79
      go_wp2
      refine bodyPost_ret (v := .tuple #[.agg #[.int .i64 0, .int .i64 0, .string ⟨#[]⟩, .slice none 0 0], .bool false]) (by simp [results, Try.results79, go_sem]) rfl ⟨.inr ⟨rfl, rfl⟩, ?_⟩
      exact (Below.refl _ _).alloc (Nat.le_refl _) _
  · by_cases h0 : a = 0
    · have e : recM 9 a b = .some 0 := by unfold recM; rw [if_neg (by decide), if_neg (by decide), if_pos rfl, h0, Int.zero_mul, if_pos (by decide)]
      rw [e]
      subst h0
      have HC : Hid (∀ w, Calls Try.prog 97 #[.int .i64 (0)] w fun e w' => e = .returned (.agg #[.int .i64 1, .int .i64 (0), .string ⟨#[]⟩, .slice none 0 0]) ∧ Below w.heap.size w w') := num_any _
      go_enter Try.func79, Try.ntmps79
      go_wp2_with (go_at_call 97; refine (HC.out _).mono ?_; rintro e w1 ⟨rfl, HB⟩; obtain ⟨⟨q0, q1, q2, q3, q4⟩, hb5⟩ := res_new w HB; have HB5 : Hid (Below w.heap.size w w1) := hb5; clear HB hb5)
      refine bodyPost_ret (v := .tuple #[.agg #[.int .i64 1, .int .i64 (0), .string ⟨#[]⟩, .slice none 0 0], .bool true]) (by simp [results, Try.results79, go_sem, q0, q1, q2, q3]) rfl ⟨.inl ⟨_, rfl, rfl⟩, below_four HB5.out (M := w.heap.size) (o := 0) (Nat.le_refl _)⟩
    · have hq : a * b ≤ 9223372036854775807 ↔ b ≤ 9223372036854775807 / a := by rw [Int.le_ediv_iff_mul_le (by omega), Int.mul_comm]
      have hqt : (9223372036854775807 : Int).tdiv a = 9223372036854775807 / a := Int.tdiv_eq_ediv_of_nonneg (by decide)
      by_cases hs : a * b ≤ 9223372036854775807
      · have e : recM 9 a b = .some (a * b) := by unfold recM; rw [if_neg (by decide), if_neg (by decide), if_pos rfl, if_pos hs]
        rw [e]
        have hc := hq.1 hs
        have hnn := Int.mul_nonneg ha hb
        have h0b : (a == 0) = false := by simpa using h0
        have hqr : 0 ≤ 9223372036854775807 / a ∧ 9223372036854775807 / a ≤ 9223372036854775807 := ⟨Int.ediv_nonneg (by decide) ha, Int.ediv_le_self _ (by decide)⟩
        generalize hqq : 9223372036854775807 / a = qq at *
        obtain ⟨hq1, hq2⟩ := hqr
        clear hq e
        have HC : Hid (∀ w, Calls Try.prog 97 #[.int .i64 (a * b)] w fun e w' => e = .returned (.agg #[.int .i64 1, .int .i64 (a * b), .string ⟨#[]⟩, .slice none 0 0]) ∧ Below w.heap.size w w') := num_any _
        go_enter Try.func79, Try.ntmps79
        go_wp2_with (go_at_call 97; refine (HC.out _).mono ?_; rintro e w1 ⟨rfl, HB⟩; obtain ⟨⟨q0, q1, q2, q3, q4⟩, hb5⟩ := res_new w HB; have HB5 : Hid (Below w.heap.size w w1) := hb5; clear HB hb5)
        refine bodyPost_ret (v := .tuple #[.agg #[.int .i64 1, .int .i64 (a * b), .string ⟨#[]⟩, .slice none 0 0], .bool true]) (by simp [results, Try.results79, go_sem, q0, q1, q2, q3]) rfl ⟨.inl ⟨_, rfl, rfl⟩, below_four HB5.out (M := w.heap.size) (o := 0) (Nat.le_refl _)⟩
      · have e : recM 9 a b = .none := by unfold recM; rw [if_neg (by decide), if_neg (by decide), if_pos rfl, if_neg hs]
        rw [e]
        have hc : 9223372036854775807 / a < b := by
          have := fun h => hs (hq.2 h)
          omega
        have h0b : (a == 0) = false := by simpa using h0
        have hqr : 0 ≤ 9223372036854775807 / a ∧ 9223372036854775807 / a ≤ 9223372036854775807 := ⟨Int.ediv_nonneg (by decide) ha, Int.ediv_le_self _ (by decide)⟩
        generalize hqq : 9223372036854775807 / a = qq at *
        obtain ⟨hq1, hq2⟩ := hqr
        clear hq e hs
        go_enter Try.func79, Try.ntmps79
        go_wp2
        refine bodyPost_ret (v := .tuple #[.agg #[.int .i64 0, .int .i64 0, .string ⟨#[]⟩, .slice none 0 0], .bool false]) (by simp [results, Try.results79, go_sem]) rfl ⟨.inr ⟨rfl, rfl⟩, ?_⟩
        exact (Below.refl _ _).alloc (Nat.le_refl _) _
  · by_cases hs : b ≠ 0
    · have e : recM 10 a b = .some (a / b) := by unfold recM; rw [if_neg (by decide), if_neg (by decide), if_neg (by decide), if_pos rfl, if_pos hs]
      rw [e]
      have hc : 0 < b := by omega
      have HC : Hid (∀ w, Calls Try.prog 97 #[.int .i64 (a / b)] w fun e w' => e = .returned (.agg #[.int .i64 1, .int .i64 (a / b), .string ⟨#[]⟩, .slice none 0 0]) ∧ Below w.heap.size w w') := num_any _
      go_enter Try.func79, Try.ntmps79
      go_wp2_with (go_at_call 97; refine (HC.out _).mono ?_; rintro e w1 ⟨rfl, HB⟩; obtain ⟨⟨q0, q1, q2, q3, q4⟩, hb5⟩ := res_new w HB; have HB5 : Hid (Below w.heap.size w w1) := hb5; clear HB hb5)
      refine bodyPost_ret (v := .tuple #[.agg #[.int .i64 1, .int .i64 (a / b), .string ⟨#[]⟩, .slice none 0 0], .bool true]) (by simp [results, Try.results79, go_sem, q0, q1, q2, q3]) rfl ⟨.inl ⟨_, rfl, rfl⟩, below_four HB5.out (M := w.heap.size) (o := 0) (Nat.le_refl _)⟩
    · have e : recM 10 a b = .none := by unfold recM; rw [if_neg (by decide), if_neg (by decide), if_neg (by decide), if_pos rfl, if_neg hs]
      rw [e]
      have hc : b ≤ 0 := by omega
      go_enter Try.func79, Try.ntmps79
      go_wp2
      refine bodyPost_ret (v := .tuple #[.agg #[.int .i64 0, .int .i64 0, .string ⟨#[]⟩, .slice none 0 0], .bool false]) (by simp [results, Try.results79, go_sem]) rfl ⟨.inr ⟨rfl, rfl⟩, ?_⟩
      exact (Below.refl _ _).alloc (Nat.le_refl _) _
end
section
set_option linter.unusedVariables false
theorem ans_truth (b : Bool) : truthK (ansT b).kind = true := by cases b <;> rfl
theorem fo_type : ∀ (d : Nat) (t : Tr), checkM d t = 0 → tyM d t = true → truthK (foM d t).kind = truthK t.kind
  | 0, t, h, _ => by cases h
  | d + 1, t, h, ht => by
    have hs := shape h
    obtain ⟨k, n, nm, ks⟩ := t
    have h1 := hs.lo; have h2 := hs.hi
    rcases hs.kids with ⟨h4, hk⟩ | ⟨h5, x, hk, hx⟩ | ⟨h7, x, y, hk, hx, hy⟩
    · simp only at hk
      subst hk
      unfold foM
      rfl
    · simp only at h5 hk
      subst hk
      unfold tyM at ht
      simp only [List.all_cons, List.all_nil, Bool.and_true, Bool.and_eq_true] at ht
      have ih := fo_type d x hx ht.1
      have he : foM (d + 1) ⟨k, n, nm, [x]⟩ = oneM k (foM d x) := by conv => lhs; unfold foM
      rw [he]
      have hf := ht.2
      unfold fitK at hf
      simp only at hf
      generalize foM d x = s at *
      unfold oneM
      split
      · rename_i hc
        rw [ans_truth, hc.1]; rfl
      · split
        · rename_i hc
          rw [hc.2.1, hc.1]; rfl
        · rfl
    · simp only at h7 hk h1 h2
      subst hk
      unfold tyM at ht
      simp only [List.all_cons, List.all_nil, Bool.and_true, Bool.and_eq_true] at ht
      have ihx := fo_type d x hx ht.1.1
      have ihy := fo_type d y hy ht.2.1
      have he : foM (d + 1) ⟨k, n, nm, [x, y]⟩ = twoM k (foM d x) (foM d y) := by conv => lhs; unfold foM
      rw [he]
      have hfx := ht.1.2
      have hfy := ht.2.2
      unfold fitK at hfx hfy
      simp only [List.getD_cons_zero] at hfx hfy
      generalize foM d x = a at *
      generalize foM d y = b at *
      show truthK (twoM k a b).kind = truthK k
      unfold twoM
      split
      · rename_i hc
        rw [if_neg (by omega)] at hfx hfy
        have hw : wantT k = true := by unfold wantT; simp; omega
        have htk : truthK k = true := by unfold truthK; simp; omega
        rw [hw] at hfx hfy
        split
        · by_cases c : a.kind = if k = 14 then 3 else 4
          · rw [if_pos c, ihx, htk]; simpa using hfx
          · rw [if_neg c, ihy, htk]; simpa using hfy
        · rfl
      · split
        · rename_i hc
          have htk : truthK k = true := by unfold truthK; simp; omega
          split
          · rw [ans_truth, htk]
          · rfl
        · rename_i hc1 hc2
          have htk : truthK k = false := by unfold truthK; simp; omega
          by_cases hq : a.kind = 1 ∧ b.kind = 1
          · rw [if_pos hq]
            cases recM k a.n b.n with
            | some r => rw [htk]; rfl
            | none => rfl
          · rw [if_neg hq]
theorem plain_num {k : Int} (h : plainK k = true) (ht : truthK k = false) : k = 1 := by
  rcases plain_ne h with rfl | rfl | rfl
  · rfl
  · cases ht
  · cases ht
theorem plain_truth {k : Int} (h : plainK k = true) (ht : truthK k = true) : k = 3 ∨ k = 4 := by
  rcases plain_ne h with rfl | rfl | rfl
  · cases ht
  · exact .inl rfl
  · exact .inr rfl
end
section
open Go.RowKit
set_option linter.unusedVariables false
theorem five_bel (k : Int) (ka na kb nb : Int) (sa sb : ByteArray) (aa ab : Option Addr) (la ca lb cb : Nat) (w : World) (r : Obj) : Below w.heap.size w (((((w.alloc (.cells #[.int .i64 ka, .int .i64 na, .string sa, .slice aa la ca] 24)).alloc (.cells #[.int .i64 kb, .int .i64 nb, .string sb, .slice ab lb cb] 24)).alloc r).alloc (.cells #[.int .i64 ka, .int .i64 na, .string sa, .slice aa la ca, .int .i64 kb, .int .i64 nb, .string sb, .slice ab lb cb] 24)).alloc (.cells #[.int .i64 k, .int .i64 0, .string ⟨#[]⟩, .slice (some ⟨w.heap.size + 1 + 1 + 1, 0, none⟩) 2 2] 24)) := by
  have h1 := (Below.refl w.heap.size w).alloc (Nat.le_refl _) (.cells #[.int .i64 ka, .int .i64 na, .string sa, .slice aa la ca] 24)
  have h2 := h1.alloc h1.size (.cells #[.int .i64 kb, .int .i64 nb, .string sb, .slice ab lb cb] 24)
  have h3 := h2.alloc h2.size r
  have h4 := h3.alloc h3.size (.cells #[.int .i64 ka, .int .i64 na, .string sa, .slice aa la ca, .int .i64 kb, .int .i64 nb, .string sb, .slice ab lb cb] 24)
  exact h4.alloc h4.size _
theorem five_new (base : Nat) (k : Int) (HKi : Hid (InR k)) (ta tb : Tr) (ka na kb nb : Int) (sa sb : ByteArray) (aa ab : Option Addr) (la ca lb cb : Nat) (w : World) (HTa : Hid (Tre w (fun g => base ≤ g) (.agg #[.int .i64 ka, .int .i64 na, .string sa, .slice aa la ca]) ta)) (HTb : Hid (Tre w (fun g => base ≤ g) (.agg #[.int .i64 kb, .int .i64 nb, .string sb, .slice ab lb cb]) tb)) (HBase : Hid (base ≤ w.heap.size)) {w' : World} (HB : Below (((((w.alloc (.cells #[.int .i64 ka, .int .i64 na, .string sa, .slice aa la ca] 24)).alloc (.cells #[.int .i64 kb, .int .i64 nb, .string sb, .slice ab lb cb] 24)).alloc (.cells #[.int .i64 0, .int .i64 0, .string ⟨#[]⟩, .slice none 0 0] 24)).alloc (.cells #[.int .i64 ka, .int .i64 na, .string sa, .slice aa la ca, .int .i64 kb, .int .i64 nb, .string sb, .slice ab lb cb] 24)).alloc (.cells #[.int .i64 k, .int .i64 0, .string ⟨#[]⟩, .slice (some ⟨w.heap.size + 1 + 1 + 1, 0, none⟩) 2 2] 24)).heap.size (((((w.alloc (.cells #[.int .i64 ka, .int .i64 na, .string sa, .slice aa la ca] 24)).alloc (.cells #[.int .i64 kb, .int .i64 nb, .string sb, .slice ab lb cb] 24)).alloc (.cells #[.int .i64 0, .int .i64 0, .string ⟨#[]⟩, .slice none 0 0] 24)).alloc (.cells #[.int .i64 ka, .int .i64 na, .string sa, .slice aa la ca, .int .i64 kb, .int .i64 nb, .string sb, .slice ab lb cb] 24)).alloc (.cells #[.int .i64 k, .int .i64 0, .string ⟨#[]⟩, .slice (some ⟨w.heap.size + 1 + 1 + 1, 0, none⟩) 2 2] 24)) w') : Sit w w' (w.heap.size + 1 + 1 + 1 + 1) (.int .i64 ka) (.int .i64 na) (.string sa) (.slice aa la ca) (.int .i64 kb) (.int .i64 nb) (.string sb) (.slice ab lb cb) (.int .i64 k) (.int .i64 0) (.string ⟨#[]⟩) (.slice (some ⟨w.heap.size + 1 + 1 + 1, 0, none⟩) 2 2) ∧ Tre w' (fun g => base ≤ g) (.agg #[.int .i64 k, .int .i64 0, .string ⟨#[]⟩, .slice (some ⟨w.heap.size + 1 + 1 + 1, 0, none⟩) 2 2]) ⟨k, 0, [], [ta, tb]⟩ := by
  have hb := five_bel k ka na kb nb sa sb aa ab la ca lb cb w (.cells #[.int .i64 0, .int .i64 0, .string ⟨#[]⟩, .slice none 0 0] 24)
  have e1 := Cell4.new (w.alloc (.cells #[.int .i64 ka, .int .i64 na, .string sa, .slice aa la ca] 24)) (.int .i64 kb) (.int .i64 nb) (.string sb) (.slice ab lb cb) 24
  rw [size_alloc] at e1
  have e2 := Cell4.new ((w.alloc (.cells #[.int .i64 ka, .int .i64 na, .string sa, .slice aa la ca] 24)).alloc (.cells #[.int .i64 kb, .int .i64 nb, .string sb, .slice ab lb cb] 24)) (.int .i64 0) (.int .i64 0) (.string ⟨#[]⟩) (.slice none 0 0) 24
  rw [size_alloc, size_alloc] at e2
  have e4 := Cell4.new ((((w.alloc (.cells #[.int .i64 ka, .int .i64 na, .string sa, .slice aa la ca] 24)).alloc (.cells #[.int .i64 kb, .int .i64 nb, .string sb, .slice ab lb cb] 24)).alloc (.cells #[.int .i64 0, .int .i64 0, .string ⟨#[]⟩, .slice none 0 0] 24)).alloc (.cells #[.int .i64 ka, .int .i64 na, .string sa, .slice aa la ca, .int .i64 kb, .int .i64 nb, .string sb, .slice ab lb cb] 24)) (.int .i64 k) (.int .i64 0) (.string ⟨#[]⟩) (.slice (some ⟨w.heap.size + 1 + 1 + 1, 0, none⟩) 2 2) 24
  rw [size_alloc, size_alloc, size_alloc, size_alloc] at e4
  have h3 : Below w.heap.size w (((w.alloc (.cells #[.int .i64 ka, .int .i64 na, .string sa, .slice aa la ca] 24)).alloc (.cells #[.int .i64 kb, .int .i64 nb, .string sb, .slice ab lb cb] 24)).alloc (.cells #[.int .i64 0, .int .i64 0, .string ⟨#[]⟩, .slice none 0 0] 24)) := by
    have h1 := (Below.refl w.heap.size w).alloc (Nat.le_refl _) (.cells #[.int .i64 ka, .int .i64 na, .string sa, .slice aa la ca] 24)
    have h2 := h1.alloc h1.size (.cells #[.int .i64 kb, .int .i64 nb, .string sb, .slice ab lb cb] 24)
    exact h2.alloc h2.size _
  have hn := (node2_out h3 (base := base) (g := w.heap.size + 1 + 1 + 1) HBase.out HTa.out HTb.out HKi.out (by rw [size_alloc, size_alloc, size_alloc])).1
  exact ⟨⟨((((((Cell4.new w (.int .i64 ka) (.int .i64 na) (.string sa) (.slice aa la ca) 24).alloc _).alloc _).alloc _).alloc _).below HB), ((((e1.alloc _).alloc _).alloc _).below HB), (((e2.alloc _).alloc _).below HB), e4.below HB, hb.trans (HB.mono hb.size)⟩, (hn.alloc _).below HB⟩
theorem five_tre (base : Nat) (k : Int) (HKi : Hid (InR k)) (ta tb : Tr) (ka na kb nb : Int) (sa sb : ByteArray) (aa ab : Option Addr) (la ca lb cb : Nat) (w : World) (HTa : Hid (Tre w (fun g => base ≤ g) (.agg #[.int .i64 ka, .int .i64 na, .string sa, .slice aa la ca]) ta)) (HTb : Hid (Tre w (fun g => base ≤ g) (.agg #[.int .i64 kb, .int .i64 nb, .string sb, .slice ab lb cb]) tb)) (HBase : Hid (base ≤ w.heap.size)) (r : Obj) : Tre (((((w.alloc (.cells #[.int .i64 ka, .int .i64 na, .string sa, .slice aa la ca] 24)).alloc (.cells #[.int .i64 kb, .int .i64 nb, .string sb, .slice ab lb cb] 24)).alloc r).alloc (.cells #[.int .i64 ka, .int .i64 na, .string sa, .slice aa la ca, .int .i64 kb, .int .i64 nb, .string sb, .slice ab lb cb] 24)).alloc (.cells #[.int .i64 k, .int .i64 0, .string ⟨#[]⟩, .slice (some ⟨w.heap.size + 1 + 1 + 1, 0, none⟩) 2 2] 24)) (fun g => base ≤ g) (.agg #[.int .i64 k, .int .i64 0, .string ⟨#[]⟩, .slice (some ⟨w.heap.size + 1 + 1 + 1, 0, none⟩) 2 2]) ⟨k, 0, [], [ta, tb]⟩ := by
  have h3 : Below w.heap.size w (((w.alloc (.cells #[.int .i64 ka, .int .i64 na, .string sa, .slice aa la ca] 24)).alloc (.cells #[.int .i64 kb, .int .i64 nb, .string sb, .slice ab lb cb] 24)).alloc r) := by
    have h1 := (Below.refl w.heap.size w).alloc (Nat.le_refl _) (.cells #[.int .i64 ka, .int .i64 na, .string sa, .slice aa la ca] 24)
    have h2 := h1.alloc h1.size (.cells #[.int .i64 kb, .int .i64 nb, .string sb, .slice ab lb cb] 24)
    exact h2.alloc h2.size _
  have hn := (node2_out h3 (base := base) (g := w.heap.size + 1 + 1 + 1) HBase.out HTa.out HTb.out HKi.out (by rw [size_alloc, size_alloc, size_alloc])).1
  exact hn.alloc _
set_option maxRecDepth 100000 in
set_option maxHeartbeats 800000 in
theorem rtwo_and_l (base : Nat) (k : Int) (HKi : Hid (InR k)) (ta tb : Tr) (ka na kb nb : Int) (sa sb : ByteArray) (aa ab : Option Addr) (la ca lb cb : Nat) (w : World) (HTa : Hid (Tre w (fun g => base ≤ g) (.agg #[.int .i64 ka, .int .i64 na, .string sa, .slice aa la ca]) ta)) (HTb : Hid (Tre w (fun g => base ≤ g) (.agg #[.int .i64 kb, .int .i64 nb, .string sb, .slice ab lb cb]) tb)) (HBase : Hid (base ≤ w.heap.size)) (hk : k = 13) (hc : ka = 4) : Calls Try.prog 54 #[.int .i64 k, .agg #[.int .i64 ka, .int .i64 na, .string sa, .slice aa la ca], .agg #[.int .i64 kb, .int .i64 nb, .string sb, .slice ab lb cb]] w (FPost base w ta) := by
  subst hk
  subst hc
  go_enter Try.func54, Try.ntmps54
  go_wp2
  refine bodyPost_ret (v := .agg #[.int .i64 4, .int .i64 na, .string sa, .slice aa la ca]) (by simp [results, Try.results54, go_sem]) rfl ⟨_, _, _, _, _, _, rfl, ?_⟩
  have hf := five_bel 13 4 na kb nb sa sb aa ab la ca lb cb w (.cells #[.int .i64 4, .int .i64 na, .string sa, .slice aa la ca] 24)
  exact ⟨HTa.out.below hf, hf⟩
set_option maxRecDepth 100000 in
set_option maxHeartbeats 800000 in
theorem rtwo_and_r (base : Nat) (k : Int) (HKi : Hid (InR k)) (ta tb : Tr) (ka na kb nb : Int) (sa sb : ByteArray) (aa ab : Option Addr) (la ca lb cb : Nat) (w : World) (HTa : Hid (Tre w (fun g => base ≤ g) (.agg #[.int .i64 ka, .int .i64 na, .string sa, .slice aa la ca]) ta)) (HTb : Hid (Tre w (fun g => base ≤ g) (.agg #[.int .i64 kb, .int .i64 nb, .string sb, .slice ab lb cb]) tb)) (HBase : Hid (base ≤ w.heap.size)) (hk : k = 13) (hc : ka = 3) : Calls Try.prog 54 #[.int .i64 k, .agg #[.int .i64 ka, .int .i64 na, .string sa, .slice aa la ca], .agg #[.int .i64 kb, .int .i64 nb, .string sb, .slice ab lb cb]] w (FPost base w tb) := by
  subst hk
  subst hc
  go_enter Try.func54, Try.ntmps54
  go_wp2
  refine bodyPost_ret (v := .agg #[.int .i64 kb, .int .i64 nb, .string sb, .slice ab lb cb]) (by simp [results, Try.results54, go_sem]) rfl ⟨_, _, _, _, _, _, rfl, ?_⟩
  have hf := five_bel 13 3 na kb nb sa sb aa ab la ca lb cb w (.cells #[.int .i64 kb, .int .i64 nb, .string sb, .slice ab lb cb] 24)
  exact ⟨HTb.out.below hf, hf⟩
set_option maxRecDepth 100000 in
set_option maxHeartbeats 800000 in
theorem rtwo_and_n (base : Nat) (k : Int) (HKi : Hid (InR k)) (ta tb : Tr) (ka na kb nb : Int) (sa sb : ByteArray) (aa ab : Option Addr) (la ca lb cb : Nat) (w : World) (HTa : Hid (Tre w (fun g => base ≤ g) (.agg #[.int .i64 ka, .int .i64 na, .string sa, .slice aa la ca]) ta)) (HTb : Hid (Tre w (fun g => base ≤ g) (.agg #[.int .i64 kb, .int .i64 nb, .string sb, .slice ab lb cb]) tb)) (HBase : Hid (base ≤ w.heap.size)) (hk : k = 13) (hc : ¬ (ka = 3 ∨ ka = 4)) : Calls Try.prog 54 #[.int .i64 k, .agg #[.int .i64 ka, .int .i64 na, .string sa, .slice aa la ca], .agg #[.int .i64 kb, .int .i64 nb, .string sb, .slice ab lb cb]] w (FPost base w ⟨k, 0, [], [ta, tb]⟩) := by
  subst hk
  have h3 : (ka == 3) = false := by simp; omega
  have h4 : (ka == 4) = false := by simp; omega
  clear hc
  go_enter Try.func54, Try.ntmps54
  go_wp2
  refine bodyPost_ret (v := .agg #[.int .i64 13, .int .i64 0, .string ⟨#[]⟩, .slice (some ⟨w.heap.size + 1 + 1 + 1, 0, none⟩) 2 2]) (by simp [results, Try.results54, go_sem]) rfl ⟨_, _, _, _, _, _, rfl, ?_⟩
  exact ⟨five_tre base 13 HKi ta tb ka na kb nb sa sb aa ab la ca lb cb w HTa HTb HBase _, five_bel 13 ka na kb nb sa sb aa ab la ca lb cb w _⟩
set_option maxRecDepth 100000 in
set_option maxHeartbeats 800000 in
theorem rtwo_or_l (base : Nat) (k : Int) (HKi : Hid (InR k)) (ta tb : Tr) (ka na kb nb : Int) (sa sb : ByteArray) (aa ab : Option Addr) (la ca lb cb : Nat) (w : World) (HTa : Hid (Tre w (fun g => base ≤ g) (.agg #[.int .i64 ka, .int .i64 na, .string sa, .slice aa la ca]) ta)) (HTb : Hid (Tre w (fun g => base ≤ g) (.agg #[.int .i64 kb, .int .i64 nb, .string sb, .slice ab lb cb]) tb)) (HBase : Hid (base ≤ w.heap.size)) (hk : k = 14) (hc : ka = 3) : Calls Try.prog 54 #[.int .i64 k, .agg #[.int .i64 ka, .int .i64 na, .string sa, .slice aa la ca], .agg #[.int .i64 kb, .int .i64 nb, .string sb, .slice ab lb cb]] w (FPost base w ta) := by
  subst hk
  subst hc
  go_enter Try.func54, Try.ntmps54
  go_wp2
  refine bodyPost_ret (v := .agg #[.int .i64 3, .int .i64 na, .string sa, .slice aa la ca]) (by simp [results, Try.results54, go_sem]) rfl ⟨_, _, _, _, _, _, rfl, ?_⟩
  have hf := five_bel 14 3 na kb nb sa sb aa ab la ca lb cb w (.cells #[.int .i64 3, .int .i64 na, .string sa, .slice aa la ca] 24)
  exact ⟨HTa.out.below hf, hf⟩
set_option maxRecDepth 100000 in
set_option maxHeartbeats 800000 in
theorem rtwo_or_r (base : Nat) (k : Int) (HKi : Hid (InR k)) (ta tb : Tr) (ka na kb nb : Int) (sa sb : ByteArray) (aa ab : Option Addr) (la ca lb cb : Nat) (w : World) (HTa : Hid (Tre w (fun g => base ≤ g) (.agg #[.int .i64 ka, .int .i64 na, .string sa, .slice aa la ca]) ta)) (HTb : Hid (Tre w (fun g => base ≤ g) (.agg #[.int .i64 kb, .int .i64 nb, .string sb, .slice ab lb cb]) tb)) (HBase : Hid (base ≤ w.heap.size)) (hk : k = 14) (hc : ka = 4) : Calls Try.prog 54 #[.int .i64 k, .agg #[.int .i64 ka, .int .i64 na, .string sa, .slice aa la ca], .agg #[.int .i64 kb, .int .i64 nb, .string sb, .slice ab lb cb]] w (FPost base w tb) := by
  subst hk
  subst hc
  go_enter Try.func54, Try.ntmps54
  go_wp2
  refine bodyPost_ret (v := .agg #[.int .i64 kb, .int .i64 nb, .string sb, .slice ab lb cb]) (by simp [results, Try.results54, go_sem]) rfl ⟨_, _, _, _, _, _, rfl, ?_⟩
  have hf := five_bel 14 4 na kb nb sa sb aa ab la ca lb cb w (.cells #[.int .i64 kb, .int .i64 nb, .string sb, .slice ab lb cb] 24)
  exact ⟨HTb.out.below hf, hf⟩
set_option maxRecDepth 100000 in
set_option maxHeartbeats 800000 in
theorem rtwo_or_n (base : Nat) (k : Int) (HKi : Hid (InR k)) (ta tb : Tr) (ka na kb nb : Int) (sa sb : ByteArray) (aa ab : Option Addr) (la ca lb cb : Nat) (w : World) (HTa : Hid (Tre w (fun g => base ≤ g) (.agg #[.int .i64 ka, .int .i64 na, .string sa, .slice aa la ca]) ta)) (HTb : Hid (Tre w (fun g => base ≤ g) (.agg #[.int .i64 kb, .int .i64 nb, .string sb, .slice ab lb cb]) tb)) (HBase : Hid (base ≤ w.heap.size)) (hk : k = 14) (hc : ¬ (ka = 3 ∨ ka = 4)) : Calls Try.prog 54 #[.int .i64 k, .agg #[.int .i64 ka, .int .i64 na, .string sa, .slice aa la ca], .agg #[.int .i64 kb, .int .i64 nb, .string sb, .slice ab lb cb]] w (FPost base w ⟨k, 0, [], [ta, tb]⟩) := by
  subst hk
  have h3 : (ka == 3) = false := by simp; omega
  have h4 : (ka == 4) = false := by simp; omega
  clear hc
  go_enter Try.func54, Try.ntmps54
  go_wp2
  refine bodyPost_ret (v := .agg #[.int .i64 14, .int .i64 0, .string ⟨#[]⟩, .slice (some ⟨w.heap.size + 1 + 1 + 1, 0, none⟩) 2 2]) (by simp [results, Try.results54, go_sem]) rfl ⟨_, _, _, _, _, _, rfl, ?_⟩
  exact ⟨five_tre base 14 HKi ta tb ka na kb nb sa sb aa ab la ca lb cb w HTa HTb HBase _, five_bel 14 ka na kb nb sa sb aa ab la ca lb cb w _⟩
end
section
open Go.RowKit
set_option linter.unusedVariables false
theorem five_row (base : Nat) (k : Int) (HKi : Hid (InR k)) (ta tb : Tr) (ka na kb nb : Int) (sa sb : ByteArray) (aa ab : Option Addr) (la ca lb cb : Nat) (w : World) (HTa : Hid (Tre w (fun g => base ≤ g) (.agg #[.int .i64 ka, .int .i64 na, .string sa, .slice aa la ca]) ta)) (HTb : Hid (Tre w (fun g => base ≤ g) (.agg #[.int .i64 kb, .int .i64 nb, .string sb, .slice ab lb cb]) tb)) (HBase : Hid (base ≤ w.heap.size)) {w' : World} (HB : Below (((((w.alloc (.cells #[.int .i64 ka, .int .i64 na, .string sa, .slice aa la ca] 24)).alloc (.cells #[.int .i64 kb, .int .i64 nb, .string sb, .slice ab lb cb] 24)).alloc (.cells #[.int .i64 0, .int .i64 0, .string ⟨#[]⟩, .slice none 0 0] 24)).alloc (.cells #[.int .i64 ka, .int .i64 na, .string sa, .slice aa la ca, .int .i64 kb, .int .i64 nb, .string sb, .slice ab lb cb] 24)).alloc (.cells #[.int .i64 k, .int .i64 0, .string ⟨#[]⟩, .slice (some ⟨w.heap.size + 1 + 1 + 1, 0, none⟩) 2 2] 24)).heap.size (((((w.alloc (.cells #[.int .i64 ka, .int .i64 na, .string sa, .slice aa la ca] 24)).alloc (.cells #[.int .i64 kb, .int .i64 nb, .string sb, .slice ab lb cb] 24)).alloc (.cells #[.int .i64 0, .int .i64 0, .string ⟨#[]⟩, .slice none 0 0] 24)).alloc (.cells #[.int .i64 ka, .int .i64 na, .string sa, .slice aa la ca, .int .i64 kb, .int .i64 nb, .string sb, .slice ab lb cb] 24)).alloc (.cells #[.int .i64 k, .int .i64 0, .string ⟨#[]⟩, .slice (some ⟨w.heap.size + 1 + 1 + 1, 0, none⟩) 2 2] 24)) w') : Sit w w' (w.heap.size + 1 + 1 + 1 + 1) (.int .i64 ka) (.int .i64 na) (.string sa) (.slice aa la ca) (.int .i64 kb) (.int .i64 nb) (.string sb) (.slice ab lb cb) (.int .i64 k) (.int .i64 0) (.string ⟨#[]⟩) (.slice (some ⟨w.heap.size + 1 + 1 + 1, 0, none⟩) 2 2) ∧ RowC w' (w.heap.size + 1 + 1 + 1) #[.int .i64 ka, .int .i64 na, .string sa, .slice aa la ca, .int .i64 kb, .int .i64 nb, .string sb, .slice ab lb cb] := by
  refine ⟨(five_new base k HKi ta tb ka na kb nb sa sb aa ab la ca lb cb w HTa HTb HBase HB).1, ?_⟩
  have hr := RowC.new (((w.alloc (.cells #[.int .i64 ka, .int .i64 na, .string sa, .slice aa la ca] 24)).alloc (.cells #[.int .i64 kb, .int .i64 nb, .string sb, .slice ab lb cb] 24)).alloc (.cells #[.int .i64 0, .int .i64 0, .string ⟨#[]⟩, .slice none 0 0] 24)) #[.int .i64 ka, .int .i64 na, .string sa, .slice aa la ca, .int .i64 kb, .int .i64 nb, .string sb, .slice ab lb cb] 24
  rw [size_alloc, size_alloc, size_alloc] at hr
  exact (hr.below ((Below.refl _ _).alloc (Nat.le_refl _) _)).below HB
theorem row_below {w w' : World} {g : Nat} {vs : Array Value} (h : RowC w g vs) (hb : Below w.heap.size w w') : RowC w' g vs := h.below hb
theorem whole_out (base : Nat) (k : Int) (HKi : Hid (InR k)) (ta tb : Tr) (ka na kb nb : Int) (sa sb : ByteArray) (aa ab : Option Addr) (la ca lb cb : Nat) (w : World) (HTa : Hid (Tre w (fun g => base ≤ g) (.agg #[.int .i64 ka, .int .i64 na, .string sa, .slice aa la ca]) ta)) (HTb : Hid (Tre w (fun g => base ≤ g) (.agg #[.int .i64 kb, .int .i64 nb, .string sb, .slice ab lb cb]) tb)) (HBase : Hid (base ≤ w.heap.size)) {w' : World} (hs : Sit w w' (w.heap.size + 1 + 1 + 1 + 1) (.int .i64 ka) (.int .i64 na) (.string sa) (.slice aa la ca) (.int .i64 kb) (.int .i64 nb) (.string sb) (.slice ab lb cb) (.int .i64 k) (.int .i64 0) (.string ⟨#[]⟩) (.slice (some ⟨w.heap.size + 1 + 1 + 1, 0, none⟩) 2 2)) (hr : RowC w' (w.heap.size + 1 + 1 + 1) #[.int .i64 ka, .int .i64 na, .string sa, .slice aa la ca, .int .i64 kb, .int .i64 nb, .string sb, .slice ab lb cb]) (u0 u1 u2 u3 : Value) :
    Tre ((((w'.setCell ⟨w.heap.size + 1 + 1, 0, none⟩ u0).setCell ⟨w.heap.size + 1 + 1, 0 + 1, none⟩ u1).setCell ⟨w.heap.size + 1 + 1, 0 + 2, none⟩ u2).setCell ⟨w.heap.size + 1 + 1, 0 + 3, none⟩ u3) (fun g => base ≤ g) (.agg #[.int .i64 k, .int .i64 0, .string ⟨#[]⟩, .slice (some ⟨w.heap.size + 1 + 1 + 1, 0, none⟩) 2 2]) ⟨k, 0, [], [ta, tb]⟩ ∧ Below w.heap.size w ((((w'.setCell ⟨w.heap.size + 1 + 1, 0, none⟩ u0).setCell ⟨w.heap.size + 1 + 1, 0 + 1, none⟩ u1).setCell ⟨w.heap.size + 1 + 1, 0 + 2, none⟩ u2).setCell ⟨w.heap.size + 1 + 1, 0 + 3, none⟩ u3) := by
  have hb := below_four hs.bel (M := w.heap.size + 1 + 1) (o := 0) (u0 := u0) (u1 := u1) (u2 := u2) (u3 := u3) (by omega)
  have hr1 := (((hr.set (p := ⟨w.heap.size + 1 + 1, 0, none⟩) (show w.heap.size + 1 + 1 + 1 ≠ w.heap.size + 1 + 1 by omega) u0).set (p := ⟨w.heap.size + 1 + 1, 0 + 1, none⟩) (show w.heap.size + 1 + 1 + 1 ≠ w.heap.size + 1 + 1 by omega) u1).set (p := ⟨w.heap.size + 1 + 1, 0 + 2, none⟩) (show w.heap.size + 1 + 1 + 1 ≠ w.heap.size + 1 + 1 by omega) u2).set (p := ⟨w.heap.size + 1 + 1, 0 + 3, none⟩) (show w.heap.size + 1 + 1 + 1 ≠ w.heap.size + 1 + 1 by omega) u3
  exact ⟨Tre.node2 HKi.out (HTa.out.below hb) (HTb.out.below hb) (show base ≤ w.heap.size + 1 + 1 + 1 by have := HBase.out; omega) (hr1 0 _ rfl) (hr1 1 _ rfl) (hr1 2 _ rfl) (hr1 3 _ rfl) (hr1 4 _ rfl) (hr1 5 _ rfl) (hr1 6 _ rfl) (hr1 7 _ rfl), hb⟩
set_option maxRecDepth 100000 in
set_option maxHeartbeats 800000 in
theorem rtwo_n1 (base : Nat) (k : Int) (HKi : Hid (InR k)) (ta tb : Tr) (ka na kb nb : Int) (sa sb : ByteArray) (aa ab : Option Addr) (la ca lb cb : Nat) (w : World) (HTa : Hid (Tre w (fun g => base ≤ g) (.agg #[.int .i64 ka, .int .i64 na, .string sa, .slice aa la ca]) ta)) (HTb : Hid (Tre w (fun g => base ≤ g) (.agg #[.int .i64 kb, .int .i64 nb, .string sb, .slice ab lb cb]) tb)) (HBase : Hid (base ≤ w.heap.size)) (hk3 : (k == 13) = false) (hk4 : (k == 14) = false) (HPa : Hid (∀ w, Calls Try.prog 55 #[.agg #[.int .i64 ka, .int .i64 na, .string sa, .slice aa la ca]] w fun e w' => e = .returned (.bool false) ∧ Below w.heap.size w w')) : Calls Try.prog 54 #[.int .i64 k, .agg #[.int .i64 ka, .int .i64 na, .string sa, .slice aa la ca], .agg #[.int .i64 kb, .int .i64 nb, .string sb, .slice ab lb cb]] w (FPost base w ⟨k, 0, [], [ta, tb]⟩) := by
  go_enter Try.func54, Try.ntmps54
  go_wp2_with (first
    | (go_at_call 55; refine (HPa.out _).mono ?_; rintro e w1 ⟨rfl, HB⟩; obtain ⟨hy, hr⟩ := five_row base k HKi ta tb ka na kb nb sa sb aa ab la ca lb cb w HTa HTb HBase HB; have HY1 : Hid (Sit w w1 (w.heap.size + 1 + 1 + 1 + 1) (.int .i64 ka) (.int .i64 na) (.string sa) (.slice aa la ca) (.int .i64 kb) (.int .i64 nb) (.string sb) (.slice ab lb cb) (.int .i64 k) (.int .i64 0) (.string ⟨#[]⟩) (.slice (some ⟨w.heap.size + 1 + 1 + 1, 0, none⟩) 2 2)) := hy; have HR1 : Hid (RowC w1 (w.heap.size + 1 + 1 + 1) #[.int .i64 ka, .int .i64 na, .string sa, .slice aa la ca, .int .i64 kb, .int .i64 nb, .string sb, .slice ab lb cb]) := hr; clear HB hy hr; obtain ⟨p0, p1, p2, p3, p4⟩ := HY1.out.a; obtain ⟨q0, q1, q2, q3, q4⟩ := HY1.out.b; obtain ⟨r0, r1, r2, r3, r4⟩ := HY1.out.r; obtain ⟨z0, z1, z2, z3, z4⟩ := HY1.out.z; have hlp := World.block_lt_of_cell? _ _ p0; have hlq := World.block_lt_of_cell? _ _ q0; have hlr := World.block_lt_of_cell? _ _ r0; have hlz := World.block_lt_of_cell? _ _ z0; ))
  refine bodyPost_ret (v := .agg #[.int .i64 k, .int .i64 0, .string ⟨#[]⟩, .slice (some ⟨w.heap.size + 1 + 1 + 1, 0, none⟩) 2 2]) (by simp [results, Try.results54, go_sem, r0, r1, r2, r3]) rfl ⟨_, _, _, _, _, _, rfl, ?_⟩
  exact whole_out base k HKi ta tb ka na kb nb sa sb aa ab la ca lb cb w HTa HTb HBase HY1.out HR1.out _ _ _ _
set_option maxRecDepth 100000 in
set_option maxHeartbeats 800000 in
theorem rtwo_n2 (base : Nat) (k : Int) (HKi : Hid (InR k)) (ta tb : Tr) (ka na kb nb : Int) (sa sb : ByteArray) (aa ab : Option Addr) (la ca lb cb : Nat) (w : World) (HTa : Hid (Tre w (fun g => base ≤ g) (.agg #[.int .i64 ka, .int .i64 na, .string sa, .slice aa la ca]) ta)) (HTb : Hid (Tre w (fun g => base ≤ g) (.agg #[.int .i64 kb, .int .i64 nb, .string sb, .slice ab lb cb]) tb)) (HBase : Hid (base ≤ w.heap.size)) (hk3 : (k == 13) = false) (hk4 : (k == 14) = false) (HPa : Hid (∀ w, Calls Try.prog 55 #[.agg #[.int .i64 ka, .int .i64 na, .string sa, .slice aa la ca]] w fun e w' => e = .returned (.bool true) ∧ Below w.heap.size w w')) (HPb : Hid (∀ w, Calls Try.prog 55 #[.agg #[.int .i64 kb, .int .i64 nb, .string sb, .slice ab lb cb]] w fun e w' => e = .returned (.bool false) ∧ Below w.heap.size w w')) : Calls Try.prog 54 #[.int .i64 k, .agg #[.int .i64 ka, .int .i64 na, .string sa, .slice aa la ca], .agg #[.int .i64 kb, .int .i64 nb, .string sb, .slice ab lb cb]] w (FPost base w ⟨k, 0, [], [ta, tb]⟩) := by
  go_enter Try.func54, Try.ntmps54
  go_wp2_with (first
    | (go_at_call 55; have := HY1; refine (HPb.out _).mono ?_; rintro e w2 ⟨rfl, HB⟩; have HY2 : Hid (Sit w w2 (w.heap.size + 1 + 1 + 1 + 1) (.int .i64 ka) (.int .i64 na) (.string sa) (.slice aa la ca) (.int .i64 kb) (.int .i64 nb) (.string sb) (.slice ab lb cb) (.int .i64 k) (.int .i64 0) (.string ⟨#[]⟩) (.slice (some ⟨w.heap.size + 1 + 1 + 1, 0, none⟩) 2 2)) := HY1.out.below HB; have HR2 : Hid (RowC w2 (w.heap.size + 1 + 1 + 1) #[.int .i64 ka, .int .i64 na, .string sa, .slice aa la ca, .int .i64 kb, .int .i64 nb, .string sb, .slice ab lb cb]) := row_below HR1.out HB; clear HB HY1 HR1; obtain ⟨p0, p1, p2, p3, p4⟩ := HY2.out.a; obtain ⟨q0, q1, q2, q3, q4⟩ := HY2.out.b; obtain ⟨r0, r1, r2, r3, r4⟩ := HY2.out.r; obtain ⟨z0, z1, z2, z3, z4⟩ := HY2.out.z; have hlp := World.block_lt_of_cell? _ _ p0; have hlq := World.block_lt_of_cell? _ _ q0; have hlr := World.block_lt_of_cell? _ _ r0; have hlz := World.block_lt_of_cell? _ _ z0; )
    | (go_at_call 55; refine (HPa.out _).mono ?_; rintro e w1 ⟨rfl, HB⟩; obtain ⟨hy, hr⟩ := five_row base k HKi ta tb ka na kb nb sa sb aa ab la ca lb cb w HTa HTb HBase HB; have HY1 : Hid (Sit w w1 (w.heap.size + 1 + 1 + 1 + 1) (.int .i64 ka) (.int .i64 na) (.string sa) (.slice aa la ca) (.int .i64 kb) (.int .i64 nb) (.string sb) (.slice ab lb cb) (.int .i64 k) (.int .i64 0) (.string ⟨#[]⟩) (.slice (some ⟨w.heap.size + 1 + 1 + 1, 0, none⟩) 2 2)) := hy; have HR1 : Hid (RowC w1 (w.heap.size + 1 + 1 + 1) #[.int .i64 ka, .int .i64 na, .string sa, .slice aa la ca, .int .i64 kb, .int .i64 nb, .string sb, .slice ab lb cb]) := hr; clear HB hy hr; obtain ⟨p0, p1, p2, p3, p4⟩ := HY1.out.a; obtain ⟨q0, q1, q2, q3, q4⟩ := HY1.out.b; obtain ⟨r0, r1, r2, r3, r4⟩ := HY1.out.r; obtain ⟨z0, z1, z2, z3, z4⟩ := HY1.out.z; have hlp := World.block_lt_of_cell? _ _ p0; have hlq := World.block_lt_of_cell? _ _ q0; have hlr := World.block_lt_of_cell? _ _ r0; have hlz := World.block_lt_of_cell? _ _ z0; ))
  refine bodyPost_ret (v := .agg #[.int .i64 k, .int .i64 0, .string ⟨#[]⟩, .slice (some ⟨w.heap.size + 1 + 1 + 1, 0, none⟩) 2 2]) (by simp [results, Try.results54, go_sem, r0, r1, r2, r3]) rfl ⟨_, _, _, _, _, _, rfl, ?_⟩
  exact whole_out base k HKi ta tb ka na kb nb sa sb aa ab la ca lb cb w HTa HTb HBase HY2.out HR2.out _ _ _ _
end
section
open Go.RowKit
set_option linter.unusedVariables false
set_option maxRecDepth 100000 in
set_option maxHeartbeats 800000 in
theorem rtwo_eq (base : Nat) (k : Int) (HKi : Hid (InR k)) (ta tb : Tr) (ka na kb nb : Int) (sa sb : ByteArray) (aa ab : Option Addr) (la ca lb cb : Nat) (w : World) (HTa : Hid (Tre w (fun g => base ≤ g) (.agg #[.int .i64 ka, .int .i64 na, .string sa, .slice aa la ca]) ta)) (HTb : Hid (Tre w (fun g => base ≤ g) (.agg #[.int .i64 kb, .int .i64 nb, .string sb, .slice ab lb cb]) tb)) (HBase : Hid (base ≤ w.heap.size)) (t : Bool) (xk : Int) (hk : k = 11) (HPa : Hid (∀ w, Calls Try.prog 55 #[.agg #[.int .i64 ka, .int .i64 na, .string sa, .slice aa la ca]] w fun e w' => e = .returned (.bool true) ∧ Below w.heap.size w w')) (HPb : Hid (∀ w, Calls Try.prog 55 #[.agg #[.int .i64 kb, .int .i64 nb, .string sb, .slice ab lb cb]] w fun e w' => e = .returned (.bool true) ∧ Below w.heap.size w w')) (HE : Hid (∀ w, Calls Try.prog 78 #[.agg #[.int .i64 ka, .int .i64 na, .string sa, .slice aa la ca], .agg #[.int .i64 kb, .int .i64 nb, .string sb, .slice ab lb cb]] w fun e w' => e = .returned (.bool t) ∧ Below w.heap.size w w')) (HG : Hid (∀ w, Calls Try.prog 56 #[.bool t] w fun e w' => e = .returned (.agg #[.int .i64 xk, .int .i64 0, .string ⟨#[]⟩, .slice none 0 0]) ∧ Below w.heap.size w w')) (HT : Hid (∀ w, Tre w (fun g => base ≤ g) (.agg #[.int .i64 xk, .int .i64 0, .string ⟨#[]⟩, .slice none 0 0]) (ansT t))) : Calls Try.prog 54 #[.int .i64 k, .agg #[.int .i64 ka, .int .i64 na, .string sa, .slice aa la ca], .agg #[.int .i64 kb, .int .i64 nb, .string sb, .slice ab lb cb]] w (FPost base w (ansT t)) := by
  subst hk
  go_enter Try.func54, Try.ntmps54
  go_wp2_with (first
    | (go_at_call 56; have := HY3; refine (HG.out _).mono ?_; rintro e w4 ⟨rfl, HB⟩; have HY4 : Hid (Sit w w4 (w.heap.size + 1 + 1 + 1 + 1) (.int .i64 ka) (.int .i64 na) (.string sa) (.slice aa la ca) (.int .i64 kb) (.int .i64 nb) (.string sb) (.slice ab lb cb) (.int .i64 11) (.int .i64 0) (.string ⟨#[]⟩) (.slice (some ⟨w.heap.size + 1 + 1 + 1, 0, none⟩) 2 2)) := HY3.out.below HB; have HR4 : Hid (RowC w4 (w.heap.size + 1 + 1 + 1) #[.int .i64 ka, .int .i64 na, .string sa, .slice aa la ca, .int .i64 kb, .int .i64 nb, .string sb, .slice ab lb cb]) := row_below HR3.out HB; clear HB HY3 HR3; obtain ⟨p0, p1, p2, p3, p4⟩ := HY4.out.a; obtain ⟨q0, q1, q2, q3, q4⟩ := HY4.out.b; obtain ⟨r0, r1, r2, r3, r4⟩ := HY4.out.r; obtain ⟨z0, z1, z2, z3, z4⟩ := HY4.out.z; have hlp := World.block_lt_of_cell? _ _ p0; have hlq := World.block_lt_of_cell? _ _ q0; have hlr := World.block_lt_of_cell? _ _ r0; have hlz := World.block_lt_of_cell? _ _ z0; )
    | (go_at_call 78; have := HY2; refine (HE.out _).mono ?_; rintro e w3 ⟨rfl, HB⟩; have HY3 : Hid (Sit w w3 (w.heap.size + 1 + 1 + 1 + 1) (.int .i64 ka) (.int .i64 na) (.string sa) (.slice aa la ca) (.int .i64 kb) (.int .i64 nb) (.string sb) (.slice ab lb cb) (.int .i64 11) (.int .i64 0) (.string ⟨#[]⟩) (.slice (some ⟨w.heap.size + 1 + 1 + 1, 0, none⟩) 2 2)) := HY2.out.below HB; have HR3 : Hid (RowC w3 (w.heap.size + 1 + 1 + 1) #[.int .i64 ka, .int .i64 na, .string sa, .slice aa la ca, .int .i64 kb, .int .i64 nb, .string sb, .slice ab lb cb]) := row_below HR2.out HB; clear HB HY2 HR2; obtain ⟨p0, p1, p2, p3, p4⟩ := HY3.out.a; obtain ⟨q0, q1, q2, q3, q4⟩ := HY3.out.b; obtain ⟨r0, r1, r2, r3, r4⟩ := HY3.out.r; obtain ⟨z0, z1, z2, z3, z4⟩ := HY3.out.z; have hlp := World.block_lt_of_cell? _ _ p0; have hlq := World.block_lt_of_cell? _ _ q0; have hlr := World.block_lt_of_cell? _ _ r0; have hlz := World.block_lt_of_cell? _ _ z0; )
    | (go_at_call 55; have := HY1; refine (HPb.out _).mono ?_; rintro e w2 ⟨rfl, HB⟩; have HY2 : Hid (Sit w w2 (w.heap.size + 1 + 1 + 1 + 1) (.int .i64 ka) (.int .i64 na) (.string sa) (.slice aa la ca) (.int .i64 kb) (.int .i64 nb) (.string sb) (.slice ab lb cb) (.int .i64 11) (.int .i64 0) (.string ⟨#[]⟩) (.slice (some ⟨w.heap.size + 1 + 1 + 1, 0, none⟩) 2 2)) := HY1.out.below HB; have HR2 : Hid (RowC w2 (w.heap.size + 1 + 1 + 1) #[.int .i64 ka, .int .i64 na, .string sa, .slice aa la ca, .int .i64 kb, .int .i64 nb, .string sb, .slice ab lb cb]) := row_below HR1.out HB; clear HB HY1 HR1; obtain ⟨p0, p1, p2, p3, p4⟩ := HY2.out.a; obtain ⟨q0, q1, q2, q3, q4⟩ := HY2.out.b; obtain ⟨r0, r1, r2, r3, r4⟩ := HY2.out.r; obtain ⟨z0, z1, z2, z3, z4⟩ := HY2.out.z; have hlp := World.block_lt_of_cell? _ _ p0; have hlq := World.block_lt_of_cell? _ _ q0; have hlr := World.block_lt_of_cell? _ _ r0; have hlz := World.block_lt_of_cell? _ _ z0; )
    | (go_at_call 55; refine (HPa.out _).mono ?_; rintro e w1 ⟨rfl, HB⟩; obtain ⟨hy, hr⟩ := five_row base 11 HKi ta tb ka na kb nb sa sb aa ab la ca lb cb w HTa HTb HBase HB; have HY1 : Hid (Sit w w1 (w.heap.size + 1 + 1 + 1 + 1) (.int .i64 ka) (.int .i64 na) (.string sa) (.slice aa la ca) (.int .i64 kb) (.int .i64 nb) (.string sb) (.slice ab lb cb) (.int .i64 11) (.int .i64 0) (.string ⟨#[]⟩) (.slice (some ⟨w.heap.size + 1 + 1 + 1, 0, none⟩) 2 2)) := hy; have HR1 : Hid (RowC w1 (w.heap.size + 1 + 1 + 1) #[.int .i64 ka, .int .i64 na, .string sa, .slice aa la ca, .int .i64 kb, .int .i64 nb, .string sb, .slice ab lb cb]) := hr; clear HB hy hr; obtain ⟨p0, p1, p2, p3, p4⟩ := HY1.out.a; obtain ⟨q0, q1, q2, q3, q4⟩ := HY1.out.b; obtain ⟨r0, r1, r2, r3, r4⟩ := HY1.out.r; obtain ⟨z0, z1, z2, z3, z4⟩ := HY1.out.z; have hlp := World.block_lt_of_cell? _ _ p0; have hlq := World.block_lt_of_cell? _ _ q0; have hlr := World.block_lt_of_cell? _ _ r0; have hlz := World.block_lt_of_cell? _ _ z0; ))
  refine bodyPost_ret (v := .agg #[.int .i64 xk, .int .i64 0, .string ⟨#[]⟩, .slice none 0 0]) (by simp [results, Try.results54, go_sem, r0, r1, r2, r3]) rfl ⟨_, _, _, _, _, _, rfl, ?_⟩
  exact ⟨HT.out _, below_four HY4.out.bel (M := w.heap.size + 1 + 1) (o := 0) (by omega)⟩
set_option maxRecDepth 100000 in
set_option maxHeartbeats 800000 in
theorem rtwo_sum (base : Nat) (k : Int) (HKi : Hid (InR k)) (ta tb : Tr) (ka na kb nb : Int) (sa sb : ByteArray) (aa ab : Option Addr) (la ca lb cb : Nat) (w : World) (HTa : Hid (Tre w (fun g => base ≤ g) (.agg #[.int .i64 ka, .int .i64 na, .string sa, .slice aa la ca]) ta)) (HTb : Hid (Tre w (fun g => base ≤ g) (.agg #[.int .i64 kb, .int .i64 nb, .string sb, .slice ab lb cb]) tb)) (HBase : Hid (base ≤ w.heap.size)) (hk3 : (k == 13) = false) (hk4 : (k == 14) = false) (hk1 : (k == 11) = false) (xk xn : Int) (tr : Tr) (HT : Hid (∀ w, Tre w (fun g => base ≤ g) (.agg #[.int .i64 xk, .int .i64 xn, .string ⟨#[]⟩, .slice none 0 0]) tr)) (HPa : Hid (∀ w, Calls Try.prog 55 #[.agg #[.int .i64 ka, .int .i64 na, .string sa, .slice aa la ca]] w fun e w' => e = .returned (.bool true) ∧ Below w.heap.size w w')) (HPb : Hid (∀ w, Calls Try.prog 55 #[.agg #[.int .i64 kb, .int .i64 nb, .string sb, .slice ab lb cb]] w fun e w' => e = .returned (.bool true) ∧ Below w.heap.size w w')) (HS : Hid (∀ w, Calls Try.prog 79 #[.int .i64 k, .int .i64 na, .int .i64 nb] w fun e w' => e = .returned (.tuple #[.agg #[.int .i64 xk, .int .i64 xn, .string ⟨#[]⟩, .slice none 0 0], .bool true]) ∧ Below w.heap.size w w')) : Calls Try.prog 54 #[.int .i64 k, .agg #[.int .i64 ka, .int .i64 na, .string sa, .slice aa la ca], .agg #[.int .i64 kb, .int .i64 nb, .string sb, .slice ab lb cb]] w (FPost base w tr) := by
  go_enter Try.func54, Try.ntmps54
  go_wp2_with (first
    | (go_at_call 79; have := HY2; refine (HS.out _).mono ?_; rintro e w3 ⟨rfl, HB⟩; have HY3 : Hid (Sit w w3 (w.heap.size + 1 + 1 + 1 + 1) (.int .i64 ka) (.int .i64 na) (.string sa) (.slice aa la ca) (.int .i64 kb) (.int .i64 nb) (.string sb) (.slice ab lb cb) (.int .i64 k) (.int .i64 0) (.string ⟨#[]⟩) (.slice (some ⟨w.heap.size + 1 + 1 + 1, 0, none⟩) 2 2)) := HY2.out.below HB; have HR3 : Hid (RowC w3 (w.heap.size + 1 + 1 + 1) #[.int .i64 ka, .int .i64 na, .string sa, .slice aa la ca, .int .i64 kb, .int .i64 nb, .string sb, .slice ab lb cb]) := row_below HR2.out HB; clear HB HY2 HR2; obtain ⟨p0, p1, p2, p3, p4⟩ := HY3.out.a; obtain ⟨q0, q1, q2, q3, q4⟩ := HY3.out.b; obtain ⟨r0, r1, r2, r3, r4⟩ := HY3.out.r; obtain ⟨z0, z1, z2, z3, z4⟩ := HY3.out.z; have hlp := World.block_lt_of_cell? _ _ p0; have hlq := World.block_lt_of_cell? _ _ q0; have hlr := World.block_lt_of_cell? _ _ r0; have hlz := World.block_lt_of_cell? _ _ z0; )
    | (go_at_call 55; have := HY1; refine (HPb.out _).mono ?_; rintro e w2 ⟨rfl, HB⟩; have HY2 : Hid (Sit w w2 (w.heap.size + 1 + 1 + 1 + 1) (.int .i64 ka) (.int .i64 na) (.string sa) (.slice aa la ca) (.int .i64 kb) (.int .i64 nb) (.string sb) (.slice ab lb cb) (.int .i64 k) (.int .i64 0) (.string ⟨#[]⟩) (.slice (some ⟨w.heap.size + 1 + 1 + 1, 0, none⟩) 2 2)) := HY1.out.below HB; have HR2 : Hid (RowC w2 (w.heap.size + 1 + 1 + 1) #[.int .i64 ka, .int .i64 na, .string sa, .slice aa la ca, .int .i64 kb, .int .i64 nb, .string sb, .slice ab lb cb]) := row_below HR1.out HB; clear HB HY1 HR1; obtain ⟨p0, p1, p2, p3, p4⟩ := HY2.out.a; obtain ⟨q0, q1, q2, q3, q4⟩ := HY2.out.b; obtain ⟨r0, r1, r2, r3, r4⟩ := HY2.out.r; obtain ⟨z0, z1, z2, z3, z4⟩ := HY2.out.z; have hlp := World.block_lt_of_cell? _ _ p0; have hlq := World.block_lt_of_cell? _ _ q0; have hlr := World.block_lt_of_cell? _ _ r0; have hlz := World.block_lt_of_cell? _ _ z0; )
    | (go_at_call 55; refine (HPa.out _).mono ?_; rintro e w1 ⟨rfl, HB⟩; obtain ⟨hy, hr⟩ := five_row base k HKi ta tb ka na kb nb sa sb aa ab la ca lb cb w HTa HTb HBase HB; have HY1 : Hid (Sit w w1 (w.heap.size + 1 + 1 + 1 + 1) (.int .i64 ka) (.int .i64 na) (.string sa) (.slice aa la ca) (.int .i64 kb) (.int .i64 nb) (.string sb) (.slice ab lb cb) (.int .i64 k) (.int .i64 0) (.string ⟨#[]⟩) (.slice (some ⟨w.heap.size + 1 + 1 + 1, 0, none⟩) 2 2)) := hy; have HR1 : Hid (RowC w1 (w.heap.size + 1 + 1 + 1) #[.int .i64 ka, .int .i64 na, .string sa, .slice aa la ca, .int .i64 kb, .int .i64 nb, .string sb, .slice ab lb cb]) := hr; clear HB hy hr; obtain ⟨p0, p1, p2, p3, p4⟩ := HY1.out.a; obtain ⟨q0, q1, q2, q3, q4⟩ := HY1.out.b; obtain ⟨r0, r1, r2, r3, r4⟩ := HY1.out.r; obtain ⟨z0, z1, z2, z3, z4⟩ := HY1.out.z; have hlp := World.block_lt_of_cell? _ _ p0; have hlq := World.block_lt_of_cell? _ _ q0; have hlr := World.block_lt_of_cell? _ _ r0; have hlz := World.block_lt_of_cell? _ _ z0; ))
  have hc : Cell4 (((((w3.setCell ⟨w.heap.size + 1 + 1, 0, none⟩ (.int .i64 xk)).setCell ⟨w.heap.size + 1 + 1, 1, none⟩ (.int .i64 xn)).setCell ⟨w.heap.size + 1 + 1, 2, none⟩ (.string ⟨#[]⟩)).setCell ⟨w.heap.size + 1 + 1, 3, none⟩ (.slice none 0 0)).alloc (.cells #[.int .i64 xk, .int .i64 xn, .string ⟨#[]⟩, .slice none 0 0] 24)) (w.heap.size + 1 + 1) (.int .i64 xk) (.int .i64 xn) (.string ⟨#[]⟩) (.slice none 0 0) := HY3.out.r.put.alloc _
  have hb := below_four HY3.out.bel (M := w.heap.size + 1 + 1) (o := 0) (u0 := .int .i64 xk) (u1 := .int .i64 xn) (u2 := .string ⟨#[]⟩) (u3 := .slice none 0 0) (by omega)
  obtain ⟨r0, r1, r2, r3, r4⟩ := hc
  refine bodyPost_ret (v := .agg #[.int .i64 xk, .int .i64 xn, .string ⟨#[]⟩, .slice none 0 0]) (by simp [results, Try.results54, go_sem, r0, r1, r2, r3]) rfl ⟨_, _, _, _, _, _, rfl, HT.out _, hb.alloc hb.size _⟩
set_option maxRecDepth 100000 in
set_option maxHeartbeats 800000 in
theorem rtwo_nosum (base : Nat) (k : Int) (HKi : Hid (InR k)) (ta tb : Tr) (ka na kb nb : Int) (sa sb : ByteArray) (aa ab : Option Addr) (la ca lb cb : Nat) (w : World) (HTa : Hid (Tre w (fun g => base ≤ g) (.agg #[.int .i64 ka, .int .i64 na, .string sa, .slice aa la ca]) ta)) (HTb : Hid (Tre w (fun g => base ≤ g) (.agg #[.int .i64 kb, .int .i64 nb, .string sb, .slice ab lb cb]) tb)) (HBase : Hid (base ≤ w.heap.size)) (hk3 : (k == 13) = false) (hk4 : (k == 14) = false) (hk1 : (k == 11) = false) (HPa : Hid (∀ w, Calls Try.prog 55 #[.agg #[.int .i64 ka, .int .i64 na, .string sa, .slice aa la ca]] w fun e w' => e = .returned (.bool true) ∧ Below w.heap.size w w')) (HPb : Hid (∀ w, Calls Try.prog 55 #[.agg #[.int .i64 kb, .int .i64 nb, .string sb, .slice ab lb cb]] w fun e w' => e = .returned (.bool true) ∧ Below w.heap.size w w')) (HS : Hid (∀ w, Calls Try.prog 79 #[.int .i64 k, .int .i64 na, .int .i64 nb] w fun e w' => e = .returned (.tuple #[.agg #[.int .i64 0, .int .i64 0, .string ⟨#[]⟩, .slice none 0 0], .bool false]) ∧ Below w.heap.size w w')) : Calls Try.prog 54 #[.int .i64 k, .agg #[.int .i64 ka, .int .i64 na, .string sa, .slice aa la ca], .agg #[.int .i64 kb, .int .i64 nb, .string sb, .slice ab lb cb]] w (FPost base w ⟨k, 0, [], [ta, tb]⟩) := by
  go_enter Try.func54, Try.ntmps54
  go_wp2_with (first
    | (go_at_call 79; have := HY2; refine (HS.out _).mono ?_; rintro e w3 ⟨rfl, HB⟩; have HY3 : Hid (Sit w w3 (w.heap.size + 1 + 1 + 1 + 1) (.int .i64 ka) (.int .i64 na) (.string sa) (.slice aa la ca) (.int .i64 kb) (.int .i64 nb) (.string sb) (.slice ab lb cb) (.int .i64 k) (.int .i64 0) (.string ⟨#[]⟩) (.slice (some ⟨w.heap.size + 1 + 1 + 1, 0, none⟩) 2 2)) := HY2.out.below HB; have HR3 : Hid (RowC w3 (w.heap.size + 1 + 1 + 1) #[.int .i64 ka, .int .i64 na, .string sa, .slice aa la ca, .int .i64 kb, .int .i64 nb, .string sb, .slice ab lb cb]) := row_below HR2.out HB; clear HB HY2 HR2; obtain ⟨p0, p1, p2, p3, p4⟩ := HY3.out.a; obtain ⟨q0, q1, q2, q3, q4⟩ := HY3.out.b; obtain ⟨r0, r1, r2, r3, r4⟩ := HY3.out.r; obtain ⟨z0, z1, z2, z3, z4⟩ := HY3.out.z; have hlp := World.block_lt_of_cell? _ _ p0; have hlq := World.block_lt_of_cell? _ _ q0; have hlr := World.block_lt_of_cell? _ _ r0; have hlz := World.block_lt_of_cell? _ _ z0; )
    | (go_at_call 55; have := HY1; refine (HPb.out _).mono ?_; rintro e w2 ⟨rfl, HB⟩; have HY2 : Hid (Sit w w2 (w.heap.size + 1 + 1 + 1 + 1) (.int .i64 ka) (.int .i64 na) (.string sa) (.slice aa la ca) (.int .i64 kb) (.int .i64 nb) (.string sb) (.slice ab lb cb) (.int .i64 k) (.int .i64 0) (.string ⟨#[]⟩) (.slice (some ⟨w.heap.size + 1 + 1 + 1, 0, none⟩) 2 2)) := HY1.out.below HB; have HR2 : Hid (RowC w2 (w.heap.size + 1 + 1 + 1) #[.int .i64 ka, .int .i64 na, .string sa, .slice aa la ca, .int .i64 kb, .int .i64 nb, .string sb, .slice ab lb cb]) := row_below HR1.out HB; clear HB HY1 HR1; obtain ⟨p0, p1, p2, p3, p4⟩ := HY2.out.a; obtain ⟨q0, q1, q2, q3, q4⟩ := HY2.out.b; obtain ⟨r0, r1, r2, r3, r4⟩ := HY2.out.r; obtain ⟨z0, z1, z2, z3, z4⟩ := HY2.out.z; have hlp := World.block_lt_of_cell? _ _ p0; have hlq := World.block_lt_of_cell? _ _ q0; have hlr := World.block_lt_of_cell? _ _ r0; have hlz := World.block_lt_of_cell? _ _ z0; )
    | (go_at_call 55; refine (HPa.out _).mono ?_; rintro e w1 ⟨rfl, HB⟩; obtain ⟨hy, hr⟩ := five_row base k HKi ta tb ka na kb nb sa sb aa ab la ca lb cb w HTa HTb HBase HB; have HY1 : Hid (Sit w w1 (w.heap.size + 1 + 1 + 1 + 1) (.int .i64 ka) (.int .i64 na) (.string sa) (.slice aa la ca) (.int .i64 kb) (.int .i64 nb) (.string sb) (.slice ab lb cb) (.int .i64 k) (.int .i64 0) (.string ⟨#[]⟩) (.slice (some ⟨w.heap.size + 1 + 1 + 1, 0, none⟩) 2 2)) := hy; have HR1 : Hid (RowC w1 (w.heap.size + 1 + 1 + 1) #[.int .i64 ka, .int .i64 na, .string sa, .slice aa la ca, .int .i64 kb, .int .i64 nb, .string sb, .slice ab lb cb]) := hr; clear HB hy hr; obtain ⟨p0, p1, p2, p3, p4⟩ := HY1.out.a; obtain ⟨q0, q1, q2, q3, q4⟩ := HY1.out.b; obtain ⟨r0, r1, r2, r3, r4⟩ := HY1.out.r; obtain ⟨z0, z1, z2, z3, z4⟩ := HY1.out.z; have hlp := World.block_lt_of_cell? _ _ p0; have hlq := World.block_lt_of_cell? _ _ q0; have hlr := World.block_lt_of_cell? _ _ r0; have hlz := World.block_lt_of_cell? _ _ z0; ))
  have hc : Cell4 (((((w3.setCell ⟨w.heap.size + 1 + 1, 0, none⟩ (.int .i64 k)).setCell ⟨w.heap.size + 1 + 1, 1, none⟩ (.int .i64 0)).setCell ⟨w.heap.size + 1 + 1, 2, none⟩ (.string ⟨#[]⟩)).setCell ⟨w.heap.size + 1 + 1, 3, none⟩ (.slice (some ⟨w.heap.size + 1 + 1 + 1, 0, none⟩) 2 2)).alloc (.cells #[.int .i64 0, .int .i64 0, .string ⟨#[]⟩, .slice none 0 0] 24)) (w.heap.size + 1 + 1) (.int .i64 k) (.int .i64 0) (.string ⟨#[]⟩) (.slice (some ⟨w.heap.size + 1 + 1 + 1, 0, none⟩) 2 2) := HY3.out.r.put.alloc _
  obtain ⟨ht, hb⟩ := whole_out base k HKi ta tb ka na kb nb sa sb aa ab la ca lb cb w HTa HTb HBase HY3.out HR3.out (.int .i64 k) (.int .i64 0) (.string ⟨#[]⟩) (.slice (some ⟨w.heap.size + 1 + 1 + 1, 0, none⟩) 2 2)
  obtain ⟨r0, r1, r2, r3, r4⟩ := hc
  refine bodyPost_ret (v := .agg #[.int .i64 k, .int .i64 0, .string ⟨#[]⟩, .slice (some ⟨w.heap.size + 1 + 1 + 1, 0, none⟩) 2 2]) (by simp [results, Try.results54, go_sem, r0, r1, r2, r3]) rfl ⟨_, _, _, _, _, _, rfl, ht.alloc _, hb.alloc hb.size _⟩
end
end Go.Proofs.Ytfjphlejhcdbaaa
