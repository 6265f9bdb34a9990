/-
  The document's Named, Numbered, Asks, ways, typed, fields: contracts.
-/
import Derived.Test.YtlaiacjlphjmlaaChD
import Derived.Test.YtlaiacjlphjmlaaTyZ
namespace Go.Proofs.Ytlaiacjlphjmlaa
open Go.RowKit
set_option linter.unusedVariables false

def nbK (k : Int) : Bool := decide (k = 2)
def asK (k : Int) : Bool := decide (k = 6 ∨ k = 7 ∨ k = 9)
theorem firstBad_one {f : Tr → Nat} {l : List Tr} (h : l.length = 1) : firstBad f l = f (l.getD 0 zeroT) := by
  by_cases h0 : f (l.getD 0 zeroT) = 0
  · rw [h0]; exact firstBad_none _ l fun j hj => by rw [show j = 0 by omega]; exact h0
  · exact firstBad_at _ l 0 (by omega) (fun j hj => absurd hj (by omega)) h0
set_option maxRecDepth 100000 in
theorem dnamed_any (k : Int) (w : World) : Calls Try.prog 47 #[.int .i64 k] w fun e w' => e = .returned (.bool (namedK k)) ∧ w' = w := by
  by_cases h2 : k = 2
  · subst h2
    go_enter Try.func47, Try.ntmps47
    go_wp2
    go_ret
    exact ⟨rfl, rfl⟩
  have g2 : (k == 2) = false := by simpa using h2
  by_cases h6 : k = 6
  · subst h6
    go_enter Try.func47, Try.ntmps47
    go_wp2
    go_ret
    exact ⟨rfl, rfl⟩
  have g6 : (k == 6) = false := by simpa using h6
  by_cases h9 : k = 9
  · subst h9
    go_enter Try.func47, Try.ntmps47
    go_wp2
    go_ret
    exact ⟨rfl, rfl⟩
  have g9 : (k == 9) = false := by simpa using h9
  have HE : Hid (namedK k = false) := by show _ = _; unfold namedK; exact decide_eq_false (by omega)
  rw [HE.out]
  go_enter Try.func47, Try.ntmps47
  go_wp2
  go_ret
  exact ⟨rfl, rfl⟩
set_option maxRecDepth 100000 in
theorem dnumbered_any (k : Int) (w : World) : Calls Try.prog 48 #[.int .i64 k] w fun e w' => e = .returned (.bool (nbK k)) ∧ w' = w := by
  by_cases h2 : k = 2
  · subst h2
    go_enter Try.func48, Try.ntmps48
    go_wp2
    go_ret
    exact ⟨rfl, rfl⟩
  have g2 : (k == 2) = false := by simpa using h2
  have HE : Hid (nbK k = false) := by show _ = _; unfold nbK; exact decide_eq_false (by omega)
  rw [HE.out]
  go_enter Try.func48, Try.ntmps48
  go_wp2
  go_ret
  exact ⟨rfl, rfl⟩
set_option maxRecDepth 100000 in
theorem dasks_any (k : Int) (w : World) : Calls Try.prog 49 #[.int .i64 k] w fun e w' => e = .returned (.bool (asK k)) ∧ w' = w := by
  by_cases h6 : k = 6
  · subst h6
    go_enter Try.func49, Try.ntmps49
    go_wp2
    go_ret
    exact ⟨rfl, rfl⟩
  have g6 : (k == 6) = false := by simpa using h6
  by_cases h7 : k = 7
  · subst h7
    go_enter Try.func49, Try.ntmps49
    go_wp2
    go_ret
    exact ⟨rfl, rfl⟩
  have g7 : (k == 7) = false := by simpa using h7
  by_cases h9 : k = 9
  · subst h9
    go_enter Try.func49, Try.ntmps49
    go_wp2
    go_ret
    exact ⟨rfl, rfl⟩
  have g9 : (k == 9) = false := by simpa using h9
  have HE : Hid (asK k = false) := by show _ = _; unfold asK; exact decide_eq_false (by omega)
  rw [HE.out]
  go_enter Try.func49, Try.ntmps49
  go_wp2
  go_ret
  exact ⟨rfl, rfl⟩
set_option maxRecDepth 100000 in
theorem dways_any (k : Int) (w : World) : Calls Try.prog 50 #[.int .i64 k] w fun e w' => e = .returned (.tuple #[.int .i64 (leastK k), .int .i64 (mostK k)]) ∧ w' = w := by
  by_cases h3 : k = 3
  · subst h3
    go_enter Try.func50, Try.ntmps50
    go_wp2
    refine bodyPost_ret (v := .tuple #[.int .i64 (leastK 3), .int .i64 (mostK 3)]) (by simp [results, Try.results50, go_sem, leastK, mostK]) rfl ⟨rfl, rfl⟩
  have g3 : (k == 3) = false := by simpa using h3
  by_cases h4 : k = 4
  · subst h4
    go_enter Try.func50, Try.ntmps50
    go_wp2
    refine bodyPost_ret (v := .tuple #[.int .i64 (leastK 4), .int .i64 (mostK 4)]) (by simp [results, Try.results50, go_sem, leastK, mostK]) rfl ⟨rfl, rfl⟩
  have g4 : (k == 4) = false := by simpa using h4
  by_cases h8 : k = 8
  · subst h8
    go_enter Try.func50, Try.ntmps50
    go_wp2
    refine bodyPost_ret (v := .tuple #[.int .i64 (leastK 8), .int .i64 (mostK 8)]) (by simp [results, Try.results50, go_sem, leastK, mostK]) rfl ⟨rfl, rfl⟩
  have g8 : (k == 8) = false := by simpa using h8
  have e1 : leastK k = 1 := by unfold leastK; rw [if_neg h4, if_neg h8]
  have e2 : mostK k = 1 := by unfold mostK; rw [if_neg (by omega), if_neg h8]
  rw [e1, e2]
  clear e1 e2
  go_enter Try.func50, Try.ntmps50
  go_wp2
  refine bodyPost_ret (v := .tuple #[.int .i64 1, .int .i64 1]) (by simp [results, Try.results50, go_sem]) rfl ⟨rfl, rfl⟩
set_option maxRecDepth 100000 in
theorem dtyped_any (P : Nat → Prop) (truth : Bool) (t : Tr) (n : Int) (s : ByteArray) (a : Option Addr) (l c : Nat) (w : World) (hT : Tre w P (.agg #[.int .i64 t.kind, .int .i64 n, .string s, .slice a l c]) t) :
    Calls Try.prog 51 #[.agg #[.int .i64 t.kind, .int .i64 n, .string s, .slice a l c], .bool truth] w fun e w' => e = .returned (.int .i64 (typedM truth t : Nat)) ∧ Below w.heap.size w w' := by
  have HC : Hid (∀ o, Calls Try.prog 59 #[.agg #[.int .i64 t.kind, .int .i64 n, .string s, .slice a l c]] (w.alloc o) fun e w' => e = .returned (.tuple #[.bool (truthM t).1, .int .i64 (truthM t).2]) ∧ Below w.heap.size w w') := fun o => (RTruth_any P t n s a l c _ (hT.alloc o)).mono fun e w' q => ⟨q.1, below_new q.2⟩
  have HE : Hid (typedM truth t = if (truthM t).2 ≠ 0 then (truthM t).2 else if (truthM t).1 = truth then 0 else 7) := rfl
  rw [HE.out]
  clear HE hT
  generalize (truthM t).1 = tb at *
  generalize (truthM t).2 = tc at *
  generalize t.kind = tk at *
  by_cases hc0 : tc = 0
  · subst hc0
    rw [if_neg (by simp)]
    by_cases hb : tb = truth
    · rw [if_pos hb]
      subst hb
      go_enter Try.func51, Try.ntmps51
      go_wp2_with (go_at_call 59; refine (HC.out _).mono ?_; rintro e w3 ⟨rfl, HB⟩; have HB3 : Hid (Below w.heap.size w w3) := HB; clear HB)
      go_ret
      exact ⟨rfl, HB3.out⟩
    · rw [if_neg hb]
      have hb1 : (tb == truth) = false := by simpa using hb
      have hb2 : (tb != truth) = true := by simpa using hb
      go_enter Try.func51, Try.ntmps51
      go_wp2_with (go_at_call 59; refine (HC.out _).mono ?_; rintro e w3 ⟨rfl, HB⟩; have HB3 : Hid (Below w.heap.size w w3) := HB; clear HB)
      go_ret
      exact ⟨rfl, HB3.out⟩
  · rw [if_pos hc0]
    have hc1 : ¬ (tc : Int) = 0 := by omega
    go_enter Try.func51, Try.ntmps51
    go_wp2_with (go_at_call 59; refine (HC.out _).mono ?_; rintro e w3 ⟨rfl, HB⟩; have HB3 : Hid (Below w.heap.size w w3) := HB; clear HB)
    go_ret
    exact ⟨rfl, HB3.out⟩
end Go.Proofs.Ytlaiacjlphjmlaa
