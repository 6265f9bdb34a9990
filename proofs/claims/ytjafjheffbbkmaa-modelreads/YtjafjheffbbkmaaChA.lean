/-
  The program's checkTrees, countFits, kindHas, nameFits: contracts.
-/
import Derived.Test.YtjafjheffbbkmaaDfW
namespace Go.Proofs.Ytjafjheffbbkmaa
open Go.RowKit
set_option linter.unusedVariables false

set_option maxRecDepth 100000 in
set_option maxHeartbeats 800000 in
theorem checkTrees_any (P : Nat → Prop) (ks : List Tr) (truth : Bool) (v : Value) (w : World) (hT : ExsV w P v ks) :
    Calls Try.prog 88 #[v, .bool truth] w fun e w' => e = .returned (.int .i64 (firstBad (typedM truth) ks : Nat)) ∧ Below w.heap.size w w' := by
  obtain ⟨a, cap, rfl, hcap, hlen, hkids⟩ := hT.form
  have HK : Hid (∀ i, i < ks.length → ∃ b o ka kc, KidAt w P a i (ks.getD i zeroT) b o ka kc) := hkids
  clear hkids hT
  go_enter Try.func88, Try.ntmps88
  go_wp2
  go_loopw [11] (fun v wr => ∃ (i : Nat), i ≤ ks.length ∧ v = .int .i64 i ∧ Hid (Below w.heap.size w wr ∧ ∀ j, j < i → typedM truth (ks.getD j zeroT) = 0)) (fun v _ => ks.length - (intOf v).toNat)
  case atStart => exact ⟨0, Nat.zero_le _, rfl, Below.refl _ _, fun j hj => absurd hj (by omega)⟩
  case round =>
    obtain ⟨i, hi, rfl, HR⟩ := hrel
    by_cases hlt : i < ks.length
    · obtain ⟨b, o, ka, kc, hKA⟩ := HK.out i hlt
      have HKA : Hid (KidAt wr P a i (ks.getD i zeroT) b o ka kc) := hKA.below HR.out.1
      obtain ⟨rfl, k0, k1, k2, k3, _⟩ := HKA.out
      have hbl : b < wr.heap.size := World.block_lt_of_cell? wr _ k0
      have HKT : Hid (Tre wr P (.agg #[.int .i64 (ks.getD i zeroT).kind, .int .i64 (ks.getD i zeroT).n, .string (ba (ks.getD i zeroT).name), .slice ka (ks.getD i zeroT).kids.length kc]) (ks.getD i zeroT)) := HKA.out.tre
      clear hKA HKA
      have HC : Hid (∀ w, Tre w P (.agg #[.int .i64 (ks.getD i zeroT).kind, .int .i64 (ks.getD i zeroT).n, .string (ba (ks.getD i zeroT).name), .slice ka (ks.getD i zeroT).kids.length kc]) (ks.getD i zeroT) → Calls Try.prog 103 #[.agg #[.int .i64 (ks.getD i zeroT).kind, .int .i64 (ks.getD i zeroT).n, .string (ba (ks.getD i zeroT).name), .slice ka (ks.getD i zeroT).kids.length kc]] w fun e w' => e = .returned (.tuple #[.bool (truthM (ks.getD i zeroT)).1, .int .i64 (truthM (ks.getD i zeroT)).2]) ∧ Below w.heap.size w w') := fun w h => Truth_any P _ _ _ _ _ _ _ w h
      have HQ : Hid (typedM truth (ks.getD i zeroT) = 0 → ∀ j, j < i + 1 → typedM truth (ks.getD j zeroT) = 0) := fun h1 j hj => by
        rcases Nat.lt_succ_iff_lt_or_eq.1 hj with h | h
        · exact HR.out.2 j h
        · rw [h, h1]
      have HQ2 : Hid (typedM truth (ks.getD i zeroT) ≠ 0 → firstBad (typedM truth) ks = typedM truth (ks.getD i zeroT)) := fun h => firstBad_at _ ks i hlt HR.out.2 h
      have HE : Hid (typedM truth (ks.getD i zeroT) = if (truthM (ks.getD i zeroT)).2 ≠ 0 then (truthM (ks.getD i zeroT)).2 else if (truthM (ks.getD i zeroT)).1 = truth then 0 else 7) := rfl
      generalize typedM truth (ks.getD i zeroT) = ck at *
      generalize (truthM (ks.getD i zeroT)).1 = tb at *
      generalize (truthM (ks.getD i zeroT)).2 = tc at *
      generalize (ks.getD i zeroT).kind = yk at *
      generalize (ks.getD i zeroT).n = yn at *
      generalize ba (ks.getD i zeroT).name = ys at *
      generalize (ks.getD i zeroT).kids.length = yl at *
      generalize ks.getD i zeroT = y at *
      by_cases hc0 : tc = 0
      · subst hc0
        have hE := HE.out
        simp only [ne_eq, not_true_eq_false, if_false] at hE
        by_cases hb : tb = truth
        · rw [if_pos hb] at hE
          have HE0 : Hid (ck = 0) := hE
          subst hb
          clear HE hE
          go_wp2_with (go_at_call 103; refine (HC.out _ (HKT.out.alloc _)).mono ?_; rintro e w3 ⟨rfl, HB⟩; have HB3 : Hid (Below w.heap.size w w3) := (HR.out.1.alloc HR.out.1.size _).trans (HB.mono (by rw [size_alloc]; have := HR.out.1.size; omega)); clear HB)
          go_roundw
          case rel => exact ⟨i + 1, by omega, by go_num, HB3.out, HQ.out HE0.out⟩
          case measure => simp [intOf]; omega
        · rw [if_neg hb] at hE
          have HE0 : Hid (ck = 7) := hE
          have hb1 : (tb == truth) = false := by simpa using hb
          have hb2 : (tb != truth) = true := by simpa using hb
          clear HE hE
          go_wp2_with (go_at_call 103; refine (HC.out _ (HKT.out.alloc _)).mono ?_; rintro e w3 ⟨rfl, HB⟩; have HB3 : Hid (Below w.heap.size w w3) := (HR.out.1.alloc HR.out.1.size _).trans (HB.mono (by rw [size_alloc]; have := HR.out.1.size; omega)); clear HB)
          go_ret
          exact ⟨by rw [HQ2.out (by rw [HE0.out]; decide), HE0.out]; rfl, HB3.out⟩
      · have hE := HE.out
        rw [if_pos hc0] at hE
        have HE0 : Hid (ck = tc) := hE
        have hc1 : ¬ (tc : Int) = 0 := by omega
        clear HE hE
        go_wp2_with (go_at_call 103; refine (HC.out _ (HKT.out.alloc _)).mono ?_; rintro e w3 ⟨rfl, HB⟩; have HB3 : Hid (Below w.heap.size w w3) := (HR.out.1.alloc HR.out.1.size _).trans (HB.mono (by rw [size_alloc]; have := HR.out.1.size; omega)); clear HB)
        go_ret
        exact ⟨by rw [HQ2.out (by rw [HE0.out]; exact hc0), HE0.out]; rfl, HB3.out⟩
    · have he : i = ks.length := by omega
      subst he
      have HE : Hid (firstBad (typedM truth) ks = 0) := firstBad_none _ ks HR.out.2
      have HB3 : Hid (Below w.heap.size w wr) := HR.out.1
      clear HR
      go_wp2
      go_ret
      exact ⟨by rw [HE.out]; rfl, HB3.out⟩
set_option maxRecDepth 100000 in
theorem countFits_any (n : Nat) (xor last : Bool) (w : World) : Calls Try.prog 89 #[.int .i64 n, .bool xor, .bool last] w fun e w' => e = .returned (.bool (countM n xor last)) ∧ w' = w := by
  cases xor with
  | false =>
    have HE : Hid (countM n false last = decide ((n : Int) = 0)) := by show _ = _; unfold countM; rw [if_pos rfl]; exact decide_eq_decide.2 (by omega)
    go_enter Try.func89, Try.ntmps89
    go_wp2
    go_ret
    refine ⟨?_, rfl⟩
    rw [HE.out]; try rfl
    try (congr 2; simp)
  | true =>
    cases last with
    | true =>
      have HE : Hid (countM n true true = decide ((n : Int) ≤ 1)) := by show _ = _; unfold countM; rw [if_neg (by decide), if_pos rfl]; exact decide_eq_decide.2 (by omega)
      go_enter Try.func89, Try.ntmps89
      go_wp2
      go_ret
      refine ⟨?_, rfl⟩
      rw [HE.out]
      try rfl
    | false =>
      have HE : Hid (countM n true false = decide ((n : Int) = 1)) := by show _ = _; unfold countM; rw [if_neg (by decide), if_neg (by decide)]; exact decide_eq_decide.2 (by omega)
      go_enter Try.func89, Try.ntmps89
      go_wp2
      go_ret
      refine ⟨?_, rfl⟩
      rw [HE.out]; try rfl
end Go.Proofs.Ytjafjheffbbkmaa
