/-
  The program's checkTrees, countFits, kindHas, nameFits: contracts.
-/
import Derived.Test.YtlaiacjlphjmlaaDfW
namespace Go.Proofs.Ytlaiacjlphjmlaa
section
open Go.RowKit
set_option linter.unusedVariables false

set_option maxRecDepth 100000 in
set_option maxHeartbeats 800000 in
theorem checkTrees_any (P : Nat → Prop) (ks : List Tr) (truth : Bool) (v : Value) (w : World) (hT : ExsV w P v ks) :
    Calls Try.prog 57 #[v, .bool truth] w fun e w' => e = .returned (.int .i64 (firstBad (typedM truth) ks : Nat)) ∧ Below w.heap.size w w' := by
  obtain ⟨a, cap, rfl, hcap, hlen, hkids⟩ := hT.form
  have HK : Hid (∀ i, i < ks.length → ∃ b o ka kc, KidAt w P a i (ks.getD i zeroT) b o ka kc) := hkids
  clear hkids hT
  go_enter Try.func57, Try.ntmps57
  go_wp2
  go_loopw [11] (fun v wr => ∃ (i : Nat), i ≤ ks.length ∧ v = .int .i64 i ∧ Hid (Below w.heap.size w wr ∧ ∀ j, j < i → typedM truth (ks.getD j zeroT) = 0)) (fun v _ => ks.length - (intOf v).toNat)
  case atStart => exact ⟨0, Nat.zero_le _, rfl, Below.refl _ _, fun j hj => absurd hj (by omega)⟩
  case round =>
    obtain ⟨i, hi, rfl, HR⟩ := hrel
    by_cases hlt : i < ks.length
    · obtain ⟨b, o, ka, kc, hKA⟩ := HK.out i hlt
      have HKA : Hid (KidAt wr P a i (ks.getD i zeroT) b o ka kc) := hKA.below HR.out.1
      obtain ⟨rfl, k0, k1, k2, k3, _⟩ := HKA.out
      have hbl : b < wr.heap.size := World.block_lt_of_cell? wr _ k0
      have HKT : Hid (Tre wr P (.agg #[.int .i64 (ks.getD i zeroT).kind, .int .i64 (ks.getD i zeroT).n, .string (ba (ks.getD i zeroT).name), .slice ka (ks.getD i zeroT).kids.length kc]) (ks.getD i zeroT)) := HKA.out.tre
      clear hKA HKA
      have HC : Hid (∀ w, Tre w P (.agg #[.int .i64 (ks.getD i zeroT).kind, .int .i64 (ks.getD i zeroT).n, .string (ba (ks.getD i zeroT).name), .slice ka (ks.getD i zeroT).kids.length kc]) (ks.getD i zeroT) → Calls Try.prog 72 #[.agg #[.int .i64 (ks.getD i zeroT).kind, .int .i64 (ks.getD i zeroT).n, .string (ba (ks.getD i zeroT).name), .slice ka (ks.getD i zeroT).kids.length kc]] w fun e w' => e = .returned (.tuple #[.bool (truthM (ks.getD i zeroT)).1, .int .i64 (truthM (ks.getD i zeroT)).2]) ∧ Below w.heap.size w w') := fun w h => Truth_any P _ _ _ _ _ _ _ w h
      have HQ : Hid (typedM truth (ks.getD i zeroT) = 0 → ∀ j, j < i + 1 → typedM truth (ks.getD j zeroT) = 0) := fun h1 j hj => by
        rcases Nat.lt_succ_iff_lt_or_eq.1 hj with h | h
        · exact HR.out.2 j h
        · rw [h, h1]
      have HQ2 : Hid (typedM truth (ks.getD i zeroT) ≠ 0 → firstBad (typedM truth) ks = typedM truth (ks.getD i zeroT)) := fun h => firstBad_at _ ks i hlt HR.out.2 h
      have HE : Hid (typedM truth (ks.getD i zeroT) = if (truthM (ks.getD i zeroT)).2 ≠ 0 then (truthM (ks.getD i zeroT)).2 else if (truthM (ks.getD i zeroT)).1 = truth then 0 else 7) := rfl
      generalize typedM truth (ks.getD i zeroT) = ck at *
      generalize (truthM (ks.getD i zeroT)).1 = tb at *
      generalize (truthM (ks.getD i zeroT)).2 = tc at *
      generalize (ks.getD i zeroT).kind = yk at *
      generalize (ks.getD i zeroT).n = yn at *
      generalize ba (ks.getD i zeroT).name = ys at *
      generalize (ks.getD i zeroT).kids.length = yl at *
      generalize ks.getD i zeroT = y at *
      by_cases hc0 : tc = 0
      · subst hc0
        have hE := HE.out
        simp only [ne_eq, not_true_eq_false, if_false] at hE
        by_cases hb : tb = truth
        · rw [if_pos hb] at hE
          have HE0 : Hid (ck = 0) := hE
          subst hb
          clear HE hE
          go_wp2_with (go_at_call 72; refine (HC.out _ (HKT.out.alloc _)).mono ?_; rintro e w3 ⟨rfl, HB⟩; have HB3 : Hid (Below w.heap.size w w3) := (HR.out.1.alloc HR.out.1.size _).trans (HB.mono (by rw [size_alloc]; have := HR.out.1.size; omega)); clear HB)
          go_roundw
          case rel => exact ⟨i + 1, by omega, by go_num, HB3.out, HQ.out HE0.out⟩
          case measure => simp [intOf]; omega
        · rw [if_neg hb] at hE
          have HE0 : Hid (ck = 7) := hE
          have hb1 : (tb == truth) = false := by simpa using hb
          have hb2 : (tb != truth) = true := by simpa using hb
          clear HE hE
          go_wp2_with (go_at_call 72; refine (HC.out _ (HKT.out.alloc _)).mono ?_; rintro e w3 ⟨rfl, HB⟩; have HB3 : Hid (Below w.heap.size w w3) := (HR.out.1.alloc HR.out.1.size _).trans (HB.mono (by rw [size_alloc]; have := HR.out.1.size; omega)); clear HB)
          go_ret
          exact ⟨by rw [HQ2.out (by rw [HE0.out]; decide), HE0.out]; rfl, HB3.out⟩
      · have hE := HE.out
        rw [if_pos hc0] at hE
        have HE0 : Hid (ck = tc) := hE
        have hc1 : ¬ (tc : Int) = 0 := by omega
        clear HE hE
        go_wp2_with (go_at_call 72; refine (HC.out _ (HKT.out.alloc _)).mono ?_; rintro e w3 ⟨rfl, HB⟩; have HB3 : Hid (Below w.heap.size w w3) := (HR.out.1.alloc HR.out.1.size _).trans (HB.mono (by rw [size_alloc]; have := HR.out.1.size; omega)); clear HB)
        go_ret
        exact ⟨by rw [HQ2.out (by rw [HE0.out]; exact hc0), HE0.out]; rfl, HB3.out⟩
    · have he : i = ks.length := by omega
      subst he
      have HE : Hid (firstBad (typedM truth) ks = 0) := firstBad_none _ ks HR.out.2
      have HB3 : Hid (Below w.heap.size w wr) := HR.out.1
      clear HR
      go_wp2
      go_ret
      exact ⟨by rw [HE.out]; rfl, HB3.out⟩
set_option maxRecDepth 100000 in
theorem countFits_any (n : Nat) (xor last : Bool) (w : World) : Calls Try.prog 58 #[.int .i64 n, .bool xor, .bool last] w fun e w' => e = .returned (.bool (countM n xor last)) ∧ w' = w := by
  cases xor with
  | false =>
    have HE : Hid (countM n false last = decide ((n : Int) = 0)) := by show _ = _; unfold countM; rw [if_pos rfl]; exact decide_eq_decide.2 (by omega)
    go_enter Try.func58, Try.ntmps58
    go_wp2
    go_ret
    refine ⟨?_, rfl⟩
    rw [HE.out]; try rfl
    try (congr 2; simp)
  | true =>
    cases last with
    | true =>
      have HE : Hid (countM n true true = decide ((n : Int) ≤ 1)) := by show _ = _; unfold countM; rw [if_neg (by decide), if_pos rfl]; exact decide_eq_decide.2 (by omega)
      go_enter Try.func58, Try.ntmps58
      go_wp2
      go_ret
      refine ⟨?_, rfl⟩
      rw [HE.out]
      try rfl
    | false =>
      have HE : Hid (countM n true false = decide ((n : Int) = 1)) := by show _ = _; unfold countM; rw [if_neg (by decide), if_neg (by decide)]; exact decide_eq_decide.2 (by omega)
      go_enter Try.func58, Try.ntmps58
      go_wp2
      go_ret
      refine ⟨?_, rfl⟩
      rw [HE.out]; try rfl
end
section
open Go.RowKit
set_option linter.unusedVariables false

/-- What kindHas tells. -/
def hasA (k : Int) : Value := .agg #[.bool (namedK k), .int .i64 (triesK k), .int .i64 (argsK k), .int .i64 (leastK k), .int .i64 (mostK k)]
def hasT (k : Int) : Value := .tuple #[hasA k, .bool true]
def hasZ : Value := .agg #[.bool false, .int .i64 0, .int .i64 0, .int .i64 0, .int .i64 0]
set_option maxRecDepth 100000 in
theorem kindHas_1 (w : World) : Calls Try.prog 55 #[.int .i64 1] w fun e w' => e = .returned (.tuple #[hasA 1, .bool true]) ∧ Below w.heap.size w w' := by
  go_enter Try.func55, Try.ntmps55
  go_wp2
  refine bodyPost_ret (v := hasT 1) (by simp [results, Try.results55, go_sem, hasT, hasA, namedK, triesK, argsK, leastK, mostK]) rfl ⟨rfl, by first | exact (Below.refl _ _).alloc (Nat.le_refl _) _ | exact ((((((Below.refl _ _).alloc (Nat.le_refl _) _).setCell (Nat.le_refl _) _).setCell (Nat.le_refl _) _).setCell (Nat.le_refl _) _).setCell (Nat.le_refl _) _).setCell (Nat.le_refl _) _⟩
set_option maxRecDepth 100000 in
theorem kindHas_2 (w : World) : Calls Try.prog 55 #[.int .i64 2] w fun e w' => e = .returned (.tuple #[hasA 2, .bool true]) ∧ Below w.heap.size w w' := by
  go_enter Try.func55, Try.ntmps55
  go_wp2
  refine bodyPost_ret (v := hasT 2) (by simp [results, Try.results55, go_sem, hasT, hasA, namedK, triesK, argsK, leastK, mostK]) rfl ⟨rfl, by first | exact (Below.refl _ _).alloc (Nat.le_refl _) _ | exact ((((((Below.refl _ _).alloc (Nat.le_refl _) _).setCell (Nat.le_refl _) _).setCell (Nat.le_refl _) _).setCell (Nat.le_refl _) _).setCell (Nat.le_refl _) _).setCell (Nat.le_refl _) _⟩
set_option maxRecDepth 100000 in
theorem kindHas_3 (w : World) : Calls Try.prog 55 #[.int .i64 3] w fun e w' => e = .returned (.tuple #[hasA 3, .bool true]) ∧ Below w.heap.size w w' := by
  go_enter Try.func55, Try.ntmps55
  go_wp2
  refine bodyPost_ret (v := hasT 3) (by simp [results, Try.results55, go_sem, hasT, hasA, namedK, triesK, argsK, leastK, mostK]) rfl ⟨rfl, by first | exact (Below.refl _ _).alloc (Nat.le_refl _) _ | exact ((((((Below.refl _ _).alloc (Nat.le_refl _) _).setCell (Nat.le_refl _) _).setCell (Nat.le_refl _) _).setCell (Nat.le_refl _) _).setCell (Nat.le_refl _) _).setCell (Nat.le_refl _) _⟩
set_option maxRecDepth 100000 in
theorem kindHas_4 (w : World) : Calls Try.prog 55 #[.int .i64 4] w fun e w' => e = .returned (.tuple #[hasA 4, .bool true]) ∧ Below w.heap.size w w' := by
  go_enter Try.func55, Try.ntmps55
  go_wp2
  refine bodyPost_ret (v := hasT 4) (by simp [results, Try.results55, go_sem, hasT, hasA, namedK, triesK, argsK, leastK, mostK]) rfl ⟨rfl, by first | exact (Below.refl _ _).alloc (Nat.le_refl _) _ | exact ((((((Below.refl _ _).alloc (Nat.le_refl _) _).setCell (Nat.le_refl _) _).setCell (Nat.le_refl _) _).setCell (Nat.le_refl _) _).setCell (Nat.le_refl _) _).setCell (Nat.le_refl _) _⟩
set_option maxRecDepth 100000 in
theorem kindHas_5 (w : World) : Calls Try.prog 55 #[.int .i64 5] w fun e w' => e = .returned (.tuple #[hasA 5, .bool true]) ∧ Below w.heap.size w w' := by
  go_enter Try.func55, Try.ntmps55
  go_wp2
  refine bodyPost_ret (v := hasT 5) (by simp [results, Try.results55, go_sem, hasT, hasA, namedK, triesK, argsK, leastK, mostK]) rfl ⟨rfl, by first | exact (Below.refl _ _).alloc (Nat.le_refl _) _ | exact ((((((Below.refl _ _).alloc (Nat.le_refl _) _).setCell (Nat.le_refl _) _).setCell (Nat.le_refl _) _).setCell (Nat.le_refl _) _).setCell (Nat.le_refl _) _).setCell (Nat.le_refl _) _⟩
set_option maxRecDepth 100000 in
theorem kindHas_6 (w : World) : Calls Try.prog 55 #[.int .i64 6] w fun e w' => e = .returned (.tuple #[hasA 6, .bool true]) ∧ Below w.heap.size w w' := by
  go_enter Try.func55, Try.ntmps55
  go_wp2
  refine bodyPost_ret (v := hasT 6) (by simp [results, Try.results55, go_sem, hasT, hasA, namedK, triesK, argsK, leastK, mostK]) rfl ⟨rfl, by first | exact (Below.refl _ _).alloc (Nat.le_refl _) _ | exact ((((((Below.refl _ _).alloc (Nat.le_refl _) _).setCell (Nat.le_refl _) _).setCell (Nat.le_refl _) _).setCell (Nat.le_refl _) _).setCell (Nat.le_refl _) _).setCell (Nat.le_refl _) _⟩
set_option maxRecDepth 100000 in
theorem kindHas_7 (w : World) : Calls Try.prog 55 #[.int .i64 7] w fun e w' => e = .returned (.tuple #[hasA 7, .bool true]) ∧ Below w.heap.size w w' := by
  go_enter Try.func55, Try.ntmps55
  go_wp2
  refine bodyPost_ret (v := hasT 7) (by simp [results, Try.results55, go_sem, hasT, hasA, namedK, triesK, argsK, leastK, mostK]) rfl ⟨rfl, by first | exact (Below.refl _ _).alloc (Nat.le_refl _) _ | exact ((((((Below.refl _ _).alloc (Nat.le_refl _) _).setCell (Nat.le_refl _) _).setCell (Nat.le_refl _) _).setCell (Nat.le_refl _) _).setCell (Nat.le_refl _) _).setCell (Nat.le_refl _) _⟩
set_option maxRecDepth 100000 in
theorem kindHas_8 (w : World) : Calls Try.prog 55 #[.int .i64 8] w fun e w' => e = .returned (.tuple #[hasA 8, .bool true]) ∧ Below w.heap.size w w' := by
  go_enter Try.func55, Try.ntmps55
  go_wp2
  refine bodyPost_ret (v := hasT 8) (by simp [results, Try.results55, go_sem, hasT, hasA, namedK, triesK, argsK, leastK, mostK]) rfl ⟨rfl, by first | exact (Below.refl _ _).alloc (Nat.le_refl _) _ | exact ((((((Below.refl _ _).alloc (Nat.le_refl _) _).setCell (Nat.le_refl _) _).setCell (Nat.le_refl _) _).setCell (Nat.le_refl _) _).setCell (Nat.le_refl _) _).setCell (Nat.le_refl _) _⟩
set_option maxRecDepth 100000 in
theorem kindHas_9 (w : World) : Calls Try.prog 55 #[.int .i64 9] w fun e w' => e = .returned (.tuple #[hasA 9, .bool true]) ∧ Below w.heap.size w w' := by
  go_enter Try.func55, Try.ntmps55
  go_wp2
  refine bodyPost_ret (v := hasT 9) (by simp [results, Try.results55, go_sem, hasT, hasA, namedK, triesK, argsK, leastK, mostK]) rfl ⟨rfl, by first | exact (Below.refl _ _).alloc (Nat.le_refl _) _ | exact ((((((Below.refl _ _).alloc (Nat.le_refl _) _).setCell (Nat.le_refl _) _).setCell (Nat.le_refl _) _).setCell (Nat.le_refl _) _).setCell (Nat.le_refl _) _).setCell (Nat.le_refl _) _⟩
set_option maxRecDepth 100000 in
theorem kindHas_no (k : Int) (h : k < 1 ∨ 9 < k) (w : World) : Calls Try.prog 55 #[.int .i64 k] w fun e w' => e = .returned (.tuple #[hasZ, .bool false]) ∧ Below w.heap.size w w' := by
  have n1 : (k == 1) = false := by rw [beq_eq_false_iff_ne]; omega
  have n2 : (k == 2) = false := by rw [beq_eq_false_iff_ne]; omega
  have n3 : (k == 3) = false := by rw [beq_eq_false_iff_ne]; omega
  have n4 : (k == 4) = false := by rw [beq_eq_false_iff_ne]; omega
  have n5 : (k == 5) = false := by rw [beq_eq_false_iff_ne]; omega
  have n6 : (k == 6) = false := by rw [beq_eq_false_iff_ne]; omega
  have n7 : (k == 7) = false := by rw [beq_eq_false_iff_ne]; omega
  have n8 : (k == 8) = false := by rw [beq_eq_false_iff_ne]; omega
  have n9 : (k == 9) = false := by rw [beq_eq_false_iff_ne]; omega
  clear h
  go_enter Try.func55, Try.ntmps55
  go_wp2
  refine bodyPost_ret (v := .tuple #[hasZ, .bool false]) (by simp [results, Try.results55, go_sem, hasZ]) rfl ⟨rfl, by first | exact (Below.refl _ _).alloc (Nat.le_refl _) _ | exact ((((((Below.refl _ _).alloc (Nat.le_refl _) _).setCell (Nat.le_refl _) _).setCell (Nat.le_refl _) _).setCell (Nat.le_refl _) _).setCell (Nat.le_refl _) _).setCell (Nat.le_refl _) _⟩
theorem kindHas_any (k : Int) (h1 : 1 ≤ k) (h9 : k ≤ 9) (w : World) : Calls Try.prog 55 #[.int .i64 k] w fun e w' => e = .returned (.tuple #[hasA k, .bool true]) ∧ Below w.heap.size w w' := by
  have : k = 1 ∨ k = 2 ∨ k = 3 ∨ k = 4 ∨ k = 5 ∨ k = 6 ∨ k = 7 ∨ k = 8 ∨ k = 9 := by omega
  rcases this with rfl | rfl | rfl | rfl | rfl | rfl | rfl | rfl | rfl
  · exact kindHas_1 w
  · exact kindHas_2 w
  · exact kindHas_3 w
  · exact kindHas_4 w
  · exact kindHas_5 w
  · exact kindHas_6 w
  · exact kindHas_7 w
  · exact kindHas_8 w
  · exact kindHas_9 w
/-- What nameFits tells. -/
def nameFitsP (k : Int) (t : Bs) (must : Bool) : Bool := if must = false then decide (t = []) else if k = 9 then decide (checkM 16 ⟨2, 0, t, []⟩ = 0) else nameOk t
theorem check_var (t : Bs) : checkM 16 ⟨2, 0, t, []⟩ = if (nameOk t && decide (t ≠ yesB) && decide (t ≠ noB)) = false then 1 else 0 := by
  have e : fitsM ⟨2, 0, t, []⟩ = (nameOk t && decide (t ≠ yesB) && decide (t ≠ noB)) := by
    unfold fitsM
    rw [if_neg (by simp [kidsK]), if_neg (by simp), if_pos rfl]
  show (if fitsM ⟨2, 0, t, []⟩ = false then 1 else firstBad (checkM 15) []) = _
  rw [e]; rfl
theorem nameFits_eq (k : Int) (t : Bs) : nameFitsP k t (namedK k) = nameFitsM k t := by
  unfold nameFitsP nameFitsM
  cases hn : namedK k with
  | false => simp
  | true =>
    simp only [Bool.true_eq_false, if_false, if_true]
    by_cases h9 : k = 9
    · rw [if_pos h9, check_var]
      cases h : (nameOk t && decide (t ≠ yesB) && decide (t ≠ noB)) with
      | false => rw [if_pos rfl, show (nameOk t && (decide (k ≠ 9) || (decide (t ≠ yesB) && decide (t ≠ noB)))) = (nameOk t && decide (t ≠ yesB) && decide (t ≠ noB)) by simp [h9, Bool.and_assoc], h]; rfl
      | true => rw [if_neg (by decide), show (nameOk t && (decide (k ≠ 9) || (decide (t ≠ yesB) && decide (t ≠ noB)))) = (nameOk t && decide (t ≠ yesB) && decide (t ≠ noB)) by simp [h9, Bool.and_assoc], h]; rfl
    · rw [if_neg h9]; simp [h9]
set_option maxRecDepth 100000 in
theorem nameFits_any (k n : Int) (t : Bs) (must : Bool) (aa : Option Addr) (la ca : Nat) (ao : Option Addr) (lo co : Nat) (w : World) (hs : t.length ≤ 9223372036854775807) :
    Calls Try.prog 56 #[.agg #[.int .i64 k, .string (ba t), .int .i64 n, .slice aa la ca, .slice ao lo co], .bool must] w fun e w' => e = .returned (.bool (nameFitsP k t must)) ∧ Below w.heap.size w w' := by
  have hs' : (ba t).size ≤ 9223372036854775807 := hs
  cases must with
  | false =>
    have HE : Hid (nameFitsP k t false = decide (t = [])) := rfl
    have g8 : (ba t).toList = t := ba_toList t
    have g9 : (t == []) = decide (t = []) := by cases t <;> rfl
    go_enter Try.func56, Try.ntmps56
    go_wp2
    go_ret
    exact ⟨by rw [HE.out]; rfl, (Below.refl _ _).alloc (Nat.le_refl _) _⟩
  | true =>
    by_cases h9 : k = 9
    · subst h9
      have HC : Hid (∀ w, Calls Try.prog 71 #[.agg #[.int .i64 2, .int .i64 0, .string (ba t), .slice none 0 0]] w fun e w' => e = .returned (.int .i64 (checkM 16 ⟨2, 0, t, []⟩)) ∧ Below w.heap.size w w') := fun w => Check_any (fun _ => True) ⟨2, 0, t, []⟩ _ _ _ _ _ _ w (Tre.leaf w _ ⟨by decide, by decide⟩ inR_zero t hs)
      have HE : Hid (nameFitsP 9 t true = decide (((checkM 16 ⟨2, 0, t, []⟩ : Nat) : Int) = 0)) := by
        show _ = _
        unfold nameFitsP; rw [if_neg (by decide), if_pos rfl]
        exact decide_eq_decide.2 (by omega)
      rw [HE.out]
      generalize checkM 16 ⟨2, 0, t, []⟩ = ck at *
      generalize ba t = s at *
      go_enter Try.func56, Try.ntmps56
      go_wp2_with (go_at_call 71; refine (HC.out _).mono ?_; rintro e w3 ⟨rfl, HB⟩)
      go_ret
      exact ⟨by first | rfl | (congr 2; simp), below_new HB⟩
    · have h9' : (k == 9) = false := by simpa using h9
      have HN : Hid (∀ w, Calls Try.prog 29 #[.string (ba t)] w fun e w' => e = .returned (.bool (nameOk t)) ∧ w' = w) := fun w => by rw [← nm_ok]; exact name_any (ba t) w hs
      have HE : Hid (nameFitsP k t true = nameOk t) := by show _ = _; unfold nameFitsP; rw [if_neg (by decide), if_neg h9]
      rw [HE.out]
      generalize nameOk t = ck at *
      generalize ba t = s at *
      go_enter Try.func56, Try.ntmps56
      go_wp2_with (go_at_call 29; refine (HN.out _).mono ?_; rintro e w3 ⟨rfl, h3⟩; have h4 := h3.symm; clear h3; subst h4)
      go_ret
      exact ⟨rfl, (Below.refl _ _).alloc (Nat.le_refl _) _⟩
end
end Go.Proofs.Ytlaiacjlphjmlaa
