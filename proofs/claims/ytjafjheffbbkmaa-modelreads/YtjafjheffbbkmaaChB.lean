/-
  The program's kindHas, nameFits, checkFields, checkFlow, checkPlace, Check: contracts.
-/
import Derived.Test.YtjafjheffbbkmaaChA
namespace Go.Proofs.Ytjafjheffbbkmaa
open Go.RowKit
set_option linter.unusedVariables false

/-- What kindHas tells. -/
def hasA (k : Int) : Value := .agg #[.bool (namedK k), .int .i64 (triesK k), .int .i64 (argsK k), .int .i64 (leastK k), .int .i64 (mostK k)]
def hasT (k : Int) : Value := .tuple #[hasA k, .bool true]
def hasZ : Value := .agg #[.bool false, .int .i64 0, .int .i64 0, .int .i64 0, .int .i64 0]
set_option maxRecDepth 100000 in
theorem kindHas_1 (w : World) : Calls Try.prog 86 #[.int .i64 1] w fun e w' => e = .returned (.tuple #[hasA 1, .bool true]) ∧ Below w.heap.size w w' := by
  go_enter Try.func86, Try.ntmps86
  go_wp2
  refine bodyPost_ret (v := hasT 1) (by simp [results, Try.results86, go_sem, hasT, hasA, namedK, triesK, argsK, leastK, mostK]) rfl ⟨rfl, by first | exact (Below.refl _ _).alloc (Nat.le_refl _) _ | exact ((((((Below.refl _ _).alloc (Nat.le_refl _) _).setCell (Nat.le_refl _) _).setCell (Nat.le_refl _) _).setCell (Nat.le_refl _) _).setCell (Nat.le_refl _) _).setCell (Nat.le_refl _) _⟩
set_option maxRecDepth 100000 in
theorem kindHas_2 (w : World) : Calls Try.prog 86 #[.int .i64 2] w fun e w' => e = .returned (.tuple #[hasA 2, .bool true]) ∧ Below w.heap.size w w' := by
  go_enter Try.func86, Try.ntmps86
  go_wp2
  refine bodyPost_ret (v := hasT 2) (by simp [results, Try.results86, go_sem, hasT, hasA, namedK, triesK, argsK, leastK, mostK]) rfl ⟨rfl, by first | exact (Below.refl _ _).alloc (Nat.le_refl _) _ | exact ((((((Below.refl _ _).alloc (Nat.le_refl _) _).setCell (Nat.le_refl _) _).setCell (Nat.le_refl _) _).setCell (Nat.le_refl _) _).setCell (Nat.le_refl _) _).setCell (Nat.le_refl _) _⟩
set_option maxRecDepth 100000 in
theorem kindHas_3 (w : World) : Calls Try.prog 86 #[.int .i64 3] w fun e w' => e = .returned (.tuple #[hasA 3, .bool true]) ∧ Below w.heap.size w w' := by
  go_enter Try.func86, Try.ntmps86
  go_wp2
  refine bodyPost_ret (v := hasT 3) (by simp [results, Try.results86, go_sem, hasT, hasA, namedK, triesK, argsK, leastK, mostK]) rfl ⟨rfl, by first | exact (Below.refl _ _).alloc (Nat.le_refl _) _ | exact ((((((Below.refl _ _).alloc (Nat.le_refl _) _).setCell (Nat.le_refl _) _).setCell (Nat.le_refl _) _).setCell (Nat.le_refl _) _).setCell (Nat.le_refl _) _).setCell (Nat.le_refl _) _⟩
set_option maxRecDepth 100000 in
theorem kindHas_4 (w : World) : Calls Try.prog 86 #[.int .i64 4] w fun e w' => e = .returned (.tuple #[hasA 4, .bool true]) ∧ Below w.heap.size w w' := by
  go_enter Try.func86, Try.ntmps86
  go_wp2
  refine bodyPost_ret (v := hasT 4) (by simp [results, Try.results86, go_sem, hasT, hasA, namedK, triesK, argsK, leastK, mostK]) rfl ⟨rfl, by first | exact (Below.refl _ _).alloc (Nat.le_refl _) _ | exact ((((((Below.refl _ _).alloc (Nat.le_refl _) _).setCell (Nat.le_refl _) _).setCell (Nat.le_refl _) _).setCell (Nat.le_refl _) _).setCell (Nat.le_refl _) _).setCell (Nat.le_refl _) _⟩
set_option maxRecDepth 100000 in
theorem kindHas_5 (w : World) : Calls Try.prog 86 #[.int .i64 5] w fun e w' => e = .returned (.tuple #[hasA 5, .bool true]) ∧ Below w.heap.size w w' := by
  go_enter Try.func86, Try.ntmps86
  go_wp2
  refine bodyPost_ret (v := hasT 5) (by simp [results, Try.results86, go_sem, hasT, hasA, namedK, triesK, argsK, leastK, mostK]) rfl ⟨rfl, by first | exact (Below.refl _ _).alloc (Nat.le_refl _) _ | exact ((((((Below.refl _ _).alloc (Nat.le_refl _) _).setCell (Nat.le_refl _) _).setCell (Nat.le_refl _) _).setCell (Nat.le_refl _) _).setCell (Nat.le_refl _) _).setCell (Nat.le_refl _) _⟩
set_option maxRecDepth 100000 in
theorem kindHas_6 (w : World) : Calls Try.prog 86 #[.int .i64 6] w fun e w' => e = .returned (.tuple #[hasA 6, .bool true]) ∧ Below w.heap.size w w' := by
  go_enter Try.func86, Try.ntmps86
  go_wp2
  refine bodyPost_ret (v := hasT 6) (by simp [results, Try.results86, go_sem, hasT, hasA, namedK, triesK, argsK, leastK, mostK]) rfl ⟨rfl, by first | exact (Below.refl _ _).alloc (Nat.le_refl _) _ | exact ((((((Below.refl _ _).alloc (Nat.le_refl _) _).setCell (Nat.le_refl _) _).setCell (Nat.le_refl _) _).setCell (Nat.le_refl _) _).setCell (Nat.le_refl _) _).setCell (Nat.le_refl _) _⟩
set_option maxRecDepth 100000 in
theorem kindHas_7 (w : World) : Calls Try.prog 86 #[.int .i64 7] w fun e w' => e = .returned (.tuple #[hasA 7, .bool true]) ∧ Below w.heap.size w w' := by
  go_enter Try.func86, Try.ntmps86
  go_wp2
  refine bodyPost_ret (v := hasT 7) (by simp [results, Try.results86, go_sem, hasT, hasA, namedK, triesK, argsK, leastK, mostK]) rfl ⟨rfl, by first | exact (Below.refl _ _).alloc (Nat.le_refl _) _ | exact ((((((Below.refl _ _).alloc (Nat.le_refl _) _).setCell (Nat.le_refl _) _).setCell (Nat.le_refl _) _).setCell (Nat.le_refl _) _).setCell (Nat.le_refl _) _).setCell (Nat.le_refl _) _⟩
set_option maxRecDepth 100000 in
theorem kindHas_8 (w : World) : Calls Try.prog 86 #[.int .i64 8] w fun e w' => e = .returned (.tuple #[hasA 8, .bool true]) ∧ Below w.heap.size w w' := by
  go_enter Try.func86, Try.ntmps86
  go_wp2
  refine bodyPost_ret (v := hasT 8) (by simp [results, Try.results86, go_sem, hasT, hasA, namedK, triesK, argsK, leastK, mostK]) rfl ⟨rfl, by first | exact (Below.refl _ _).alloc (Nat.le_refl _) _ | exact ((((((Below.refl _ _).alloc (Nat.le_refl _) _).setCell (Nat.le_refl _) _).setCell (Nat.le_refl _) _).setCell (Nat.le_refl _) _).setCell (Nat.le_refl _) _).setCell (Nat.le_refl _) _⟩
set_option maxRecDepth 100000 in
theorem kindHas_9 (w : World) : Calls Try.prog 86 #[.int .i64 9] w fun e w' => e = .returned (.tuple #[hasA 9, .bool true]) ∧ Below w.heap.size w w' := by
  go_enter Try.func86, Try.ntmps86
  go_wp2
  refine bodyPost_ret (v := hasT 9) (by simp [results, Try.results86, go_sem, hasT, hasA, namedK, triesK, argsK, leastK, mostK]) rfl ⟨rfl, by first | exact (Below.refl _ _).alloc (Nat.le_refl _) _ | exact ((((((Below.refl _ _).alloc (Nat.le_refl _) _).setCell (Nat.le_refl _) _).setCell (Nat.le_refl _) _).setCell (Nat.le_refl _) _).setCell (Nat.le_refl _) _).setCell (Nat.le_refl _) _⟩
set_option maxRecDepth 100000 in
theorem kindHas_no (k : Int) (h : k < 1 ∨ 9 < k) (w : World) : Calls Try.prog 86 #[.int .i64 k] w fun e w' => e = .returned (.tuple #[hasZ, .bool false]) ∧ Below w.heap.size w w' := by
  have n1 : (k == 1) = false := by rw [beq_eq_false_iff_ne]; omega
  have n2 : (k == 2) = false := by rw [beq_eq_false_iff_ne]; omega
  have n3 : (k == 3) = false := by rw [beq_eq_false_iff_ne]; omega
  have n4 : (k == 4) = false := by rw [beq_eq_false_iff_ne]; omega
  have n5 : (k == 5) = false := by rw [beq_eq_false_iff_ne]; omega
  have n6 : (k == 6) = false := by rw [beq_eq_false_iff_ne]; omega
  have n7 : (k == 7) = false := by rw [beq_eq_false_iff_ne]; omega
  have n8 : (k == 8) = false := by rw [beq_eq_false_iff_ne]; omega
  have n9 : (k == 9) = false := by rw [beq_eq_false_iff_ne]; omega
  clear h
  go_enter Try.func86, Try.ntmps86
  go_wp2
  refine bodyPost_ret (v := .tuple #[hasZ, .bool false]) (by simp [results, Try.results86, go_sem, hasZ]) rfl ⟨rfl, by first | exact (Below.refl _ _).alloc (Nat.le_refl _) _ | exact ((((((Below.refl _ _).alloc (Nat.le_refl _) _).setCell (Nat.le_refl _) _).setCell (Nat.le_refl _) _).setCell (Nat.le_refl _) _).setCell (Nat.le_refl _) _).setCell (Nat.le_refl _) _⟩
theorem kindHas_any (k : Int) (h1 : 1 ≤ k) (h9 : k ≤ 9) (w : World) : Calls Try.prog 86 #[.int .i64 k] w fun e w' => e = .returned (.tuple #[hasA k, .bool true]) ∧ Below w.heap.size w w' := by
  have : k = 1 ∨ k = 2 ∨ k = 3 ∨ k = 4 ∨ k = 5 ∨ k = 6 ∨ k = 7 ∨ k = 8 ∨ k = 9 := by omega
  rcases this with rfl | rfl | rfl | rfl | rfl | rfl | rfl | rfl | rfl
  · exact kindHas_1 w
  · exact kindHas_2 w
  · exact kindHas_3 w
  · exact kindHas_4 w
  · exact kindHas_5 w
  · exact kindHas_6 w
  · exact kindHas_7 w
  · exact kindHas_8 w
  · exact kindHas_9 w
/-- What nameFits tells. -/
def nameFitsP (k : Int) (t : Bs) (must : Bool) : Bool := if must = false then decide (t = []) else if k = 9 then decide (checkM 16 ⟨2, 0, t, []⟩ = 0) else nameOk t
theorem check_var (t : Bs) : checkM 16 ⟨2, 0, t, []⟩ = if (nameOk t && decide (t ≠ yesB) && decide (t ≠ noB)) = false then 1 else 0 := by
  have e : fitsM ⟨2, 0, t, []⟩ = (nameOk t && decide (t ≠ yesB) && decide (t ≠ noB)) := by
    unfold fitsM
    rw [if_neg (by simp [kidsK]), if_neg (by simp), if_pos rfl]
  show (if fitsM ⟨2, 0, t, []⟩ = false then 1 else firstBad (checkM 15) []) = _
  rw [e]; rfl
theorem nameFits_eq (k : Int) (t : Bs) : nameFitsP k t (namedK k) = nameFitsM k t := by
  unfold nameFitsP nameFitsM
  cases hn : namedK k with
  | false => simp
  | true =>
    simp only [Bool.true_eq_false, if_false, if_true]
    by_cases h9 : k = 9
    · rw [if_pos h9, check_var]
      cases h : (nameOk t && decide (t ≠ yesB) && decide (t ≠ noB)) with
      | false => rw [if_pos rfl, show (nameOk t && (decide (k ≠ 9) || (decide (t ≠ yesB) && decide (t ≠ noB)))) = (nameOk t && decide (t ≠ yesB) && decide (t ≠ noB)) by simp [h9, Bool.and_assoc], h]; rfl
      | true => rw [if_neg (by decide), show (nameOk t && (decide (k ≠ 9) || (decide (t ≠ yesB) && decide (t ≠ noB)))) = (nameOk t && decide (t ≠ yesB) && decide (t ≠ noB)) by simp [h9, Bool.and_assoc], h]; rfl
    · rw [if_neg h9]; simp [h9]
set_option maxRecDepth 100000 in
theorem nameFits_any (k n : Int) (t : Bs) (must : Bool) (aa : Option Addr) (la ca : Nat) (ao : Option Addr) (lo co : Nat) (w : World) (hs : t.length ≤ 9223372036854775807) :
    Calls Try.prog 87 #[.agg #[.int .i64 k, .string (ba t), .int .i64 n, .slice aa la ca, .slice ao lo co], .bool must] w fun e w' => e = .returned (.bool (nameFitsP k t must)) ∧ Below w.heap.size w w' := by
  have hs' : (ba t).size ≤ 9223372036854775807 := hs
  cases must with
  | false =>
    have HE : Hid (nameFitsP k t false = decide (t = [])) := rfl
    have g8 : (ba t).toList = t := ba_toList t
    have g9 : (t == []) = decide (t = []) := by cases t <;> rfl
    go_enter Try.func87, Try.ntmps87
    go_wp2
    go_ret
    exact ⟨by rw [HE.out]; rfl, (Below.refl _ _).alloc (Nat.le_refl _) _⟩
  | true =>
    by_cases h9 : k = 9
    · subst h9
      have HC : Hid (∀ w, Calls Try.prog 39 #[.agg #[.int .i64 2, .int .i64 0, .string (ba t), .slice none 0 0]] w fun e w' => e = .returned (.int .i64 (checkM 16 ⟨2, 0, t, []⟩)) ∧ Below w.heap.size w w') := fun w => Check_any (fun _ => True) ⟨2, 0, t, []⟩ _ _ _ _ _ _ w (Tre.leaf w _ ⟨by decide, by decide⟩ inR_zero t hs)
      have HE : Hid (nameFitsP 9 t true = decide (((checkM 16 ⟨2, 0, t, []⟩ : Nat) : Int) = 0)) := by
        show _ = _
        unfold nameFitsP; rw [if_neg (by decide), if_pos rfl]
        exact decide_eq_decide.2 (by omega)
      rw [HE.out]
      generalize checkM 16 ⟨2, 0, t, []⟩ = ck at *
      generalize ba t = s at *
      go_enter Try.func87, Try.ntmps87
      go_wp2_with (go_at_call 39; refine (HC.out _).mono ?_; rintro e w3 ⟨rfl, HB⟩)
      go_ret
      exact ⟨by first | rfl | (congr 2; simp), below_new HB⟩
    · have h9' : (k == 9) = false := by simpa using h9
      have HN : Hid (∀ w, Calls Try.prog 29 #[.string (ba t)] w fun e w' => e = .returned (.bool (nameOk t)) ∧ w' = w) := fun w => by rw [← nm_ok]; exact name_any (ba t) w hs
      have HE : Hid (nameFitsP k t true = nameOk t) := by show _ = _; unfold nameFitsP; rw [if_neg (by decide), if_neg h9]
      rw [HE.out]
      generalize nameOk t = ck at *
      generalize ba t = s at *
      go_enter Try.func87, Try.ntmps87
      go_wp2_with (go_at_call 29; refine (HN.out _).mono ?_; rintro e w3 ⟨rfl, h3⟩; have h4 := h3.symm; clear h3; subst h4)
      go_ret
      exact ⟨rfl, (Below.refl _ _).alloc (Nat.le_refl _) _⟩
end Go.Proofs.Ytjafjheffbbkmaa
