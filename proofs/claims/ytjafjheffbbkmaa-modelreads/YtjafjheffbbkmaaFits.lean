/-
  May a node be: contracts.
-/
import Derived.Test.YtjafjheffbbkmaaMem
import Derived.Test.YtjafjheffbbkmaaNames
import Derived.Test.YtjafjheffbbkmaaSigns
import Derived.Deep.QuietTactic
import Derived.BigQuiet
namespace Go.Proofs.Ytjafjheffbbkmaa
open Go.RowKit
set_option linter.unusedVariables false



theorem lt_letter (t : Bs) (k : Nat) (h : k < t.length) : lt (ba t) k = letter t[k] := by
  unfold lt letter
  rw [sb_at (s := ba t) h]
  have e : (ba t)[k]'h = t[k] := rfl
  rw [e, ← Bool.decide_and]
  apply decide_eq_decide.2
  omega
theorem dg_digit (t : Bs) (k : Nat) (h : k < t.length) : dg (ba t) k = digit t[k] := by
  unfold dg digit
  rw [sb_at (s := ba t) h]
  have e : (ba t)[k]'h = t[k] := rfl
  rw [e, ← Bool.decide_and]
  apply decide_eq_decide.2
  omega
theorem nm_ok (t : Bs) : nm (ba t) = nameOk t := by
  rw [Bool.eq_iff_iff, nm_iff]
  cases t with
  | nil => constructor
           · rintro ⟨h, _⟩; exact absurd h (by decide)
           · intro h; cases h
  | cons c r =>
    show Nm (ba (c :: r)) ↔ (letter c && (c :: r).all (fun x => digit x || letter x) && decide ((c :: r).length ≤ 32)) = true
    constructor
    · rintro ⟨h1, h2, h3, h4⟩
      rw [lt_letter (c :: r) 0 (by simp)] at h3
      simp only [Bool.and_eq_true, decide_eq_true_eq]
      refine ⟨⟨h3, ?_⟩, h2⟩
      rw [List.all_eq_true]
      intro x hx
      obtain ⟨j, hj, rfl⟩ := List.mem_iff_getElem.1 hx
      have := h4 j hj
      rw [lt_letter _ j hj, dg_digit _ j hj] at this
      rcases this with h | h <;> simp [h]
    · intro h
      simp only [Bool.and_eq_true, decide_eq_true_eq] at h
      obtain ⟨⟨h3, h4⟩, h2⟩ := h
      refine ⟨by show 0 < (c :: r).length; simp, h2, ?_, fun j hj => ?_⟩
      · rw [lt_letter (c :: r) 0 (by simp)]; exact h3
      · have hj' : j < (c :: r).length := hj
        rw [lt_letter _ j hj', dg_digit _ j hj']
        have := List.all_eq_true.1 h4 _ (List.getElem_mem hj')
        simp only [Bool.or_eq_true] at this
        exact this.symm
def fitsB (k n : Int) (t : Bs) (l : Nat) : Bool :=
  if k < 1 ∨ 14 < k ∨ l ≠ kidsK k then false
  else if n < 0 ∨ n ≠ 0 ∧ k ≠ 1 then false
  else if k = 2 then nameOk t && decide (t ≠ yesB) && decide (t ≠ noB)
  else decide (t = [])
set_option maxRecDepth 100000 in
theorem kids_any (k : Int) (w : World) : Calls Try.prog 106 #[.int .i64 k] w fun e w' => e = .returned (.int .i64 (kidsK k)) ∧ w' = w := by
  go_enter Try.func106, Try.ntmps106
  go_wp2
  all_goals (go_ret; refine ⟨?_, rfl⟩; congr 3; unfold kidsK; first | (rw [if_pos (by omega)]; rfl) | (rw [if_neg (by omega), if_pos (by omega)]; rfl) | (rw [if_neg (by omega), if_neg (by omega)]; rfl))
theorem below_drewN {B : Nat} {w w' : World} (h : Below B w w') : ∀ n, Below B w (w'.drewN n)
  | 0 => h
  | n + 1 => Below.drew (below_drewN h n)
set_option maxRecDepth 100000 in
set_option maxHeartbeats 800000 in
theorem fits_any (k n : Int) (t : Bs) (a : Option Addr) (l c : Nat) (w : World) (hs : t.length ≤ 9223372036854775807) (hl : l ≤ 9223372036854775807) (hk : InR k) (hn : InR n) :
    Calls Try.prog 96 #[.agg #[.int .i64 k, .int .i64 n, .string (ba t), .slice a l c]] w fun e w' => e = .returned (.bool (fitsB k n t l)) ∧ Below w.heap.size w w' := by
  have HK : Hid (∀ w, Calls Try.prog 106 #[.int .i64 k] w fun e w' => e = .returned (.int .i64 (kidsK k)) ∧ w' = w) := fun w => kids_any k w
  have HN : Hid (∀ w, Calls Try.prog 29 #[.string (ba t)] w fun e w' => e = .returned (.bool (nameOk t)) ∧ w' = w) := fun w => by rw [← nm_ok]; exact name_any (ba t) w hs
  by_cases h1 : k < 1
  · have HE : Hid (fitsB k n t l = false) := if_pos (.inl h1)
    rw [HE.out]
    have g1 : decide (k < 1) = true := decide_eq_true h1
    go_enter Try.func96, Try.ntmps96
    go_wp2
    go_quiet (fail)
    go_wp2
    go_ret
    exact ⟨rfl, below_drewN ((Below.refl _ _).alloc (Nat.le_refl _) _) _⟩
  by_cases h2 : 14 < k
  · have HE : Hid (fitsB k n t l = false) := if_pos (.inr (.inl h2))
    rw [HE.out]
    have g1 : decide (k < 1) = false := decide_eq_false h1
    have g2 : decide (14 < k) = true := decide_eq_true h2
    go_enter Try.func96, Try.ntmps96
    go_wp2
    go_quiet (fail)
    go_wp2
    go_ret
    exact ⟨rfl, below_drewN ((Below.refl _ _).alloc (Nat.le_refl _) _) _⟩
  have g1 : decide (k < 1) = false := decide_eq_false h1
  have g2 : decide (14 < k) = false := decide_eq_false h2
  by_cases h3 : l ≠ kidsK k
  · have HE : Hid (fitsB k n t l = false) := if_pos (.inr (.inr h3))
    rw [HE.out]
    generalize kidsK k = kk at *
    have g3 : ((l : Int) == (kk : Int)) = false := by simp; omega
    go_enter Try.func96, Try.ntmps96
    go_wp2
    go_quiet (first | (go_at_call 106; exact Calls.quiet_of_same (HK.out _)))
    go_wp2
    go_ret
    exact ⟨rfl, below_drewN ((Below.refl _ _).alloc (Nat.le_refl _) _) _⟩
  have h3' : l = kidsK k := by omega
  have HE : Hid (fitsB k n t l = if n < 0 ∨ n ≠ 0 ∧ k ≠ 1 then false else if k = 2 then nameOk t && decide (t ≠ yesB) && decide (t ≠ noB) else decide (t = [])) := if_neg (by rintro (h | h | h); exact h1 h; exact h2 h; exact h3 h)
  rw [HE.out]
  rw [← h3'] at HK
  clear HE h3 h3'
  by_cases h4 : n < 0
  · rw [if_pos (.inl h4)]
    have g4 : decide (n < 0) = true := decide_eq_true h4
    go_enter Try.func96, Try.ntmps96
    go_wp2
    go_quiet (first | (go_at_call 106; exact Calls.quiet_of_same (HK.out _)))
    go_wp2
    go_ret
    exact ⟨rfl, below_drewN ((Below.refl _ _).alloc (Nat.le_refl _) _) _⟩
  have g4 : decide (n < 0) = false := decide_eq_false h4
  by_cases h5 : n ≠ 0 ∧ k ≠ 1
  · rw [if_pos (.inr h5)]
    have g5 : (n != 0) = true := by simp; exact h5.1
    have g6 : (k != 1) = true := by simp; exact h5.2
    go_enter Try.func96, Try.ntmps96
    go_wp2
    go_quiet (first | (go_at_call 106; exact Calls.quiet_of_same (HK.out _)))
    go_wp2_with (go_at_call 29; refine (HN.out _).mono ?_; rintro e w4 ⟨rfl, h4⟩; have h5 := h4.symm; clear h4; subst h5)
    go_ret
    exact ⟨rfl, below_drewN ((Below.refl _ _).alloc (Nat.le_refl _) _) _⟩
  rw [if_neg (by rintro (h | h); exact h4 h; exact h5 h)]
  have g5 : (n == 0) = true ∨ ((n == 0) = false ∧ (k == 1) = true) := by
    by_cases h : n = 0
    · exact .inl (by simp [h])
    · exact .inr ⟨by simp [h], by simp; exact Classical.byContradiction fun h6 => h5 ⟨h, h6⟩⟩
  by_cases h6 : k = 2
  · rw [if_pos h6]
    subst h6
    have g6 : n = 0 := by rcases g5 with h | h; simpa using h; exact absurd h.2 (by decide)
    subst g6
    clear g5 h5 h4 g4 g1 g2 h1 h2 hk hn
    cases hnm : nameOk t with
    | false =>
      rw [hnm] at HN
      go_enter Try.func96, Try.ntmps96
      go_wp2
      go_quiet (first | (go_at_call 106; exact Calls.quiet_of_same (HK.out _)))
      go_wp2_with (go_at_call 29; refine (HN.out _).mono ?_; rintro e w4 ⟨rfl, h4⟩; have h5 := h4.symm; clear h4; subst h5)
      go_ret
      exact ⟨rfl, below_drewN ((Below.refl _ _).alloc (Nat.le_refl _) _) _⟩
    | true =>
      rw [hnm] at HN
      by_cases e1 : t = yesB
      · have e2 : ((ba t).toList == [121, 101, 115]) = true := ba_eq e1
        have e3 : decide (t ≠ yesB) = false := decide_eq_false (fun h => h e1)
        rw [e3]
        clear e1 e3 hnm
        generalize ba t = s at *
        go_enter Try.func96, Try.ntmps96
        go_wp2
        go_quiet (first | (go_at_call 106; exact Calls.quiet_of_same (HK.out _)))
        go_wp2_with (go_at_call 29; refine (HN.out _).mono ?_; rintro e w4 ⟨rfl, h4⟩; have h5 := h4.symm; clear h4; subst h5)
        go_ret
        exact ⟨rfl, below_drewN ((Below.refl _ _).alloc (Nat.le_refl _) _) _⟩
      · have e2 : ((ba t).toList == [121, 101, 115]) = false := ba_ne e1
        have e3 : decide (t ≠ yesB) = true := decide_eq_true e1
        rw [e3]
        by_cases e4 : t = noB
        · have e5 : ((ba t).toList == [110, 111]) = true := ba_eq e4
          have e6 : decide (t ≠ noB) = false := decide_eq_false (fun h => h e4)
          rw [e6]
          clear e1 e3 hnm e4 e6
          generalize ba t = s at *
          go_enter Try.func96, Try.ntmps96
          go_wp2
          go_quiet (first | (go_at_call 106; exact Calls.quiet_of_same (HK.out _)))
          go_wp2_with (go_at_call 29; refine (HN.out _).mono ?_; rintro e w4 ⟨rfl, h4⟩; have h5 := h4.symm; clear h4; subst h5)
          go_ret
          exact ⟨rfl, below_drewN ((Below.refl _ _).alloc (Nat.le_refl _) _) _⟩
        · have e5 : ((ba t).toList == [110, 111]) = false := ba_ne e4
          have e6 : decide (t ≠ noB) = true := decide_eq_true e4
          rw [e6]
          clear e1 e3 hnm e4 e6
          generalize ba t = s at *
          go_enter Try.func96, Try.ntmps96
          go_wp2
          go_quiet (first | (go_at_call 106; exact Calls.quiet_of_same (HK.out _)))
          go_wp2_with (go_at_call 29; refine (HN.out _).mono ?_; rintro e w4 ⟨rfl, h4⟩; have h5 := h4.symm; clear h4; subst h5)
          go_ret
          exact ⟨rfl, below_drewN ((Below.refl _ _).alloc (Nat.le_refl _) _) _⟩
  · rw [if_neg h6]
    have g7 : (k == 2) = false := by simpa using h6
    have g8 : (ba t).toList = t := ba_toList t
    have g9 : (t == []) = decide (t = []) := by cases t <;> rfl
    rcases g5 with g5 | ⟨g5, g6⟩
    · have g6 : n = 0 := by simpa using g5
      subst g6
      clear g5 h5
      go_enter Try.func96, Try.ntmps96
      go_wp2
      go_quiet (first | (go_at_call 106; exact Calls.quiet_of_same (HK.out _)))
      go_wp2_with (go_at_call 29; refine (HN.out _).mono ?_; rintro e w4 ⟨rfl, h4⟩; have h5 := h4.symm; clear h4; subst h5)
      go_ret
      exact ⟨rfl, below_drewN ((Below.refl _ _).alloc (Nat.le_refl _) _) _⟩
    · have g10 : k = 1 := by simpa using g6
      subst g10
      have g11 : (n != 0) = true := by simp; simpa using g5
      clear h5
      go_enter Try.func96, Try.ntmps96
      go_wp2
      go_quiet (first | (go_at_call 106; exact Calls.quiet_of_same (HK.out _)))
      go_wp2_with (go_at_call 29; refine (HN.out _).mono ?_; rintro e w4 ⟨rfl, h4⟩; have h5 := h4.symm; clear h4; subst h5)
      go_ret
      exact ⟨rfl, below_drewN ((Below.refl _ _).alloc (Nat.le_refl _) _) _⟩
end Go.Proofs.Ytjafjheffbbkmaa
