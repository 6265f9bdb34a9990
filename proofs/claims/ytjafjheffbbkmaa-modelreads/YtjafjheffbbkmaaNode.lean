/-
  What the document says of a node and a tree: contracts.
-/
import Derived.Test.YtjafjheffbbkmaaCheck
namespace Go.Proofs.Ytjafjheffbbkmaa
open Go.RowKit
set_option linter.unusedVariables false



/-- May a node of a kind be that has as many kids as it must? -/
def restB (k n : Int) (t : Bs) : Bool :=
  if n < 0 ∨ n ≠ 0 ∧ k ≠ 1 then false
  else if k = 2 then nameOk t && decide (t ≠ yesB) && decide (t ≠ noB)
  else decide (t = [])
theorem fitsB_out {k n : Int} {t : Bs} {l : Nat} (h : k < 1 ∨ 14 < k ∨ l ≠ kidsK k) : fitsB k n t l = false := if_pos h
theorem fitsB_in {k n : Int} {t : Bs} {l : Nat} (h1 : 1 ≤ k) (h2 : k ≤ 14) (h3 : l = kidsK k) : fitsB k n t l = restB k n t := if_neg (by rintro (h | h | h); omega; omega; exact h h3)
set_option maxRecDepth 100000 in
set_option maxHeartbeats 1000000 in
theorem node_low (k : Int) (hk : k < 1) (n : Int) (t : Bs) (a : Option Addr) (l c : Nat) (w : World) (hs : t.length ≤ 9223372036854775807) :
    Calls Try.prog 74 #[.agg #[.int .i64 k, .int .i64 n, .string (ba t), .slice a l c]] w fun e w' => e = .returned (.bool (fitsB k n t l)) ∧ Below w.heap.size w w' := by
  have g1 : ¬ 1 ≤ k := by omega
  have g2 : (k == 5) = false := by simp; omega
  have g3 : (k == 6) = false := by simp; omega
  have HE : Hid (fitsB k n t l = false) := fitsB_out (by omega)
  rw [HE.out]
  generalize ba t = s at *
  go_enter Try.func74, Try.ntmps74
  go_wp2_with fail
  go_ret
  exact ⟨rfl, (Below.refl _ _).alloc (Nat.le_refl _) _⟩
set_option maxRecDepth 100000 in
set_option maxHeartbeats 1000000 in
theorem node_high (k : Int) (hk : 14 < k) (n : Int) (t : Bs) (a : Option Addr) (l c : Nat) (w : World) (hs : t.length ≤ 9223372036854775807) :
    Calls Try.prog 74 #[.agg #[.int .i64 k, .int .i64 n, .string (ba t), .slice a l c]] w fun e w' => e = .returned (.bool (fitsB k n t l)) ∧ Below w.heap.size w w' := by
  have g1 : 1 ≤ k := by omega
  have g4 : ¬ k ≤ 4 := by omega
  have g5 : ¬ k < 1 := by omega
  have g2 : (k == 5) = false := by simp; omega
  have g3 : (k == 6) = false := by simp; omega
  have HE : Hid (fitsB k n t l = false) := fitsB_out (by omega)
  rw [HE.out]
  generalize ba t = s at *
  go_enter Try.func74, Try.ntmps74
  go_wp2_with fail
  go_ret
  exact ⟨rfl, (Below.refl _ _).alloc (Nat.le_refl _) _⟩
set_option maxRecDepth 100000 in
set_option maxHeartbeats 1000000 in
theorem node_1 (n : Int) (t : Bs) (a : Option Addr) (l c : Nat) (w : World) (hs : t.length ≤ 9223372036854775807) :
    Calls Try.prog 74 #[.agg #[.int .i64 1, .int .i64 n, .string (ba t), .slice a l c]] w fun e w' => e = .returned (.bool (fitsB 1 n t l)) ∧ Below w.heap.size w w' := by
  have hkk : kidsK 1 = 0 := by unfold kidsK; rfl
  by_cases hl : l = 0
  · subst hl
    have HE : Hid (fitsB 1 n t 0 = restB 1 n t) := fitsB_in (by omega) (by omega) hkk.symm
    rw [HE.out]
    clear HE hkk
    by_cases hn : n < 0
    · have HE : Hid (restB 1 n t = false) := if_pos (.inl hn)
      rw [HE.out]
      generalize ba t = s at *
      go_enter Try.func74, Try.ntmps74
      go_wp2_with fail
      go_ret
      exact ⟨rfl, (Below.refl _ _).alloc (Nat.le_refl _) _⟩
    · by_cases hn0 : n = 0
      · subst hn0
        have HE : Hid (restB 1 0 t = decide (t = [])) := rfl
        rw [HE.out]
        have g8 : (ba t).toList = t := ba_toList t
        have gz : (t == []) = decide (t = []) := by cases t <;> rfl
        have gy : t.isEmpty = decide (t = []) := by cases t <;> rfl
        go_enter Try.func74, Try.ntmps74
        go_wp2_with fail
        go_ret
        exact ⟨rfl, (Below.refl _ _).alloc (Nat.le_refl _) _⟩
      · have HE : Hid (restB 1 n t = decide (t = [])) := by
          show restB 1 n t = decide (t = [])
          unfold restB
          rw [if_neg (by omega), if_neg (by omega)]
        rw [HE.out]
        have hn1 : 0 < n := by omega
        have g8 : (ba t).toList = t := ba_toList t
        have gz : (t == []) = decide (t = []) := by cases t <;> rfl
        have gy : t.isEmpty = decide (t = []) := by cases t <;> rfl
        go_enter Try.func74, Try.ntmps74
        go_wp2_with fail
        go_ret
        exact ⟨rfl, (Below.refl _ _).alloc (Nat.le_refl _) _⟩
  · have HE : Hid (fitsB 1 n t l = false) := fitsB_out (.inr (.inr (by rw [hkk]; exact hl)))
    rw [HE.out]
    clear HE hkk
    have hl2 : ((l : Int) == 0) = false := by simp; omega
    generalize ba t = s at *
    go_enter Try.func74, Try.ntmps74
    go_wp2_with fail
    go_ret
    exact ⟨rfl, (Below.refl _ _).alloc (Nat.le_refl _) _⟩
set_option maxRecDepth 100000 in
set_option maxHeartbeats 1000000 in
theorem node_2 (n : Int) (t : Bs) (a : Option Addr) (l c : Nat) (w : World) (hs : t.length ≤ 9223372036854775807) :
    Calls Try.prog 74 #[.agg #[.int .i64 2, .int .i64 n, .string (ba t), .slice a l c]] w fun e w' => e = .returned (.bool (fitsB 2 n t l)) ∧ Below w.heap.size w w' := by
  have hkk : kidsK 2 = 0 := by unfold kidsK; rfl
  by_cases hl : l = 0
  · subst hl
    have HE : Hid (fitsB 2 n t 0 = restB 2 n t) := fitsB_in (by omega) (by omega) hkk.symm
    rw [HE.out]
    clear HE hkk
    by_cases hn : n < 0
    · have HE : Hid (restB 2 n t = false) := if_pos (.inl hn)
      rw [HE.out]
      generalize ba t = s at *
      go_enter Try.func74, Try.ntmps74
      go_wp2_with fail
      go_ret
      exact ⟨rfl, (Below.refl _ _).alloc (Nat.le_refl _) _⟩
    · by_cases hn0 : n = 0
      · subst hn0
        have HE : Hid (restB 2 0 t = (nameOk t && decide (t ≠ yesB) && decide (t ≠ noB))) := rfl
        rw [HE.out]
        have HN : Hid (∀ w, Calls Try.prog 31 #[.string (ba t)] w fun e w' => e = .returned (.bool (nameOk t)) ∧ w' = w) := fun w => by rw [← nm_ok]; exact rname_any (ba t) w hs
        cases hnm : nameOk t with
        | false =>
          rw [hnm] at HN
          go_enter Try.func74, Try.ntmps74
          go_wp2_with (go_at_call 31; refine (HN.out _).mono ?_; rintro e w4 ⟨rfl, h4⟩; have h5 := h4.symm; clear h4; subst h5)
          go_ret
          exact ⟨rfl, (Below.refl _ _).alloc (Nat.le_refl _) _⟩
        | true =>
          rw [hnm] at HN
          by_cases e1 : t = yesB
          · have e2 : ((ba t).toList == [121, 101, 115]) = true := ba_eq e1
            have e3 : decide (t ≠ yesB) = false := decide_eq_false (fun h => h e1)
            rw [e3]
            clear e1 e3 hnm HE hs
            generalize ba t = s at *
            go_enter Try.func74, Try.ntmps74
            go_wp2_with (go_at_call 31; refine (HN.out _).mono ?_; rintro e w4 ⟨rfl, h4⟩; have h5 := h4.symm; clear h4; subst h5)
            go_ret
            exact ⟨rfl, (Below.refl _ _).alloc (Nat.le_refl _) _⟩
          · have e2 : ((ba t).toList == [121, 101, 115]) = false := ba_ne e1
            have e3 : decide (t ≠ yesB) = true := decide_eq_true e1
            rw [e3]
            by_cases e4 : t = noB
            · have e5 : ((ba t).toList == [110, 111]) = true := ba_eq e4
              have e6 : decide (t ≠ noB) = false := decide_eq_false (fun h => h e4)
              rw [e6]
              clear e1 e3 hnm e4 e6 HE hs
              generalize ba t = s at *
              go_enter Try.func74, Try.ntmps74
              go_wp2_with (go_at_call 31; refine (HN.out _).mono ?_; rintro e w4 ⟨rfl, h4⟩; have h5 := h4.symm; clear h4; subst h5)
              go_ret
              exact ⟨rfl, (Below.refl _ _).alloc (Nat.le_refl _) _⟩
            · have e5 : ((ba t).toList == [110, 111]) = false := ba_ne e4
              have e6 : decide (t ≠ noB) = true := decide_eq_true e4
              rw [e6]
              clear e1 e3 hnm e4 e6 HE hs
              generalize ba t = s at *
              go_enter Try.func74, Try.ntmps74
              go_wp2_with (go_at_call 31; refine (HN.out _).mono ?_; rintro e w4 ⟨rfl, h4⟩; have h5 := h4.symm; clear h4; subst h5)
              go_ret
              exact ⟨rfl, (Below.refl _ _).alloc (Nat.le_refl _) _⟩
      · have HE : Hid (restB 2 n t = false) := if_pos (.inr ⟨hn0, by omega⟩)
        rw [HE.out]
        have hn1 : 0 < n := by omega
        generalize ba t = s at *
        go_enter Try.func74, Try.ntmps74
        go_wp2_with fail
        go_ret
        exact ⟨rfl, (Below.refl _ _).alloc (Nat.le_refl _) _⟩
  · have HE : Hid (fitsB 2 n t l = false) := fitsB_out (.inr (.inr (by rw [hkk]; exact hl)))
    rw [HE.out]
    clear HE hkk
    have hl2 : ((l : Int) == 0) = false := by simp; omega
    generalize ba t = s at *
    go_enter Try.func74, Try.ntmps74
    go_wp2_with fail
    go_ret
    exact ⟨rfl, (Below.refl _ _).alloc (Nat.le_refl _) _⟩
set_option maxRecDepth 100000 in
set_option maxHeartbeats 1000000 in
theorem node_3 (n : Int) (t : Bs) (a : Option Addr) (l c : Nat) (w : World) (hs : t.length ≤ 9223372036854775807) :
    Calls Try.prog 74 #[.agg #[.int .i64 3, .int .i64 n, .string (ba t), .slice a l c]] w fun e w' => e = .returned (.bool (fitsB 3 n t l)) ∧ Below w.heap.size w w' := by
  have hkk : kidsK 3 = 0 := by unfold kidsK; rfl
  by_cases hl : l = 0
  · subst hl
    have HE : Hid (fitsB 3 n t 0 = restB 3 n t) := fitsB_in (by omega) (by omega) hkk.symm
    rw [HE.out]
    clear HE hkk
    by_cases hn : n < 0
    · have HE : Hid (restB 3 n t = false) := if_pos (.inl hn)
      rw [HE.out]
      generalize ba t = s at *
      go_enter Try.func74, Try.ntmps74
      go_wp2_with fail
      go_ret
      exact ⟨rfl, (Below.refl _ _).alloc (Nat.le_refl _) _⟩
    · by_cases hn0 : n = 0
      · subst hn0
        have HE : Hid (restB 3 0 t = decide (t = [])) := rfl
        rw [HE.out]
        have g8 : (ba t).toList = t := ba_toList t
        have gz : (t == []) = decide (t = []) := by cases t <;> rfl
        have gy : t.isEmpty = decide (t = []) := by cases t <;> rfl
        go_enter Try.func74, Try.ntmps74
        go_wp2_with fail
        go_ret
        exact ⟨rfl, (Below.refl _ _).alloc (Nat.le_refl _) _⟩
      · have HE : Hid (restB 3 n t = false) := if_pos (.inr ⟨hn0, by omega⟩)
        rw [HE.out]
        have hn1 : 0 < n := by omega
        generalize ba t = s at *
        go_enter Try.func74, Try.ntmps74
        go_wp2_with fail
        go_ret
        exact ⟨rfl, (Below.refl _ _).alloc (Nat.le_refl _) _⟩
  · have HE : Hid (fitsB 3 n t l = false) := fitsB_out (.inr (.inr (by rw [hkk]; exact hl)))
    rw [HE.out]
    clear HE hkk
    have hl2 : ((l : Int) == 0) = false := by simp; omega
    generalize ba t = s at *
    go_enter Try.func74, Try.ntmps74
    go_wp2_with fail
    go_ret
    exact ⟨rfl, (Below.refl _ _).alloc (Nat.le_refl _) _⟩
set_option maxRecDepth 100000 in
set_option maxHeartbeats 1000000 in
theorem node_4 (n : Int) (t : Bs) (a : Option Addr) (l c : Nat) (w : World) (hs : t.length ≤ 9223372036854775807) :
    Calls Try.prog 74 #[.agg #[.int .i64 4, .int .i64 n, .string (ba t), .slice a l c]] w fun e w' => e = .returned (.bool (fitsB 4 n t l)) ∧ Below w.heap.size w w' := by
  have hkk : kidsK 4 = 0 := by unfold kidsK; rfl
  by_cases hl : l = 0
  · subst hl
    have HE : Hid (fitsB 4 n t 0 = restB 4 n t) := fitsB_in (by omega) (by omega) hkk.symm
    rw [HE.out]
    clear HE hkk
    by_cases hn : n < 0
    · have HE : Hid (restB 4 n t = false) := if_pos (.inl hn)
      rw [HE.out]
      generalize ba t = s at *
      go_enter Try.func74, Try.ntmps74
      go_wp2_with fail
      go_ret
      exact ⟨rfl, (Below.refl _ _).alloc (Nat.le_refl _) _⟩
    · by_cases hn0 : n = 0
      · subst hn0
        have HE : Hid (restB 4 0 t = decide (t = [])) := rfl
        rw [HE.out]
        have g8 : (ba t).toList = t := ba_toList t
        have gz : (t == []) = decide (t = []) := by cases t <;> rfl
        have gy : t.isEmpty = decide (t = []) := by cases t <;> rfl
        go_enter Try.func74, Try.ntmps74
        go_wp2_with fail
        go_ret
        exact ⟨rfl, (Below.refl _ _).alloc (Nat.le_refl _) _⟩
      · have HE : Hid (restB 4 n t = false) := if_pos (.inr ⟨hn0, by omega⟩)
        rw [HE.out]
        have hn1 : 0 < n := by omega
        generalize ba t = s at *
        go_enter Try.func74, Try.ntmps74
        go_wp2_with fail
        go_ret
        exact ⟨rfl, (Below.refl _ _).alloc (Nat.le_refl _) _⟩
  · have HE : Hid (fitsB 4 n t l = false) := fitsB_out (.inr (.inr (by rw [hkk]; exact hl)))
    rw [HE.out]
    clear HE hkk
    have hl2 : ((l : Int) == 0) = false := by simp; omega
    generalize ba t = s at *
    go_enter Try.func74, Try.ntmps74
    go_wp2_with fail
    go_ret
    exact ⟨rfl, (Below.refl _ _).alloc (Nat.le_refl _) _⟩
set_option maxRecDepth 100000 in
set_option maxHeartbeats 1000000 in
theorem node_5 (n : Int) (t : Bs) (a : Option Addr) (l c : Nat) (w : World) (hs : t.length ≤ 9223372036854775807) :
    Calls Try.prog 74 #[.agg #[.int .i64 5, .int .i64 n, .string (ba t), .slice a l c]] w fun e w' => e = .returned (.bool (fitsB 5 n t l)) ∧ Below w.heap.size w w' := by
  have hkk : kidsK 5 = 1 := by unfold kidsK; rfl
  by_cases hl : l = 1
  · subst hl
    have HE : Hid (fitsB 5 n t 1 = restB 5 n t) := fitsB_in (by omega) (by omega) hkk.symm
    rw [HE.out]
    clear HE hkk
    by_cases hn : n < 0
    · have HE : Hid (restB 5 n t = false) := if_pos (.inl hn)
      rw [HE.out]
      generalize ba t = s at *
      go_enter Try.func74, Try.ntmps74
      go_wp2_with fail
      go_ret
      exact ⟨rfl, (Below.refl _ _).alloc (Nat.le_refl _) _⟩
    · by_cases hn0 : n = 0
      · subst hn0
        have HE : Hid (restB 5 0 t = decide (t = [])) := rfl
        rw [HE.out]
        have g8 : (ba t).toList = t := ba_toList t
        have gz : (t == []) = decide (t = []) := by cases t <;> rfl
        have gy : t.isEmpty = decide (t = []) := by cases t <;> rfl
        go_enter Try.func74, Try.ntmps74
        go_wp2_with fail
        go_ret
        exact ⟨rfl, (Below.refl _ _).alloc (Nat.le_refl _) _⟩
      · have HE : Hid (restB 5 n t = false) := if_pos (.inr ⟨hn0, by omega⟩)
        rw [HE.out]
        have hn1 : 0 < n := by omega
        generalize ba t = s at *
        go_enter Try.func74, Try.ntmps74
        go_wp2_with fail
        go_ret
        exact ⟨rfl, (Below.refl _ _).alloc (Nat.le_refl _) _⟩
  · have HE : Hid (fitsB 5 n t l = false) := fitsB_out (.inr (.inr (by rw [hkk]; exact hl)))
    rw [HE.out]
    clear HE hkk
    have hl2 : ((l : Int) == 1) = false := by simp; omega
    generalize ba t = s at *
    go_enter Try.func74, Try.ntmps74
    go_wp2_with fail
    go_ret
    exact ⟨rfl, (Below.refl _ _).alloc (Nat.le_refl _) _⟩
set_option maxRecDepth 100000 in
set_option maxHeartbeats 1000000 in
theorem node_6 (n : Int) (t : Bs) (a : Option Addr) (l c : Nat) (w : World) (hs : t.length ≤ 9223372036854775807) :
    Calls Try.prog 74 #[.agg #[.int .i64 6, .int .i64 n, .string (ba t), .slice a l c]] w fun e w' => e = .returned (.bool (fitsB 6 n t l)) ∧ Below w.heap.size w w' := by
  have hkk : kidsK 6 = 1 := by unfold kidsK; rfl
  by_cases hl : l = 1
  · subst hl
    have HE : Hid (fitsB 6 n t 1 = restB 6 n t) := fitsB_in (by omega) (by omega) hkk.symm
    rw [HE.out]
    clear HE hkk
    by_cases hn : n < 0
    · have HE : Hid (restB 6 n t = false) := if_pos (.inl hn)
      rw [HE.out]
      generalize ba t = s at *
      go_enter Try.func74, Try.ntmps74
      go_wp2_with fail
      go_ret
      exact ⟨rfl, (Below.refl _ _).alloc (Nat.le_refl _) _⟩
    · by_cases hn0 : n = 0
      · subst hn0
        have HE : Hid (restB 6 0 t = decide (t = [])) := rfl
        rw [HE.out]
        have g8 : (ba t).toList = t := ba_toList t
        have gz : (t == []) = decide (t = []) := by cases t <;> rfl
        have gy : t.isEmpty = decide (t = []) := by cases t <;> rfl
        go_enter Try.func74, Try.ntmps74
        go_wp2_with fail
        go_ret
        exact ⟨rfl, (Below.refl _ _).alloc (Nat.le_refl _) _⟩
      · have HE : Hid (restB 6 n t = false) := if_pos (.inr ⟨hn0, by omega⟩)
        rw [HE.out]
        have hn1 : 0 < n := by omega
        generalize ba t = s at *
        go_enter Try.func74, Try.ntmps74
        go_wp2_with fail
        go_ret
        exact ⟨rfl, (Below.refl _ _).alloc (Nat.le_refl _) _⟩
  · have HE : Hid (fitsB 6 n t l = false) := fitsB_out (.inr (.inr (by rw [hkk]; exact hl)))
    rw [HE.out]
    clear HE hkk
    have hl2 : ((l : Int) == 1) = false := by simp; omega
    generalize ba t = s at *
    go_enter Try.func74, Try.ntmps74
    go_wp2_with fail
    go_ret
    exact ⟨rfl, (Below.refl _ _).alloc (Nat.le_refl _) _⟩
set_option maxRecDepth 100000 in
set_option maxHeartbeats 1000000 in
theorem node_bin (k : Int) (h7 : 7 ≤ k) (h14 : k ≤ 14) (n : Int) (t : Bs) (a : Option Addr) (l c : Nat) (w : World) (hs : t.length ≤ 9223372036854775807) :
    Calls Try.prog 74 #[.agg #[.int .i64 k, .int .i64 n, .string (ba t), .slice a l c]] w fun e w' => e = .returned (.bool (fitsB k n t l)) ∧ Below w.heap.size w w' := by
  have g1 : 1 ≤ k := by omega
  have g4 : ¬ k ≤ 4 := by omega
  have g5 : ¬ k < 1 := by omega
  have g6 : ¬ 14 < k := by omega
  have g2 : (k == 5) = false := by simp; omega
  have g3 : (k == 6) = false := by simp; omega
  have g7 : (k == 2) = false := by simp; omega
  have g9 : (k == 1) = false := by simp; omega
  have g10 : (k != 1) = true := by simp; omega
  have hkk : kidsK k = 2 := by unfold kidsK; rw [if_neg (by omega), if_neg (by omega)]
  by_cases hl : l = 2
  · subst hl
    have HE : Hid (fitsB k n t 2 = restB k n t) := fitsB_in (by omega) (by omega) hkk.symm
    rw [HE.out]
    clear HE hkk
    by_cases hn : n < 0
    · have HE : Hid (restB k n t = false) := if_pos (.inl hn)
      rw [HE.out]
      generalize ba t = s at *
      go_enter Try.func74, Try.ntmps74
      go_wp2_with fail
      go_ret
      exact ⟨rfl, (Below.refl _ _).alloc (Nat.le_refl _) _⟩
    · by_cases hn0 : n = 0
      · subst hn0
        have HE : Hid (restB k 0 t = decide (t = [])) := by unfold restB; rw [if_neg (by omega), if_neg (by omega)]; exact rfl
        rw [HE.out]
        have g8 : (ba t).toList = t := ba_toList t
        have gz : (t == []) = decide (t = []) := by cases t <;> rfl
        have gy : t.isEmpty = decide (t = []) := by cases t <;> rfl
        go_enter Try.func74, Try.ntmps74
        go_wp2_with fail
        go_ret
        exact ⟨rfl, (Below.refl _ _).alloc (Nat.le_refl _) _⟩
      · have HE : Hid (restB k n t = false) := if_pos (.inr ⟨hn0, by omega⟩)
        rw [HE.out]
        have hn1 : 0 < n := by omega
        generalize ba t = s at *
        go_enter Try.func74, Try.ntmps74
        go_wp2_with fail
        go_ret
        exact ⟨rfl, (Below.refl _ _).alloc (Nat.le_refl _) _⟩
  · have HE : Hid (fitsB k n t l = false) := fitsB_out (.inr (.inr (by rw [hkk]; exact hl)))
    rw [HE.out]
    clear HE hkk
    have hl2 : ((l : Int) == 2) = false := by simp; omega
    generalize ba t = s at *
    go_enter Try.func74, Try.ntmps74
    go_wp2_with fail
    go_ret
    exact ⟨rfl, (Below.refl _ _).alloc (Nat.le_refl _) _⟩
theorem node_any (k n : Int) (t : Bs) (a : Option Addr) (l c : Nat) (w : World) (hs : t.length ≤ 9223372036854775807) :
    Calls Try.prog 74 #[.agg #[.int .i64 k, .int .i64 n, .string (ba t), .slice a l c]] w fun e w' => e = .returned (.bool (fitsB k n t l)) ∧ Below w.heap.size w w' := by
  by_cases h1 : k < 1
  · exact node_low k h1 n t a l c w hs
  by_cases h2 : 14 < k
  · exact node_high k h2 n t a l c w hs
  by_cases h7 : 7 ≤ k
  · exact node_bin k h7 (by omega) n t a l c w hs
  have : k = 1 ∨ k = 2 ∨ k = 3 ∨ k = 4 ∨ k = 5 ∨ k = 6 := by omega
  rcases this with rfl | rfl | rfl | rfl | rfl | rfl
  · exact node_1 n t a l c w hs
  · exact node_2 n t a l c w hs
  · exact node_3 n t a l c w hs
  · exact node_4 n t a l c w hs
  · exact node_5 n t a l c w hs
  · exact node_6 n t a l c w hs
def RChecks (d : Nat) : Prop := ∀ (deep : Nat), d + deep = 17 → ∀ (P : Nat → Prop) (t : Tr) (v : Value) (w : World), Tre w P v t →
  Calls Try.prog 38 #[v, .int .i64 deep] w fun e w' => e = .returned (.int .i64 (checkM d t)) ∧ Below w.heap.size w w'
set_option maxRecDepth 100000 in
theorem rcheck_zero : RChecks 0 := by
  intro deep hd P t v w hT
  obtain ⟨a, cap, rfl, _⟩ := hT.opened
  have h16 : ¬ deep ≤ 16 := by omega
  have h17 : (16 : Int) < deep := by omega
  have hd2 : deep ≤ 17 := by omega
  show Calls Try.prog 38 _ w fun e w' => e = .returned (.int .i64 (6 : Nat)) ∧ _
  clear hT
  go_enter Try.func38, Try.ntmps38
  go_wp2
  go_ret
  exact ⟨rfl, (Below.refl _ _).alloc (Nat.le_refl _) _⟩
set_option maxRecDepth 100000 in
set_option maxHeartbeats 800000 in
theorem rcheck_succ (d : Nat) (ih : RChecks d) : RChecks (d + 1) := by
  intro deep hd P t v w hT
  have HT : Hid (Tre w P v t) := hT
  obtain ⟨a, cap, rfl, hcap, hk, hn, hnm, hlen, hkids⟩ := hT.opened
  have HI : Hid (∀ (x : Tr) (v : Value) (w : World), Tre w P v x → Calls Try.prog 38 #[v, .int .i64 ((deep : Int) + 1)] w fun e w' => e = .returned (.int .i64 (checkM d x)) ∧ Below w.heap.size w w') := fun x v w h => ih (deep + 1) (by omega) P x v w h
  have HK : Hid (∀ i, i < t.kids.length → ∃ b o ka kc, KidAt w P a i (t.kids.getD i zeroT) b o ka kc) := hkids
  have HF : Hid (∀ w, Calls Try.prog 74 #[.agg #[.int .i64 t.kind, .int .i64 t.n, .string (ba t.name), .slice a t.kids.length cap]] w fun e w' => e = .returned (.bool (fitsM t)) ∧ Below w.heap.size w w') := fun w => node_any t.kind t.n t.name a t.kids.length cap w hnm
  have hd16 : deep ≤ 16 := by omega
  clear hkids hT ih hk hn hnm
  have HE : Hid (checkM (d + 1) t = if fitsM t = false then 1 else firstBad (checkM d) t.kids) := rfl
  rw [HE.out]
  generalize t.kind = tk at *
  generalize t.n = tn at *
  generalize ba t.name = ts at *
  cases hf : fitsM t with
  | false =>
    rw [hf] at HF
    rw [if_pos rfl]
    go_enter Try.func38, Try.ntmps38
    go_wp2_with (go_at_call 74; refine (HF.out _).mono ?_; rintro e w1 ⟨rfl, HB⟩)
    go_ret
    exact ⟨rfl, ((Below.refl _ _).alloc (Nat.le_refl _) _).trans (HB.mono (by rw [size_alloc]; omega))⟩
  | true =>
    rw [hf] at HF
    rw [if_neg (by decide)]
    clear hf HE
    generalize t.kids = ks at *
    go_enter Try.func38, Try.ntmps38
    go_wp2_with (go_at_call 74; refine (HF.out _).mono ?_; rintro e w1 ⟨rfl, HB⟩; obtain ⟨q0, q1, q2, q3, q4⟩ := (Cell4.new w (.int .i64 tk) (.int .i64 tn) (.string ts) (.slice a ks.length cap) 31).below HB; have HB1 : Hid (Below w.heap.size w w1 ∧ Cell4 w1 w.heap.size (.int .i64 tk) (.int .i64 tn) (.string ts) (.slice a ks.length cap)) := ⟨((Below.refl _ _).alloc (Nat.le_refl _) _).trans (HB.mono (by rw [size_alloc]; omega)), (Cell4.new w (.int .i64 tk) (.int .i64 tn) (.string ts) (.slice a ks.length cap) 31).below HB⟩; clear HB)
    go_loopw [5] (fun v wr => ∃ (i : Nat), i ≤ ks.length ∧ v = .int .i64 i ∧ Hid (Below w.heap.size w wr ∧ (∀ j, j < i → checkM d (ks.getD j zeroT) = 0) ∧ Cell4 wr w.heap.size (.int .i64 tk) (.int .i64 tn) (.string ts) (.slice a ks.length cap))) (fun v _ => ks.length - (intOf v).toNat)
    case atStart => exact ⟨0, Nat.zero_le _, rfl, HB1.out.1, (fun j hj => absurd hj (by omega)), HB1.out.2⟩
    case round =>
      obtain ⟨i, hi, rfl, HR⟩ := hrel
      obtain ⟨p0, p1, p2, p3, p4⟩ := HR.out.2.2
      by_cases hlt : i < ks.length
      · obtain ⟨b, o, ka, kc, hKA⟩ := HK.out i hlt
        have HKA : Hid (KidAt wr P a i (ks.getD i zeroT) b o ka kc) := hKA.below HR.out.1
        obtain ⟨rfl, k0, k1, k2, k3, _⟩ := HKA.out
        have hbl : b < wr.heap.size := World.block_lt_of_cell? wr _ k0
        have HKT : Hid (Tre wr P (.agg #[.int .i64 (ks.getD i zeroT).kind, .int .i64 (ks.getD i zeroT).n, .string (ba (ks.getD i zeroT).name), .slice ka (ks.getD i zeroT).kids.length kc]) (ks.getD i zeroT)) := HKA.out.tre
        clear hKA HKA
        have HC : Hid (∀ w, Tre w P (.agg #[.int .i64 (ks.getD i zeroT).kind, .int .i64 (ks.getD i zeroT).n, .string (ba (ks.getD i zeroT).name), .slice ka (ks.getD i zeroT).kids.length kc]) (ks.getD i zeroT) → Calls Try.prog 38 #[.agg #[.int .i64 (ks.getD i zeroT).kind, .int .i64 (ks.getD i zeroT).n, .string (ba (ks.getD i zeroT).name), .slice ka (ks.getD i zeroT).kids.length kc], .int .i64 ((deep : Int) + 1)] w fun e w' => e = .returned (.int .i64 (checkM d (ks.getD i zeroT))) ∧ Below w.heap.size w w') := fun w h => HI.out _ _ w h
        have HQ : Hid (∀ k, checkM d (ks.getD i zeroT) = k → k = 0 → ∀ j, j < i + 1 → checkM d (ks.getD j zeroT) = 0) := fun k h1 h2 j hj => by
          rcases Nat.lt_succ_iff_lt_or_eq.1 hj with h | h
          · exact HR.out.2.1 j h
          · rw [h, h1, h2]
        have HQ2 : Hid (checkM d (ks.getD i zeroT) ≠ 0 → firstBad (checkM d) ks = checkM d (ks.getD i zeroT)) := fun h => firstBad_at _ ks i hlt HR.out.2.1 h
        generalize hck : checkM d (ks.getD i zeroT) = ck at *
        generalize (ks.getD i zeroT).kind = yk at *
        generalize (ks.getD i zeroT).n = yn at *
        generalize ba (ks.getD i zeroT).name = ys at *
        generalize (ks.getD i zeroT).kids.length = yl at *
        generalize ks.getD i zeroT = y at *
        by_cases hc0 : ck = 0
        · subst hc0
          go_wp2_with (go_at_call 38; refine (HC.out _ HKT.out).mono ?_; rintro e w3 ⟨rfl, HB⟩; have HB3 : Hid (Below w.heap.size w w3) := HR.out.1.trans (HB.mono HR.out.1.size); have HB4 : Hid (Cell4 w3 w.heap.size (.int .i64 tk) (.int .i64 tn) (.string ts) (.slice (some ⟨b, o, none⟩) ks.length cap)) := HR.out.2.2.below HB; clear HB)
          go_roundw
          case rel => exact ⟨i + 1, by omega, by go_num, HB3.out, HQ.out 0 rfl rfl, HB4.out⟩
          case measure => simp [intOf]; omega
        · have hc1 : ¬ (ck : Int) = 0 := by omega
          go_wp2_with (go_at_call 38; refine (HC.out _ HKT.out).mono ?_; rintro e w3 ⟨rfl, HB⟩; have HB3 : Hid (Below w.heap.size w w3) := HR.out.1.trans (HB.mono HR.out.1.size); have HB4 : Hid (Cell4 w3 w.heap.size (.int .i64 tk) (.int .i64 tn) (.string ts) (.slice (some ⟨b, o, none⟩) ks.length cap)) := HR.out.2.2.below HB; clear HB)
          go_ret
          exact ⟨by rw [HQ2.out hc0]; rfl, HB3.out⟩
      · have he : i = ks.length := by omega
        subst he
        have HE : Hid (firstBad (checkM d) ks = 0) := firstBad_none _ ks HR.out.2.1
        have HB3 : Hid (Below w.heap.size w wr) := HR.out.1
        clear HR
        go_wp2
        go_ret
        exact ⟨by rw [HE.out]; rfl, HB3.out⟩
theorem rchecks_any : ∀ d, RChecks d
  | 0 => rcheck_zero
  | d + 1 => rcheck_succ d (rchecks_any d)
set_option maxRecDepth 100000 in
theorem RCheck_any (P : Nat → Prop) (t : Tr) (k n : Int) (s : ByteArray) (a : Option Addr) (l c : Nat) (w : World) (hT : Tre w P (.agg #[.int .i64 k, .int .i64 n, .string s, .slice a l c]) t) :
    Calls Try.prog 18 #[.agg #[.int .i64 k, .int .i64 n, .string s, .slice a l c]] w fun e w' => e = .returned (.int .i64 (checkM 16 t)) ∧ Below w.heap.size w w' := by
  have HC : Hid (∀ w, Tre w P (.agg #[.int .i64 k, .int .i64 n, .string s, .slice a l c]) t → Calls Try.prog 38 #[.agg #[.int .i64 k, .int .i64 n, .string s, .slice a l c], .int .i64 1] w fun e w' => e = .returned (.int .i64 (checkM 16 t)) ∧ Below w.heap.size w w') := fun w h => rchecks_any 16 1 rfl P t _ w h
  have HT : Hid (Tre w P (.agg #[.int .i64 k, .int .i64 n, .string s, .slice a l c]) t) := hT
  clear hT
  generalize checkM 16 t = ck at *
  go_enter Try.func18, Try.ntmps18
  go_wp2_with (go_at_call 38; refine (HC.out _ (HT.out.alloc _)).mono ?_; rintro e w3 ⟨rfl, HB⟩)
  go_ret
  exact ⟨rfl, ((Below.refl _ _).alloc (Nat.le_refl _) _).trans (HB.mono (by rw [size_alloc]; omega))⟩
end Go.Proofs.Ytjafjheffbbkmaa
