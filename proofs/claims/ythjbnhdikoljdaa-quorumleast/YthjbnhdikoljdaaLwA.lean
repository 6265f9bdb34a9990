/-
  Layer 14: the walks of QuorumLeast, QuorumMeets.
-/
import Derived.Test.YthjbnhdikoljdaaWrk
namespace Go.Proofs.Ythjbnhdikoljdaa
open Go.RowKit
set_option linter.unusedVariables false

set_option maxRecDepth 100000 in
set_option maxHeartbeats 400000 in
theorem least_walk (n : Int) (w : World) (hn : 0 ≤ n ∧ n ≤ 65535) : Calls Try.prog 7 #[.int .u16 n] w fun e w' => e = .returned (.bool true) ∧ Below w.heap.size w w' := by
  obtain ⟨h1, h2⟩ := hn
  obtain ⟨E, hE, h3, h4, h5, h6⟩ : ∃ E, enM (1 + n % 500) = E ∧ 1 ≤ E ∧ E ≤ 1 + n % 500 ∧ 1 + n % 500 < 2 * E ∧ 2 * (E - 1) ≤ 1 + n % 500 := by
    refine ⟨(1 + n % 500) / 2 + 1, enM_pos (by omega), by omega, by omega, by omega, by omega⟩
  have HE : Hid (enM (1 + n % 500) = E) := hE
  clear hE
  have h7 : 0 ≤ n % 500 := by omega
  have h8 : n % 500 < 500 := by omega
  go_enter Try.func7, Try.ntmps7
  go_wp2_with (first
    | (go_at_call 9; refine (Enough_any _ _ ⟨by omega, by omega⟩).mono ?_; rintro e w' ⟨rfl, rfl⟩; rw [HE.out])
    | (go_at_call 8; refine (works_any _).mono ?_; rintro e w2 ⟨rfl, HB⟩))
  go_ret
  exact ⟨rfl, HB⟩
set_option maxRecDepth 100000 in
set_option maxHeartbeats 400000 in
theorem meets_walk (l : List Bool) (a : Option Addr) (c : Nat) (m : List Bool) (a2 : Option Addr) (c2 : Nat) (w : World) (hl : BlV w a c l) (hm : BlV w a2 c2 m) : Calls Try.prog 4 #[.slice a l.length c, .slice a2 m.length c2] w fun e w' => e = .returned (.bool true) ∧ Below w.heap.size w w' := by
  have h1 := hl.cap1
  have h2 := hl.cap2
  have h3 := hm.cap1
  have h4 := hm.cap2
  have HL : Hid (Calls Try.prog 11 #[.slice a l.length c] w fun e w' => e = .returned (.bool (wonM l)) ∧ w' = w) := Won_any l a c w hl
  have HM : Hid (Calls Try.prog 11 #[.slice a2 m.length c2] w fun e w' => e = .returned (.bool (wonM m)) ∧ w' = w) := Won_any m a2 c2 w hm
  have HT : Hid (Calls Try.prog 15 #[.slice a l.length c, .slice a2 m.length c2] w fun e w' => e = .returned (.bool (bothM l m)) ∧ w' = w) := Both_any l m a a2 c c2 w hl hm
  by_cases e : l.length = m.length
  · have HX : Hid (wonM l = true → wonM m = true → bothM l m = true) := both_meet e
    rw [← e] at h3 HM HT ⊢
    generalize bothM l m = r at *
    generalize wonM l = x at *
    generalize wonM m = y at *
    clear hl hm e
    generalize l.length = n at *
    by_cases h5 : 500 < n
    · go_enter Try.func4, Try.ntmps4
      go_wp2_with (go_at_call 8; refine (works_any _).mono ?_; rintro e w2 ⟨rfl, HB⟩)
      go_ret
      exact ⟨rfl, HB⟩
    · cases x with
      | false =>
        go_enter Try.func4, Try.ntmps4
        go_wp2_with (first
          | (go_at_call 11; refine HL.out.mono ?_; rintro e w1 ⟨rfl, h9⟩; have h10 := h9.symm; clear h9; subst h10)
          | (go_at_call 8; refine (works_any _).mono ?_; rintro e w2 ⟨rfl, HB⟩))
        go_ret
        exact ⟨rfl, HB⟩
      | true =>
        cases y with
        | false =>
          go_enter Try.func4, Try.ntmps4
          go_wp2_with (first
            | (go_at_call 11; have := HD; refine HM.out.mono ?_; rintro e w1 ⟨rfl, h9⟩; have h10 := h9.symm; clear h9; subst h10)
            | (go_at_call 11; refine HL.out.mono ?_; rintro e w1 ⟨rfl, h9⟩; have h10 := h9.symm; clear h9; subst h10; have HD : Hid True := trivial)
            | (go_at_call 8; refine (works_any _).mono ?_; rintro e w2 ⟨rfl, HB⟩))
          go_ret
          exact ⟨rfl, HB⟩
        | true =>
          have HR : Hid (r = true) := HX.out rfl rfl
          clear HX
          go_enter Try.func4, Try.ntmps4
          go_wp2_with (first
            | (go_at_call 11; have := HD; refine HM.out.mono ?_; rintro e w1 ⟨rfl, h9⟩; have h10 := h9.symm; clear h9; subst h10)
            | (go_at_call 11; refine HL.out.mono ?_; rintro e w1 ⟨rfl, h9⟩; have h10 := h9.symm; clear h9; subst h10; have HD : Hid True := trivial)
            | (go_at_call 15; refine HT.out.mono ?_; rintro e w1 ⟨rfl, h9⟩; have h10 := h9.symm; clear h9; subst h10; rw [HR.out])
            | (go_at_call 8; refine (works_any _).mono ?_; rintro e w2 ⟨rfl, HB⟩))
          go_ret
          exact ⟨rfl, HB⟩
  · have h5 : ¬ ((l.length : Nat) : Int) = ((m.length : Nat) : Int) := by omega
    have h6 : (((l.length : Nat) : Int) == ((m.length : Nat) : Int)) = false := by rw [beq_eq_false_iff_ne]; exact h5
    clear hl hm HL HM HT e
    generalize l.length = n at *
    generalize m.length = n2 at *
    go_enter Try.func4, Try.ntmps4
    go_wp2_with (go_at_call 8; refine (works_any _).mono ?_; rintro e w2 ⟨rfl, HB⟩)
    go_ret
    exact ⟨rfl, HB⟩
end Go.Proofs.Ythjbnhdikoljdaa
