/-
  Layer 14: Enough, Won, Both, of both sides.
-/
import Derived.Test.YthjbnhdikoljdaaBas
namespace Go.Proofs.Ythjbnhdikoljdaa
open Go.RowKit
set_option linter.unusedVariables false

set_option maxRecDepth 100000 in
theorem Enough_any (n : Int) (w : World) (hn : InR n) : Calls Try.prog 9 #[.int .i64 n] w fun e w' => e = .returned (.int .i64 (enM n)) ∧ w' = w := by
  obtain ⟨h1, h2⟩ := hn
  by_cases h : n < 1
  · have HE : Hid (enM n = 0) := enM_low h
    generalize enM n = r at *
    go_enter Try.func9, Try.ntmps9
    go_wp2
    go_ret
    exact ⟨by rw [HE.out]; rfl, rfl⟩
  · have HE : Hid (enM n = n / 2 + 1) := enM_pos h
    generalize enM n = r at *
    go_enter Try.func9, Try.ntmps9
    go_wp2
    go_ret
    exact ⟨by rw [HE.out]; rfl, rfl⟩
set_option maxRecDepth 100000 in
theorem REnough_any (n : Int) (w : World) (hn : InR n) : Calls Try.prog 10 #[.int .i64 n] w fun e w' => e = .returned (.int .i64 (enM n)) ∧ w' = w := by
  obtain ⟨h1, h2⟩ := hn
  by_cases h : n < 1
  · have HE : Hid (enM n = 0) := enM_low h
    generalize enM n = r at *
    go_enter Try.func10, Try.ntmps10
    go_wp2
    go_ret
    exact ⟨by rw [HE.out]; rfl, rfl⟩
  · by_cases h3 : n % 2 = 0
    · have HE : Hid (enM n = n / 2 + 1) := enM_pos h
      generalize enM n = r at *
      go_enter Try.func10, Try.ntmps10
      go_wp2
      go_ret
      exact ⟨by rw [HE.out]; rfl, rfl⟩
    · have HE : Hid (enM n = (n - 1) / 2 + 1) := enM_odd h h3
      generalize enM n = r at *
      go_enter Try.func10, Try.ntmps10
      go_wp2
      go_ret
      exact ⟨by rw [HE.out]; rfl, rfl⟩
set_option maxRecDepth 100000 in
set_option maxHeartbeats 400000 in
theorem Won_any (l : List Bool) (a : Option Addr) (c : Nat) (w : World) (hl : BlV w a c l) : Calls Try.prog 11 #[.slice a l.length c] w fun e w' => e = .returned (.bool (wonM l)) ∧ w' = w := by
  have h1 := hl.cap1
  have h2 := hl.cap2
  have HC : Hid (∀ i, i < l.length → ∃ b o, a = some ⟨b, o, none⟩ ∧ w.cell? ⟨b, o + i, none⟩ = some (.bool (l.getD i false))) := fun i hi => by
    obtain ⟨b, o, q1, q2, _⟩ := hl.at_ hi
    exact ⟨b, o, q1, q2⟩
  have HY : Hid (∀ k, k < l.length → l.getD k false = true → cntB (l.take (k + 1)) = cntB (l.take k) + 1) := fun k hk q => cntB_yes hk q
  have HN : Hid (∀ k, k < l.length → l.getD k false = false → cntB (l.take (k + 1)) = cntB (l.take k)) := fun k hk q => cntB_no hk q
  have HT : Hid (∀ k, cntB (l.take k) ≤ k) := fun k => cntB_take l k
  have HE : Hid (0 < l.length → ∀ k, l.length ≤ k → decide (enM l.length ≤ (cntB (l.take k) : Nat)) = wonM l) := fun h0 k hk => by rw [List.take_of_length_le hk]; exact won_en h0
  have HZ : Hid (l.length = 0 → wonM l = false) := won_none
  have HI : Hid (InR (l.length : Nat)) := ⟨by omega, by omega⟩
  generalize wonM l = r at *
  clear hl
  generalize l.length = n at *
  go_enter Try.func11, Try.ntmps11
  go_wp2
  go_loop [3, 8] (fun x y => ∃ (i m : Nat), i ≤ n ∧ x = .int .i64 (m : Nat) ∧ y = .int .i64 i ∧ m ≤ i ∧ Hid (m = cntB (l.take i))) (fun _ y => n - (intOf y).toNat)
  case atStart => exact ⟨0, 0, Nat.zero_le _, rfl, rfl, Nat.le_refl _, show 0 = cntB (l.take 0) by simp [cntB]⟩
  case round =>
    obtain ⟨i, m, hi, rfl, rfl, hm, HR⟩ := hrel
    by_cases hlt : i < n
    · obtain ⟨b, o, rfl, x1⟩ := HC.out i hlt
      cases hb : l.getD i false with
      | true =>
        have HS : Hid (m + 1 = cntB (l.take (i + 1))) := by rw [HY.out i hlt hb, ← HR.out]; rfl
        rw [hb] at x1
        clear HC HY HN HT HE HZ hb
        go_wp2
        go_round
        case rel => exact ⟨i + 1, m + 1, by omega, by go_num, by go_num, by omega, HS⟩
        case measure => simp [intOf]; omega
      | false =>
        have HS : Hid (m = cntB (l.take (i + 1))) := by rw [HN.out i hlt hb]; exact HR.out
        rw [hb] at x1
        clear HC HY HN HT HE HZ hb
        go_wp2
        go_round
        case rel => exact ⟨i + 1, m, by omega, rfl, by go_num, by omega, HS⟩
        case measure => simp [intOf]; omega
    · by_cases h0 : n = 0
      · have HF : Hid (r = false) := HZ.out h0
        subst h0
        clear HC HY HN HT HE HZ
        go_wp2
        go_ret
        exact ⟨by rw [HF.out]; rfl, rfl⟩
      · have HF : Hid (decide (enM (n : Nat) ≤ (m : Nat)) = r) := by rw [HR.out]; exact HE.out (by omega) i (by omega)
        clear HC HY HN HT HE HZ
        have h3 : 0 < n := by omega
        go_wp2_with (go_at_call 9; refine (Enough_any _ _ HI.out).mono ?_; rintro e w' ⟨rfl, rfl⟩)
        go_ret
        exact ⟨by rw [← HF.out]; rfl, rfl⟩
end Go.Proofs.Ythjbnhdikoljdaa
