/-
  Layer 14: the document's Won; Both of both sides.
-/
import Derived.Test.YthjbnhdikoljdaaSma
namespace Go.Proofs.Ythjbnhdikoljdaa
open Go.RowKit
set_option linter.unusedVariables false

set_option maxRecDepth 100000 in
set_option maxHeartbeats 400000 in
theorem RWon_any (l : List Bool) (a : Option Addr) (c : Nat) (w : World) (hl : BlV w a c l) : Calls Try.prog 12 #[.slice a l.length c] w fun e w' => e = .returned (.bool (wonM l)) ∧ w' = w := by
  have h1 := hl.cap1
  have h2 := hl.cap2
  have HC : Hid (∀ i, i < l.length → ∃ b o, a = some ⟨b, o, none⟩ ∧ w.cell? ⟨b, o + i, none⟩ = some (.bool (l.getD i false))) := fun i hi => by
    obtain ⟨b, o, q1, q2, _⟩ := hl.at_ hi
    exact ⟨b, o, q1, q2⟩
  have HY : Hid (∀ k, k < l.length → l.getD k false = true → cntB (l.take (k + 1)) = cntB (l.take k) + 1) := fun k hk q => cntB_yes hk q
  have HN : Hid (∀ k, k < l.length → l.getD k false = false → cntB (l.take (k + 1)) = cntB (l.take k)) := fun k hk q => cntB_no hk q
  have HE : Hid (∀ i m z : Nat, i ≤ l.length → l.length ≤ i → m = cntB (l.take i) → z + m = i → decide (z < m) = wonM l) := fun i m z q1 q2 q3 q4 => by
    rw [List.take_of_length_le q2] at q3
    rw [← won_more, ← q3, show l.length - m = z by omega, decide_eq_decide]
    omega
  generalize wonM l = r at *
  clear hl
  generalize l.length = n at *
  go_enter Try.func12, Try.ntmps12
  go_wp2
  go_loop [3, 4, 5] (fun x z y => ∃ (i m k : Nat), i ≤ n ∧ x = .int .i64 (m : Nat) ∧ z = .int .i64 (k : Nat) ∧ y = .int .i64 i ∧ m ≤ i ∧ k ≤ i ∧ Hid (m = cntB (l.take i) ∧ k + m = i)) (fun _ _ y => n - (intOf y).toNat)
  case atStart => exact ⟨0, 0, 0, Nat.zero_le _, rfl, rfl, rfl, Nat.le_refl _, Nat.le_refl _, by simp [cntB], rfl⟩
  case round =>
    obtain ⟨i, m, k, hi, rfl, rfl, rfl, hm, hk, HR⟩ := hrel
    by_cases hlt : i < n
    · obtain ⟨b, o, rfl, x1⟩ := HC.out i hlt
      cases hb : l.getD i false with
      | true =>
        have HS : Hid (m + 1 = cntB (l.take (i + 1)) ∧ k + (m + 1) = i + 1) := ⟨by rw [HY.out i hlt hb, ← HR.out.1], by have := HR.out.2; omega⟩
        rw [hb] at x1
        clear HC HY HN HE hb
        go_wp2
        go_round
        case rel => exact ⟨i + 1, m + 1, k, by omega, by go_num, rfl, by go_num, by omega, by omega, HS⟩
        case measure => simp [intOf]; omega
      | false =>
        have HS : Hid (m = cntB (l.take (i + 1)) ∧ k + 1 + m = i + 1) := ⟨by rw [HN.out i hlt hb]; exact HR.out.1, by have := HR.out.2; omega⟩
        rw [hb] at x1
        clear HC HY HN HE hb
        go_wp2
        go_round
        case rel => exact ⟨i + 1, m, k + 1, by omega, rfl, by go_num, by go_num, by omega, by omega, HS⟩
        case measure => simp [intOf]; omega
    · have HF : Hid (decide (k < m) = r) := HE.out i m k hi (by omega) HR.out.1 HR.out.2
      clear HC HY HN HE
      go_wp2
      go_ret
      exact ⟨by rw [← HF.out]; rfl, rfl⟩
set_option maxRecDepth 100000 in
set_option maxHeartbeats 400000 in
theorem Both_any (l m : List Bool) (a a2 : Option Addr) (c c2 : Nat) (w : World) (hl : BlV w a c l) (hm : BlV w a2 c2 m) : Calls Try.prog 15 #[.slice a l.length c, .slice a2 m.length c2] w fun e w' => e = .returned (.bool (bothM l m)) ∧ w' = w := by
  have h1 := hl.cap1
  have h2 := hl.cap2
  have h3 := hm.cap1
  have h4 := hm.cap2
  have HC : Hid (∀ i, i < l.length → i < m.length → ∃ b o b2 o2, a = some ⟨b, o, none⟩ ∧ a2 = some ⟨b2, o2, none⟩ ∧ w.cell? ⟨b, o + i, none⟩ = some (.bool (l.getD i false)) ∧ w.cell? ⟨b2, o2 + i, none⟩ = some (.bool (m.getD i false))) := fun i hi hi2 => by
    obtain ⟨b, o, q1, q2, _⟩ := hl.at_ hi
    obtain ⟨b2, o2, r1, r2, _⟩ := hm.at_ hi2
    exact ⟨b, o, b2, o2, q1, r1, q2, r2⟩
  have HY : Hid (∀ k, k < l.length → k < m.length → l.getD k false = true → m.getD k false = true → bothM l m = true) := fun k q1 q2 q3 q4 => both_yes q1 q2 q3 q4
  have HN : Hid ((∀ k, k < l.length → k < m.length → l.getD k false = true → m.getD k false = true → False) → bothM l m = false) := both_none
  generalize bothM l m = r at *
  clear hl hm
  generalize l.length = n at *
  generalize m.length = n2 at *
  by_cases hmin : n2 < n
  all_goals
    go_enter Try.func15, Try.ntmps15
    go_wp2
    go_loop [11] (fun y => ∃ i : Nat, (i ≤ n ∧ i ≤ n2) ∧ y = .int .i64 i ∧ Hid (∀ j, j < i → l.getD j false = true → m.getD j false = true → False)) (fun y => n - (intOf y).toNat)
    case atStart => exact ⟨0, ⟨Nat.zero_le _, Nat.zero_le _⟩, rfl, fun j hj => absurd hj (Nat.not_lt_zero _)⟩
    case round =>
      obtain ⟨i, ⟨hi, hi2⟩, rfl, HR⟩ := hrel
      by_cases hlt : i < n ∧ i < n2
      · obtain ⟨hlt, hlt2⟩ := hlt
        obtain ⟨b, o, b2, o2, rfl, rfl, x1, x2⟩ := HC.out i hlt hlt2
        cases hb : l.getD i false with
        | true =>
          cases hb2 : m.getD i false with
          | true =>
            have HT : Hid (r = true) := HY.out i hlt hlt2 hb hb2
            rw [hb] at x1
            rw [hb2] at x2
            clear HC HY HN hb hb2 HR
            go_wp2
            go_ret
            exact ⟨by rw [HT.out]; rfl, rfl⟩
          | false =>
            have HS : Hid (∀ j, j < i + 1 → l.getD j false = true → m.getD j false = true → False) := fun j hj q1 q2 => by
              by_cases e : j = i
              · subst e; rw [hb2] at q2; cases q2
              · exact HR.out j (by omega) q1 q2
            rw [hb] at x1
            rw [hb2] at x2
            clear HC HY HN hb hb2 HR
            go_wp2
            go_round
            case rel => exact ⟨i + 1, ⟨by omega, by omega⟩, by go_num, HS⟩
            case measure => simp [intOf]; omega
        | false =>
          have HS : Hid (∀ j, j < i + 1 → l.getD j false = true → m.getD j false = true → False) := fun j hj q1 q2 => by
            by_cases e : j = i
            · subst e; rw [hb] at q1; cases q1
            · exact HR.out j (by omega) q1 q2
          rw [hb] at x1
          clear HC HY HN hb HR
          go_wp2
          go_round
          case rel => exact ⟨i + 1, ⟨by omega, by omega⟩, by go_num, HS⟩
          case measure => simp [intOf]; omega
      · have HF : Hid (r = false) := HN.out fun k q1 q2 q3 q4 => HR.out k (by omega) q3 q4
        first
          | (have h9 : ¬ i < n2 := by omega
             have h8 : i < n := by omega
             clear HC HY HN HR hlt
             go_wp2
             go_ret
             exact ⟨by rw [HF.out]; rfl, rfl⟩)
          | (have h9 : ¬ i < n := by omega
             clear HC HY HN HR hlt
             go_wp2
             go_ret
             exact ⟨by rw [HF.out]; rfl, rfl⟩)
set_option maxRecDepth 100000 in
set_option maxHeartbeats 400000 in
theorem RBoth_any (l m : List Bool) (a a2 : Option Addr) (c c2 : Nat) (w : World) (hl : BlV w a c l) (hm : BlV w a2 c2 m) : Calls Try.prog 16 #[.slice a l.length c, .slice a2 m.length c2] w fun e w' => e = .returned (.bool (bothM l m)) ∧ w' = w := by
  have h1 := hl.cap1
  have h2 := hl.cap2
  have h3 := hm.cap1
  have h4 := hm.cap2
  have HC : Hid (∀ i, i < l.length → i < m.length → ∃ b o b2 o2, a = some ⟨b, o, none⟩ ∧ a2 = some ⟨b2, o2, none⟩ ∧ w.cell? ⟨b, o + i, none⟩ = some (.bool (l.getD i false)) ∧ w.cell? ⟨b2, o2 + i, none⟩ = some (.bool (m.getD i false))) := fun i hi hi2 => by
    obtain ⟨b, o, q1, q2, _⟩ := hl.at_ hi
    obtain ⟨b2, o2, r1, r2, _⟩ := hm.at_ hi2
    exact ⟨b, o, b2, o2, q1, r1, q2, r2⟩
  have HY : Hid (∀ k, k < l.length → k < m.length → l.getD k false = true → m.getD k false = true → bothM l m = true) := fun k q1 q2 q3 q4 => both_yes q1 q2 q3 q4
  have HN : Hid ((∀ k, k < l.length → k < m.length → l.getD k false = true → m.getD k false = true → False) → bothM l m = false) := both_none
  generalize bothM l m = r at *
  clear hl hm
  generalize l.length = n at *
  generalize m.length = n2 at *
  by_cases hmin : n2 < n
  all_goals
    go_enter Try.func16, Try.ntmps16
    go_wp2
    go_loop [5] (fun y => ∃ i : Nat, (i ≤ n ∧ i ≤ n2) ∧ y = .int .i64 i ∧ Hid (∀ j, j < i → l.getD j false = true → m.getD j false = true → False)) (fun y => n - (intOf y).toNat)
    case atStart => exact ⟨0, ⟨Nat.zero_le _, Nat.zero_le _⟩, rfl, fun j hj => absurd hj (Nat.not_lt_zero _)⟩
    case round =>
      obtain ⟨i, ⟨hi, hi2⟩, rfl, HR⟩ := hrel
      by_cases hlt : i < n ∧ i < n2
      · obtain ⟨hlt, hlt2⟩ := hlt
        obtain ⟨b, o, b2, o2, rfl, rfl, x1, x2⟩ := HC.out i hlt hlt2
        cases hb : l.getD i false with
        | true =>
          cases hb2 : m.getD i false with
          | true =>
            have HT : Hid (r = true) := HY.out i hlt hlt2 hb hb2
            rw [hb] at x1
            rw [hb2] at x2
            clear HC HY HN hb hb2 HR
            go_wp2
            go_ret
            exact ⟨by rw [HT.out]; rfl, rfl⟩
          | false =>
            have HS : Hid (∀ j, j < i + 1 → l.getD j false = true → m.getD j false = true → False) := fun j hj q1 q2 => by
              by_cases e : j = i
              · subst e; rw [hb2] at q2; cases q2
              · exact HR.out j (by omega) q1 q2
            rw [hb] at x1
            rw [hb2] at x2
            clear HC HY HN hb hb2 HR
            go_wp2
            go_round
            case rel => exact ⟨i + 1, ⟨by omega, by omega⟩, by go_num, HS⟩
            case measure => simp [intOf]; omega
        | false =>
          have HS : Hid (∀ j, j < i + 1 → l.getD j false = true → m.getD j false = true → False) := fun j hj q1 q2 => by
            by_cases e : j = i
            · subst e; rw [hb] at q1; cases q1
            · exact HR.out j (by omega) q1 q2
          rw [hb] at x1
          clear HC HY HN hb HR
          go_wp2
          go_round
          case rel => exact ⟨i + 1, ⟨by omega, by omega⟩, by go_num, HS⟩
          case measure => simp [intOf]; omega
      · have HF : Hid (r = false) := HN.out fun k q1 q2 q3 q4 => HR.out k (by omega) q3 q4
        first
          | (have h9 : ¬ i < n2 := by omega
             have h8 : i < n := by omega
             clear HC HY HN HR hlt
             go_wp2
             go_ret
             exact ⟨by rw [HF.out]; rfl, rfl⟩)
          | (have h9 : ¬ i < n := by omega
             clear HC HY HN HR hlt
             go_wp2
             go_ret
             exact ⟨by rw [HF.out]; rfl, rfl⟩)
end Go.Proofs.Ythjbnhdikoljdaa
