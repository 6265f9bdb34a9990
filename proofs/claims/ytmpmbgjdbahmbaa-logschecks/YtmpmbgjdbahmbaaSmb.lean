/-
  The document's Check: its contract.
-/
import Derived.Test.YtmpmbgjdbahmbaaSma
namespace Go.Proofs.Ytmpmbgjdbahmbaa
open Go.RowKit
set_option linter.unusedVariables false

set_option maxRecDepth 100000 in
set_option maxHeartbeats 800000 in
theorem RCheck_any (P : Nat → Prop) (b bt : Int) (a : Option Addr) (c : Nat) (es : List En) (w : World) (hb : InR b) (hbt : InR bt) (hE : EnsV w P a c es) : Calls Try.prog 12 #[.agg #[.int .i64 b, .int .i64 bt, .slice a es.length c]] w fun e w' => e = .returned (.int .i64 (chkM b bt es)) ∧ Below w.heap.size w w' := by
  have h1 := hE.cap1
  have h2 := hE.cap2
  obtain ⟨b1, b2⟩ := hb
  obtain ⟨t1, t2⟩ := hbt
  have HB0 : Hid (∀ o, Below w.heap.size w (w.alloc o)) := fun o => (Below.refl _ _).alloc (Nat.le_refl _) o
  by_cases i1 : 0 ≤ b ∧ b ≤ 1099511627776
  · by_cases i2 : 0 ≤ bt ∧ bt ≤ 1099511627776
    · by_cases h3 : b = 0 ↔ bt = 0
      · have HC : Hid (∀ i, i < es.length → ∃ g o, a = some ⟨g, o, none⟩ ∧ w.cell? ⟨g, o + i * 2, none⟩ = some (.int .i64 (tOf es i)) ∧ InR (tOf es i) ∧ g < w.heap.size) := fun i hi => by
          obtain ⟨g, o, ka, kc, q1, q2, q3, q4, q5, q6, _⟩ := hE.at_ hi
          exact ⟨g, o, q1, q2, q5, q6⟩
        have HY : Hid ((∀ i, i < es.length → good bt es i) → chkM b bt es = 0) := fun q => chk_ok (ix_yes i1) (ix_yes i2) h3 q
        have HN : Hid (∀ i, i < es.length → ¬ good bt es i → chkM b bt es = 1) := fun i q1 q2 => chk_at q1 q2
        generalize chkM b bt es = r at *
        generalize es.length = n at *
        have hz : (b = 0 ∧ bt = 0) ∨ (¬ b = 0 ∧ ¬ bt = 0) := by
          by_cases q : b = 0
          · exact .inl ⟨q, h3.1 q⟩
          · exact .inr ⟨q, fun e => q (h3.2 e)⟩
        obtain ⟨i1, i1'⟩ := i1
        obtain ⟨i2, i2'⟩ := i2
        clear h3 hE
        have d1 : decide (b < 0) = false := decide_eq_false (by omega)
        have d2 : decide (1099511627776 < b) = false := decide_eq_false (by omega)
        have d3 : decide (bt < 0) = false := decide_eq_false (by omega)
        have d4 : decide (1099511627776 < bt) = false := decide_eq_false (by omega)
        have key : (b = 0 ∧ bt = 0) ∨ ((b == 0) = false ∧ (b != 0) = true ∧ (bt == 0) = false ∧ (bt != 0) = true) := by
          rcases hz with hz | ⟨z1, z2⟩
          · exact .inl hz
          · exact .inr ⟨beq_eq_false_iff_ne.2 z1, by simp [z1], beq_eq_false_iff_ne.2 z2, by simp [z2]⟩
        clear hz
        rcases key with ⟨rfl, rfl⟩ | ⟨z1, z2, z3, z4⟩
        · go_enter Try.func12, Try.ntmps12
          go_wp2
          go_loopw [4] (fun y wr => ∃ (i : Nat), i ≤ n ∧ y = .int .i64 i ∧ w.alloc (.cells #[.int .i64 0, .int .i64 0, .slice a n c] 24) = wr ∧ Hid (∀ j, j < i → good 0 es j)) (fun y _ => n - (intOf y).toNat)
          case atStart => exact ⟨0, Nat.zero_le _, rfl, rfl, fun j hj => absurd hj (Nat.not_lt_zero _)⟩
          case round =>
            obtain ⟨i, hi, rfl, rfl, HR⟩ := hrel
            by_cases hlt : i < n
            · cases i with
              | zero =>
                obtain ⟨g, o, rfl, x1, ⟨x3, x4⟩, x5⟩ := HC.out (0) hlt
                rw [Nat.zero_mul, Nat.add_zero] at x1
                have hne : g ≠ w.heap.size := by omega
                by_cases k1 : tOf es (0) < 1
                · have HF : Hid (r = 1) := HN.out _ hlt fun q => by obtain ⟨g1, g2, g3, g4⟩ := q; omega
                  clear HC HY HN HR
                  generalize tOf es 0 = t at *
                  go_wp2
                  go_ret
                  exact ⟨by rw [HF.out]; rfl, HB0.out _⟩
                have d5 := decide_eq_false k1
                by_cases k2 : 1099511627776 < tOf es (0)
                · have HF : Hid (r = 1) := HN.out _ hlt fun q => by obtain ⟨g1, g2, g3, g4⟩ := q; omega
                  clear HC HY HN HR
                  generalize tOf es 0 = t at *
                  go_wp2
                  go_ret
                  exact ⟨by rw [HF.out]; rfl, HB0.out _⟩
                have d6 := decide_eq_false k2
                by_cases k3 : tOf es (0) < 0
                · exact absurd k3 (by omega)
                have d7 := decide_eq_false k3
                have HQ : Hid (∀ k, k < 0 + 1 → good 0 es k) := fun k hk => by
                  obtain rfl : k = 0 := by omega
                  exact ⟨by omega, by omega, by omega, fun q => absurd q (by omega)⟩
                clear HC HY HN HR
                generalize tOf es 0 = t at *
                go_wp2
                go_roundw
                case rel => exact ⟨0 + 1, by omega, by go_num, by first | trivial | rfl, HQ.out⟩
                case measure => simp [intOf]; omega
              | succ j =>
                obtain ⟨g, o, rfl, x1, ⟨x3, x4⟩, x5⟩ := HC.out (j + 1) hlt
                obtain ⟨g2, o2, y0, y1, ⟨y3, y4⟩, y5⟩ := HC.out j (by omega)
                cases y0
                have hne : g ≠ w.heap.size := by omega
                by_cases k1 : tOf es (j + 1) < 1
                · have HF : Hid (r = 1) := HN.out _ hlt fun q => by obtain ⟨g1, g2, g3, g4⟩ := q; omega
                  clear HC HY HN HR
                  generalize tOf es j + 1 = t at *
                  go_wp2
                  go_ret
                  exact ⟨by rw [HF.out]; rfl, HB0.out _⟩
                have d5 := decide_eq_false k1
                by_cases k2 : 1099511627776 < tOf es (j + 1)
                · have HF : Hid (r = 1) := HN.out _ hlt fun q => by obtain ⟨g1, g2, g3, g4⟩ := q; omega
                  clear HC HY HN HR
                  generalize tOf es j + 1 = t at *
                  go_wp2
                  go_ret
                  exact ⟨by rw [HF.out]; rfl, HB0.out _⟩
                have d6 := decide_eq_false k2
                by_cases k3 : tOf es (j + 1) < 0
                · exact absurd k3 (by omega)
                have d7 := decide_eq_false k3
                by_cases k4 : tOf es (j + 1) < tOf es j
                · have HF : Hid (r = 1) := HN.out _ hlt fun q => by obtain ⟨g1, g2, g3, g4⟩ := q; have := g4 (by omega); rw [Nat.add_sub_cancel] at this; omega
                  clear HC HY HN HR
                  generalize tOf es (j + 1) = t at *
                  generalize tOf es j = t0 at *
                  go_wp2
                  go_ret
                  exact ⟨by rw [HF.out]; rfl, HB0.out _⟩
                have d8 := decide_eq_false k4
                have HQ : Hid (∀ k, k < j + 1 + 1 → good 0 es k) := fun k hk => by
                  by_cases e : k = j + 1
                  · subst e; exact ⟨by omega, by omega, by omega, fun _ => by rw [Nat.add_sub_cancel]; omega⟩
                  · exact HR.out k (by omega)
                clear HC HY HN HR
                generalize tOf es (j + 1) = t at *
                generalize tOf es j = t0 at *
                go_wp2
                go_roundw
                case rel => exact ⟨j + 1 + 1, by omega, by go_num, by first | trivial | rfl, HQ.out⟩
                case measure => simp [intOf]; omega
            · have HT : Hid (r = 0) := HY.out fun j hj => HR.out j (by omega)
              clear HC HY HN HR
              go_wp2
              go_ret
              exact ⟨by rw [HT.out]; rfl, HB0.out _⟩
        · go_enter Try.func12, Try.ntmps12
          go_wp2
          go_loopw [4] (fun y wr => ∃ (i : Nat), i ≤ n ∧ y = .int .i64 i ∧ w.alloc (.cells #[.int .i64 b, .int .i64 bt, .slice a n c] 24) = wr ∧ Hid (∀ j, j < i → good bt es j)) (fun y _ => n - (intOf y).toNat)
          case atStart => exact ⟨0, Nat.zero_le _, rfl, rfl, fun j hj => absurd hj (Nat.not_lt_zero _)⟩
          case round =>
            obtain ⟨i, hi, rfl, rfl, HR⟩ := hrel
            by_cases hlt : i < n
            · cases i with
              | zero =>
                obtain ⟨g, o, rfl, x1, ⟨x3, x4⟩, x5⟩ := HC.out (0) hlt
                rw [Nat.zero_mul, Nat.add_zero] at x1
                have hne : g ≠ w.heap.size := by omega
                by_cases k1 : tOf es (0) < 1
                · have HF : Hid (r = 1) := HN.out _ hlt fun q => by obtain ⟨g1, g2, g3, g4⟩ := q; omega
                  clear HC HY HN HR
                  generalize tOf es 0 = t at *
                  go_wp2
                  go_ret
                  exact ⟨by rw [HF.out]; rfl, HB0.out _⟩
                have d5 := decide_eq_false k1
                by_cases k2 : 1099511627776 < tOf es (0)
                · have HF : Hid (r = 1) := HN.out _ hlt fun q => by obtain ⟨g1, g2, g3, g4⟩ := q; omega
                  clear HC HY HN HR
                  generalize tOf es 0 = t at *
                  go_wp2
                  go_ret
                  exact ⟨by rw [HF.out]; rfl, HB0.out _⟩
                have d6 := decide_eq_false k2
                by_cases k3 : tOf es (0) < bt
                · have HF : Hid (r = 1) := HN.out _ hlt fun q => by obtain ⟨g1, g2, g3, g4⟩ := q; omega
                  clear HC HY HN HR
                  generalize tOf es 0 = t at *
                  go_wp2
                  go_ret
                  exact ⟨by rw [HF.out]; rfl, HB0.out _⟩
                have d7 := decide_eq_false k3
                have HQ : Hid (∀ k, k < 0 + 1 → good bt es k) := fun k hk => by
                  obtain rfl : k = 0 := by omega
                  exact ⟨by omega, by omega, by omega, fun q => absurd q (by omega)⟩
                clear HC HY HN HR
                generalize tOf es 0 = t at *
                go_wp2
                go_roundw
                case rel => exact ⟨0 + 1, by omega, by go_num, by first | trivial | rfl, HQ.out⟩
                case measure => simp [intOf]; omega
              | succ j =>
                obtain ⟨g, o, rfl, x1, ⟨x3, x4⟩, x5⟩ := HC.out (j + 1) hlt
                obtain ⟨g2, o2, y0, y1, ⟨y3, y4⟩, y5⟩ := HC.out j (by omega)
                cases y0
                have hne : g ≠ w.heap.size := by omega
                by_cases k1 : tOf es (j + 1) < 1
                · have HF : Hid (r = 1) := HN.out _ hlt fun q => by obtain ⟨g1, g2, g3, g4⟩ := q; omega
                  clear HC HY HN HR
                  generalize tOf es j + 1 = t at *
                  go_wp2
                  go_ret
                  exact ⟨by rw [HF.out]; rfl, HB0.out _⟩
                have d5 := decide_eq_false k1
                by_cases k2 : 1099511627776 < tOf es (j + 1)
                · have HF : Hid (r = 1) := HN.out _ hlt fun q => by obtain ⟨g1, g2, g3, g4⟩ := q; omega
                  clear HC HY HN HR
                  generalize tOf es j + 1 = t at *
                  go_wp2
                  go_ret
                  exact ⟨by rw [HF.out]; rfl, HB0.out _⟩
                have d6 := decide_eq_false k2
                by_cases k3 : tOf es (j + 1) < bt
                · have HF : Hid (r = 1) := HN.out _ hlt fun q => by obtain ⟨g1, g2, g3, g4⟩ := q; omega
                  clear HC HY HN HR
                  generalize tOf es j + 1 = t at *
                  go_wp2
                  go_ret
                  exact ⟨by rw [HF.out]; rfl, HB0.out _⟩
                have d7 := decide_eq_false k3
                by_cases k4 : tOf es (j + 1) < tOf es j
                · have HF : Hid (r = 1) := HN.out _ hlt fun q => by obtain ⟨g1, g2, g3, g4⟩ := q; have := g4 (by omega); rw [Nat.add_sub_cancel] at this; omega
                  clear HC HY HN HR
                  generalize tOf es (j + 1) = t at *
                  generalize tOf es j = t0 at *
                  go_wp2
                  go_ret
                  exact ⟨by rw [HF.out]; rfl, HB0.out _⟩
                have d8 := decide_eq_false k4
                have HQ : Hid (∀ k, k < j + 1 + 1 → good bt es k) := fun k hk => by
                  by_cases e : k = j + 1
                  · subst e; exact ⟨by omega, by omega, by omega, fun _ => by rw [Nat.add_sub_cancel]; omega⟩
                  · exact HR.out k (by omega)
                clear HC HY HN HR
                generalize tOf es (j + 1) = t at *
                generalize tOf es j = t0 at *
                go_wp2
                go_roundw
                case rel => exact ⟨j + 1 + 1, by omega, by go_num, by first | trivial | rfl, HQ.out⟩
                case measure => simp [intOf]; omega
            · have HT : Hid (r = 0) := HY.out fun j hj => HR.out j (by omega)
              clear HC HY HN HR
              go_wp2
              go_ret
              exact ⟨by rw [HT.out]; rfl, HB0.out _⟩
      · rw [chk_head (fun q => h3 q.2.2.2.2)]
        have hz : (b = 0 ∧ ¬ bt = 0) ∨ (¬ b = 0 ∧ bt = 0) := by
          by_cases q : b = 0
          · by_cases q2 : bt = 0
            · exact absurd ⟨fun _ => q2, fun _ => q⟩ h3
            · exact .inl ⟨q, q2⟩
          · by_cases q2 : bt = 0
            · exact .inr ⟨q, q2⟩
            · exact absurd ⟨fun e => absurd e q, fun e => absurd e q2⟩ h3
        generalize es.length = n at *
        obtain ⟨i1, i1'⟩ := i1
        obtain ⟨i2, i2'⟩ := i2
        clear h3
        rcases hz with ⟨z1, z2⟩ | ⟨z1, z2⟩
        all_goals (
          go_enter Try.func12, Try.ntmps12
          go_wp2
          go_ret
          exact ⟨rfl, HB0.out _⟩)
    · rw [chk_head (fun q => i2 ⟨q.2.2.1, q.2.2.2.1⟩)]
      generalize es.length = n at *
      obtain ⟨i1, i1'⟩ := i1
      have hz : bt < 0 ∨ (¬ bt < 0 ∧ 1099511627776 < bt) := by omega
      clear i2
      rcases hz with z1 | ⟨z1, z2⟩
      all_goals (
        go_enter Try.func12, Try.ntmps12
        go_wp2
        go_ret
        exact ⟨rfl, HB0.out _⟩)
  · rw [chk_head (fun q => i1 ⟨q.1, q.2.1⟩)]
    generalize es.length = n at *
    have hz : b < 0 ∨ (¬ b < 0 ∧ 1099511627776 < b) := by omega
    clear i1
    rcases hz with z1 | ⟨z1, z2⟩
    all_goals (
      go_enter Try.func12, Try.ntmps12
      go_wp2
      go_ret
      exact ⟨rfl, HB0.out _⟩)
end Go.Proofs.Ytmpmbgjdbahmbaa
