/-
  The program's index, meant, preliminary: contracts.
-/
import Derived.Test.YtfmfphfckaiejaaJah
import Derived.Test.YtfmfphfckaiejaaJai
import Derived.Test.YtfmfphfckaiejaaJaf
namespace Go.Proofs.Ytfmfphfckaiejaa
section
open Go.RowKit
set_option linter.unusedVariables false


theorem index_yes (n : Int) (w : World) (h1 : 0 ≤ n) (h2 : n ≤ 1099511627776) : Calls Try.prog 27 #[.int .i64 n] w fun e w' => e = .returned (.bool true) ∧ w' = w := by
  go_enter Try.func27, Try.ntmps27
  go_wp2
  go_ret
  exact ⟨rfl, rfl⟩
theorem index_no (n : Int) (w : World) (h : ¬ (0 ≤ n ∧ n ≤ 1099511627776)) : Calls Try.prog 27 #[.int .i64 n] w fun e w' => e = .returned (.bool false) ∧ w' = w := by
  by_cases h1 : 0 ≤ n
  · have h2 : ¬ n ≤ 1099511627776 := fun q => h ⟨h1, q⟩
    have d2 : decide (n ≤ 1099511627776) = false := decide_eq_false h2
    clear h
    go_enter Try.func27, Try.ntmps27
    go_wp2
    go_ret
    exact ⟨rfl, rfl⟩
  · have d2 : decide (0 ≤ n) = false := decide_eq_false h1
    clear h
    go_enter Try.func27, Try.ntmps27
    go_wp2
    go_ret
    exact ⟨rfl, rfl⟩
end
section
open Go.RowKit
set_option linter.unusedVariables false
set_option linter.unusedSimpArgs false


theorem getD_ext {α : Type} {z : α} {l m : List α} (hl : l.length = m.length) (h : ∀ j, j < l.length → l.getD j z = m.getD j z) : l = m := List.ext_getElem hl fun j h1 h2 => by
  have := h j h1
  rw [List.getD_eq_getElem?_getD, List.getD_eq_getElem?_getD, List.getElem?_eq_getElem h1, List.getElem?_eq_getElem h2] at this
  exact this
set_option maxRecDepth 100000 in
set_option maxHeartbeats 2000000 in
theorem EqlI_any {a a2 : Option Addr} {c c2 : Nat} {l m : List Int} {w : World} (hv : IlV w a c l) (hu : IlV w a2 c2 m) : Calls Try.prog 41 #[.slice a l.length c, .slice a2 m.length c2] w fun e w' => e = .returned (.bool (decide (l = m))) ∧ Below w.heap.size w w' := by
  have h1 := hv.cap1
  have h2 := hv.cap2
  have h3 := hu.cap1
  have h4 := hu.cap2
  by_cases hl : l.length = m.length
  · have HY : Hid ((∀ j, j < l.length → l.getD j 0 = m.getD j 0) → decide (l = m) = true) := fun q => decide_eq_true (getD_ext hl q)
    have HN : Hid (∀ i, i < l.length → ¬ l.getD i 0 = m.getD i 0 → decide (l = m) = false) := fun i hi q => decide_eq_false fun e => q (by rw [e])
    have HCl : Hid (∀ wr i, Below w.heap.size w wr → i < l.length → ∃ g o g2 o2, a = some ⟨g, o, none⟩ ∧ a2 = some ⟨g2, o2, none⟩ ∧ wr.cell? ⟨g, o + i, none⟩ = some (.int .i64 (l.getD i 0)) ∧ wr.cell? ⟨g2, o2 + i, none⟩ = some (.int .i64 (m.getD i 0)) ∧ g < wr.heap.size ∧ g2 < wr.heap.size) := fun wr i q hi => by
      obtain ⟨g, o, q1, q2, q3⟩ := (hv.below q).at_ hi
      obtain ⟨g2, o2, r1, r2, r3⟩ := (hu.below q).at_ (show i < m.length by omega)
      exact ⟨g, o, g2, o2, q1, r1, q2, r2, q3, r3⟩
    rw [← hl] at h3 ⊢
    generalize decide (l = m) = r at *
    generalize l.length = n at *
    clear hl hv hu
    go_enter Try.func41, Try.ntmps41
    go_wp2
    go_loopw [13] (fun x wr => ∃ (i : Nat), i ≤ n ∧ x = .int .i64 i ∧ Hid (Below w.heap.size w wr ∧ ∀ j, j < i → l.getD j 0 = m.getD j 0)) (fun x _ => n - (intOf x).toNat)
    case atStart => exact ⟨0, Nat.zero_le _, rfl, Below.refl _ _, fun j hj => absurd hj (Nat.not_lt_zero _)⟩
    case round =>
      obtain ⟨i, hi, rfl, HR⟩ := hrel
      have HB : Hid (Below w.heap.size w wr) := HR.out.1
      have HW : Hid (∀ k, Below w.heap.size w (wr.drewN k)) := fun k => below_drewN HB.out k
      by_cases hlt : i < n
      · obtain ⟨g, o, g2, o2, rfl, rfl, x1, x2, x5, x6⟩ := HCl.out wr i HB.out hlt
        by_cases e1 : l.getD i 0 = m.getD i 0
        · have HQ : Hid (∀ j, j < i + 1 → l.getD j 0 = m.getD j 0) := fun j hj => by
            by_cases e : j = i
            · subst e; exact e1
            · exact HR.out.2 j (by omega)
          rw [e1] at x1
          clear HN HY HCl HR e1
          generalize (m.getD i 0) = t at x1 x2
          go_wp2
          go_quiet (fail)
          go_wp2
          go_roundw
          case rel => exact ⟨i + 1, by omega, by go_num, HW.out _, HQ.out⟩
          case measure => simp [intOf]; omega
        · have HF : Hid (r = false) := HN.out i hlt e1
          have e3 : (l.getD i 0 == m.getD i 0) = false := beq_eq_false_iff_ne.2 e1
          have e4 : (l.getD i 0 != m.getD i 0) = true := by rw [bne, e3]; rfl
          clear HN HY HCl HR
          generalize (l.getD i 0) = t0 at *
          generalize (m.getD i 0) = t at *
          go_wp2
          go_quiet (fail)
          go_wp2
          go_ret
          exact ⟨by rw [HF.out]; rfl, HW.out _⟩
      · have HT : Hid (r = true) := HY.out fun j hj => HR.out.2 j (by omega)
        have hni : decide (i < n) = false := decide_eq_false hlt
        go_wp2
        go_ret
        exact ⟨by rw [HT.out]; rfl, HB.out⟩
  · have HF : Hid (decide (l = m) = false) := decide_eq_false fun e => hl (by rw [e])
    generalize decide (l = m) = r at *
    have e3 : (((l.length : Nat) : Int) == (m.length : Nat)) = false := beq_eq_false_iff_ne.2 (by omega)
    have e4 : (((l.length : Nat) : Int) != (m.length : Nat)) = true := by rw [bne, e3]; rfl
    clear hv hu
    generalize l.length = n at *
    generalize m.length = n2 at *
    go_enter Try.func41, Try.ntmps41
    go_wp2
    go_ret
    exact ⟨by rw [HF.out]; rfl, Below.refl _ _⟩
set_option maxRecDepth 100000 in
set_option maxHeartbeats 2000000 in
theorem EqlB_any {a a2 : Option Addr} {c c2 : Nat} {l m : List Bool} {w : World} (hv : BlV w a c l) (hu : BlV w a2 c2 m) : Calls Try.prog 40 #[.slice a l.length c, .slice a2 m.length c2] w fun e w' => e = .returned (.bool (decide (l = m))) ∧ Below w.heap.size w w' := by
  have h1 := hv.cap1
  have h2 := hv.cap2
  have h3 := hu.cap1
  have h4 := hu.cap2
  by_cases hl : l.length = m.length
  · have HY : Hid ((∀ j, j < l.length → l.getD j false = m.getD j false) → decide (l = m) = true) := fun q => decide_eq_true (getD_ext hl q)
    have HN : Hid (∀ i, i < l.length → ¬ l.getD i false = m.getD i false → decide (l = m) = false) := fun i hi q => decide_eq_false fun e => q (by rw [e])
    have HCl : Hid (∀ wr i, Below w.heap.size w wr → i < l.length → ∃ g o g2 o2, a = some ⟨g, o, none⟩ ∧ a2 = some ⟨g2, o2, none⟩ ∧ wr.cell? ⟨g, o + i, none⟩ = some (.bool (l.getD i false)) ∧ wr.cell? ⟨g2, o2 + i, none⟩ = some (.bool (m.getD i false)) ∧ g < wr.heap.size ∧ g2 < wr.heap.size) := fun wr i q hi => by
      obtain ⟨g, o, q1, q2, q3⟩ := (hv.below q).at_ hi
      obtain ⟨g2, o2, r1, r2, r3⟩ := (hu.below q).at_ (show i < m.length by omega)
      exact ⟨g, o, g2, o2, q1, r1, q2, r2, q3, r3⟩
    rw [← hl] at h3 ⊢
    generalize decide (l = m) = r at *
    generalize l.length = n at *
    clear hl hv hu
    go_enter Try.func40, Try.ntmps40
    go_wp2
    go_loopw [13] (fun x wr => ∃ (i : Nat), i ≤ n ∧ x = .int .i64 i ∧ Hid (Below w.heap.size w wr ∧ ∀ j, j < i → l.getD j false = m.getD j false)) (fun x _ => n - (intOf x).toNat)
    case atStart => exact ⟨0, Nat.zero_le _, rfl, Below.refl _ _, fun j hj => absurd hj (Nat.not_lt_zero _)⟩
    case round =>
      obtain ⟨i, hi, rfl, HR⟩ := hrel
      have HB : Hid (Below w.heap.size w wr) := HR.out.1
      have HW : Hid (∀ k, Below w.heap.size w (wr.drewN k)) := fun k => below_drewN HB.out k
      by_cases hlt : i < n
      · obtain ⟨g, o, g2, o2, rfl, rfl, x1, x2, x5, x6⟩ := HCl.out wr i HB.out hlt
        by_cases e1 : l.getD i false = m.getD i false
        · have HQ : Hid (∀ j, j < i + 1 → l.getD j false = m.getD j false) := fun j hj => by
            by_cases e : j = i
            · subst e; exact e1
            · exact HR.out.2 j (by omega)
          rw [e1] at x1
          clear HN HY HCl HR e1
          generalize (m.getD i false) = t at x1 x2
          go_wp2
          go_quiet (fail)
          go_wp2
          go_roundw
          case rel => exact ⟨i + 1, by omega, by go_num, HW.out _, HQ.out⟩
          case measure => simp [intOf]; omega
        · have HF : Hid (r = false) := HN.out i hlt e1
          have e3 : (l.getD i false == m.getD i false) = false := beq_eq_false_iff_ne.2 e1
          have e4 : (l.getD i false != m.getD i false) = true := by rw [bne, e3]; rfl
          clear HN HY HCl HR
          generalize (l.getD i false) = t0 at *
          generalize (m.getD i false) = t at *
          go_wp2
          go_quiet (fail)
          go_wp2
          go_ret
          exact ⟨by rw [HF.out]; rfl, HW.out _⟩
      · have HT : Hid (r = true) := HY.out fun j hj => HR.out.2 j (by omega)
        have hni : decide (i < n) = false := decide_eq_false hlt
        go_wp2
        go_ret
        exact ⟨by rw [HT.out]; rfl, HB.out⟩
  · have HF : Hid (decide (l = m) = false) := decide_eq_false fun e => hl (by rw [e])
    generalize decide (l = m) = r at *
    have e3 : (((l.length : Nat) : Int) == (m.length : Nat)) = false := beq_eq_false_iff_ne.2 (by omega)
    have e4 : (((l.length : Nat) : Int) != (m.length : Nat)) = true := by rw [bne, e3]; rfl
    clear hv hu
    generalize l.length = n at *
    generalize m.length = n2 at *
    go_enter Try.func40, Try.ntmps40
    go_wp2
    go_ret
    exact ⟨by rw [HF.out]; rfl, Below.refl _ _⟩
end
section
open Go.RowKit
set_option linter.unusedVariables false
set_option linter.unusedSimpArgs false


theorem eq9 (d : Nat) (a0 a1 a2 a3 a4 a5 a6 a7 a8 b0 b1 b2 b3 b4 b5 b6 b7 b8 : Int) (w : World) : (Op.equalIn (d + 2) 73 (.agg #[.int .i64 a0, .int .i64 a1, .int .i64 a2, .int .i64 a3, .int .i64 a4, .int .i64 a5, .int .i64 a6, .int .i64 a7, .int .i64 a8]) (.agg #[.int .i64 b0, .int .i64 b1, .int .i64 b2, .int .i64 b3, .int .i64 b4, .int .i64 b5, .int .i64 b6, .int .i64 b7, .int .i64 b8])).run Try.prog w = .ok (decide (a0 = b0 ∧ a1 = b1 ∧ a2 = b2 ∧ a3 = b3 ∧ a4 = b4 ∧ a5 = b5 ∧ a6 = b6 ∧ a7 = b7 ∧ a8 = b8)) w := by
  have hsz : (sizeOf 3).run Try.prog w = .ok 1 w := by simp [Try.sizeOf3]
  rw [Op.equalIn]
  simp only [Sem.run_bind, run_underlying Try.underlying73, Result.andThen_ok, hsz, Std.Legacy.Range.forIn_eq_forIn_range', Std.Legacy.Range.size, Nat.sub_zero, Nat.add_sub_cancel, Nat.div_one]
  have pe : ∀ (x y : Int), (Op.equalIn (d + 1) 3 (.int .i64 x) (.int .i64 y)).run Try.prog w = .ok (x == y) w := fun x y => run_equalIn_int w d 3 .i64 .i64 x y Try.underlying3
  have pa0 : (part 3 #[.int .i64 a0, .int .i64 a1, .int .i64 a2, .int .i64 a3, .int .i64 a4, .int .i64 a5, .int .i64 a6, .int .i64 a7, .int .i64 a8] (0 * 1)).run Try.prog w = .ok (.int .i64 a0) w := by simp [part, isAgg, run_underlying Try.underlying3]
  have pb0 : (part 3 #[.int .i64 b0, .int .i64 b1, .int .i64 b2, .int .i64 b3, .int .i64 b4, .int .i64 b5, .int .i64 b6, .int .i64 b7, .int .i64 b8] (0 * 1)).run Try.prog w = .ok (.int .i64 b0) w := by simp [part, isAgg, run_underlying Try.underlying3]
  have pa1 : (part 3 #[.int .i64 a0, .int .i64 a1, .int .i64 a2, .int .i64 a3, .int .i64 a4, .int .i64 a5, .int .i64 a6, .int .i64 a7, .int .i64 a8] (1 * 1)).run Try.prog w = .ok (.int .i64 a1) w := by simp [part, isAgg, run_underlying Try.underlying3]
  have pb1 : (part 3 #[.int .i64 b0, .int .i64 b1, .int .i64 b2, .int .i64 b3, .int .i64 b4, .int .i64 b5, .int .i64 b6, .int .i64 b7, .int .i64 b8] (1 * 1)).run Try.prog w = .ok (.int .i64 b1) w := by simp [part, isAgg, run_underlying Try.underlying3]
  have pa2 : (part 3 #[.int .i64 a0, .int .i64 a1, .int .i64 a2, .int .i64 a3, .int .i64 a4, .int .i64 a5, .int .i64 a6, .int .i64 a7, .int .i64 a8] (2 * 1)).run Try.prog w = .ok (.int .i64 a2) w := by simp [part, isAgg, run_underlying Try.underlying3]
  have pb2 : (part 3 #[.int .i64 b0, .int .i64 b1, .int .i64 b2, .int .i64 b3, .int .i64 b4, .int .i64 b5, .int .i64 b6, .int .i64 b7, .int .i64 b8] (2 * 1)).run Try.prog w = .ok (.int .i64 b2) w := by simp [part, isAgg, run_underlying Try.underlying3]
  have pa3 : (part 3 #[.int .i64 a0, .int .i64 a1, .int .i64 a2, .int .i64 a3, .int .i64 a4, .int .i64 a5, .int .i64 a6, .int .i64 a7, .int .i64 a8] (3 * 1)).run Try.prog w = .ok (.int .i64 a3) w := by simp [part, isAgg, run_underlying Try.underlying3]
  have pb3 : (part 3 #[.int .i64 b0, .int .i64 b1, .int .i64 b2, .int .i64 b3, .int .i64 b4, .int .i64 b5, .int .i64 b6, .int .i64 b7, .int .i64 b8] (3 * 1)).run Try.prog w = .ok (.int .i64 b3) w := by simp [part, isAgg, run_underlying Try.underlying3]
  have pa4 : (part 3 #[.int .i64 a0, .int .i64 a1, .int .i64 a2, .int .i64 a3, .int .i64 a4, .int .i64 a5, .int .i64 a6, .int .i64 a7, .int .i64 a8] (4 * 1)).run Try.prog w = .ok (.int .i64 a4) w := by simp [part, isAgg, run_underlying Try.underlying3]
  have pb4 : (part 3 #[.int .i64 b0, .int .i64 b1, .int .i64 b2, .int .i64 b3, .int .i64 b4, .int .i64 b5, .int .i64 b6, .int .i64 b7, .int .i64 b8] (4 * 1)).run Try.prog w = .ok (.int .i64 b4) w := by simp [part, isAgg, run_underlying Try.underlying3]
  have pa5 : (part 3 #[.int .i64 a0, .int .i64 a1, .int .i64 a2, .int .i64 a3, .int .i64 a4, .int .i64 a5, .int .i64 a6, .int .i64 a7, .int .i64 a8] (5 * 1)).run Try.prog w = .ok (.int .i64 a5) w := by simp [part, isAgg, run_underlying Try.underlying3]
  have pb5 : (part 3 #[.int .i64 b0, .int .i64 b1, .int .i64 b2, .int .i64 b3, .int .i64 b4, .int .i64 b5, .int .i64 b6, .int .i64 b7, .int .i64 b8] (5 * 1)).run Try.prog w = .ok (.int .i64 b5) w := by simp [part, isAgg, run_underlying Try.underlying3]
  have pa6 : (part 3 #[.int .i64 a0, .int .i64 a1, .int .i64 a2, .int .i64 a3, .int .i64 a4, .int .i64 a5, .int .i64 a6, .int .i64 a7, .int .i64 a8] (6 * 1)).run Try.prog w = .ok (.int .i64 a6) w := by simp [part, isAgg, run_underlying Try.underlying3]
  have pb6 : (part 3 #[.int .i64 b0, .int .i64 b1, .int .i64 b2, .int .i64 b3, .int .i64 b4, .int .i64 b5, .int .i64 b6, .int .i64 b7, .int .i64 b8] (6 * 1)).run Try.prog w = .ok (.int .i64 b6) w := by simp [part, isAgg, run_underlying Try.underlying3]
  have pa7 : (part 3 #[.int .i64 a0, .int .i64 a1, .int .i64 a2, .int .i64 a3, .int .i64 a4, .int .i64 a5, .int .i64 a6, .int .i64 a7, .int .i64 a8] (7 * 1)).run Try.prog w = .ok (.int .i64 a7) w := by simp [part, isAgg, run_underlying Try.underlying3]
  have pb7 : (part 3 #[.int .i64 b0, .int .i64 b1, .int .i64 b2, .int .i64 b3, .int .i64 b4, .int .i64 b5, .int .i64 b6, .int .i64 b7, .int .i64 b8] (7 * 1)).run Try.prog w = .ok (.int .i64 b7) w := by simp [part, isAgg, run_underlying Try.underlying3]
  have pa8 : (part 3 #[.int .i64 a0, .int .i64 a1, .int .i64 a2, .int .i64 a3, .int .i64 a4, .int .i64 a5, .int .i64 a6, .int .i64 a7, .int .i64 a8] (8 * 1)).run Try.prog w = .ok (.int .i64 a8) w := by simp [part, isAgg, run_underlying Try.underlying3]
  have pb8 : (part 3 #[.int .i64 b0, .int .i64 b1, .int .i64 b2, .int .i64 b3, .int .i64 b4, .int .i64 b5, .int .i64 b6, .int .i64 b7, .int .i64 b8] (8 * 1)).run Try.prog w = .ok (.int .i64 b8) w := by simp [part, isAgg, run_underlying Try.underlying3]
  rw [show List.range' 0 9 1 = [0, 1, 2, 3, 4, 5, 6, 7, 8] from rfl]
  simp only [List.forIn_cons, List.forIn_nil, Sem.run_bind, pa0, pb0, pe, Result.andThen_ok]
  cases h0 : (a0 == b0)
  · have n0 : ¬ a0 = b0 := by simpa using h0
    simp [n0]
  have e0 : a0 = b0 := by simpa using h0
  simp only [Bool.not_true, Bool.false_eq_true, if_false, ite_false, Sem.run_bind, Sem.run_pure, Result.andThen_ok, pe, pa1, pb1]
  cases h1 : (a1 == b1)
  · have n1 : ¬ a1 = b1 := by simpa using h1
    simp [n1]
  have e1 : a1 = b1 := by simpa using h1
  simp only [Bool.not_true, Bool.false_eq_true, if_false, ite_false, Sem.run_bind, Sem.run_pure, Result.andThen_ok, pe, pa2, pb2]
  cases h2 : (a2 == b2)
  · have n2 : ¬ a2 = b2 := by simpa using h2
    simp [n2]
  have e2 : a2 = b2 := by simpa using h2
  simp only [Bool.not_true, Bool.false_eq_true, if_false, ite_false, Sem.run_bind, Sem.run_pure, Result.andThen_ok, pe, pa3, pb3]
  cases h3 : (a3 == b3)
  · have n3 : ¬ a3 = b3 := by simpa using h3
    simp [n3]
  have e3 : a3 = b3 := by simpa using h3
  simp only [Bool.not_true, Bool.false_eq_true, if_false, ite_false, Sem.run_bind, Sem.run_pure, Result.andThen_ok, pe, pa4, pb4]
  cases h4 : (a4 == b4)
  · have n4 : ¬ a4 = b4 := by simpa using h4
    simp [n4]
  have e4 : a4 = b4 := by simpa using h4
  simp only [Bool.not_true, Bool.false_eq_true, if_false, ite_false, Sem.run_bind, Sem.run_pure, Result.andThen_ok, pe, pa5, pb5]
  cases h5 : (a5 == b5)
  · have n5 : ¬ a5 = b5 := by simpa using h5
    simp [n5]
  have e5 : a5 = b5 := by simpa using h5
  simp only [Bool.not_true, Bool.false_eq_true, if_false, ite_false, Sem.run_bind, Sem.run_pure, Result.andThen_ok, pe, pa6, pb6]
  cases h6 : (a6 == b6)
  · have n6 : ¬ a6 = b6 := by simpa using h6
    simp [n6]
  have e6 : a6 = b6 := by simpa using h6
  simp only [Bool.not_true, Bool.false_eq_true, if_false, ite_false, Sem.run_bind, Sem.run_pure, Result.andThen_ok, pe, pa7, pb7]
  cases h7 : (a7 == b7)
  · have n7 : ¬ a7 = b7 := by simpa using h7
    simp [n7]
  have e7 : a7 = b7 := by simpa using h7
  simp only [Bool.not_true, Bool.false_eq_true, if_false, ite_false, Sem.run_bind, Sem.run_pure, Result.andThen_ok, pe, pa8, pb8]
  cases h8 : (a8 == b8)
  · have n8 : ¬ a8 = b8 := by simpa using h8
    simp [n8]
  have e8 : a8 = b8 := by simpa using h8
  simp only [Bool.not_true, Bool.false_eq_true, if_false, ite_false, Sem.run_bind, Sem.run_pure, Result.andThen_ok, pe]
  simp [e0, e1, e2, e3, e4, e5, e6, e7, e8]
set_option maxRecDepth 100000 in
set_option maxHeartbeats 2000000 in
theorem numbers_any (s : Ad) (m : Mb) (w : World) : Calls Try.prog 37 #[.agg #[.int .i64 m.id, .int .i64 m.n, .int .i64 m.term, .int .i64 m.vote, .int .i64 m.role, .int .i64 m.lead, .int .i64 m.b, .int .i64 m.bt, .slice s.ea m.es.length s.ec, .int .i64 m.commit, .slice s.sa m.snap.length s.sc, .slice s.ga m.granted.length s.gc, .slice s.xa m.next.length s.xc, .slice s.ma m.mtch.length s.mc, .int .i64 m.clock, .int .i64 m.wait]] w fun e w' => e = .returned (.agg #[.int .i64 m.id, .int .i64 m.n, .int .i64 m.term, .int .i64 m.vote, .int .i64 m.role, .int .i64 m.lead, .int .i64 m.commit, .int .i64 m.clock, .int .i64 m.wait]) ∧ Below w.heap.size w w' := by
  have HC : Hid (∀ o v0 v1 v2 v3 v4 v5 v6 v7 v8, ((w.alloc o).alloc (.cells #[v0, v1, v2, v3, v4, v5, v6, v7, v8] 73)).cell? ⟨w.heap.size + 1, 0, none⟩ = some v0 ∧ ((w.alloc o).alloc (.cells #[v0, v1, v2, v3, v4, v5, v6, v7, v8] 73)).cell? ⟨w.heap.size + 1, 1, none⟩ = some v1 ∧ ((w.alloc o).alloc (.cells #[v0, v1, v2, v3, v4, v5, v6, v7, v8] 73)).cell? ⟨w.heap.size + 1, 2, none⟩ = some v2 ∧ ((w.alloc o).alloc (.cells #[v0, v1, v2, v3, v4, v5, v6, v7, v8] 73)).cell? ⟨w.heap.size + 1, 3, none⟩ = some v3 ∧ ((w.alloc o).alloc (.cells #[v0, v1, v2, v3, v4, v5, v6, v7, v8] 73)).cell? ⟨w.heap.size + 1, 4, none⟩ = some v4 ∧ ((w.alloc o).alloc (.cells #[v0, v1, v2, v3, v4, v5, v6, v7, v8] 73)).cell? ⟨w.heap.size + 1, 5, none⟩ = some v5 ∧ ((w.alloc o).alloc (.cells #[v0, v1, v2, v3, v4, v5, v6, v7, v8] 73)).cell? ⟨w.heap.size + 1, 6, none⟩ = some v6 ∧ ((w.alloc o).alloc (.cells #[v0, v1, v2, v3, v4, v5, v6, v7, v8] 73)).cell? ⟨w.heap.size + 1, 7, none⟩ = some v7 ∧ ((w.alloc o).alloc (.cells #[v0, v1, v2, v3, v4, v5, v6, v7, v8] 73)).cell? ⟨w.heap.size + 1, 8, none⟩ = some v8) := fun o v0 v1 v2 v3 v4 v5 v6 v7 v8 => by
    have k := heap_alloc_new (w.alloc o) (.cells #[v0, v1, v2, v3, v4, v5, v6, v7, v8] 73)
    rw [size_alloc] at k
    refine ⟨?_, ?_, ?_, ?_, ?_, ?_, ?_, ?_, ?_⟩ <;> (rw [cell_of_row _ _ _ _ 73 (0, 0) k]; rfl)
  go_enter Try.func37, Try.ntmps37
  go_wp2
  obtain ⟨e0, e1, e2, e3, e4, e5, e6, e7, e8⟩ := HC.out (.cells #[.int .i64 m.id, .int .i64 m.n, .int .i64 m.term, .int .i64 m.vote, .int .i64 m.role, .int .i64 m.lead, .int .i64 m.b, .int .i64 m.bt, .slice s.ea m.es.length s.ec, .int .i64 m.commit, .slice s.sa m.snap.length s.sc, .slice s.ga m.granted.length s.gc, .slice s.xa m.next.length s.xc, .slice s.ma m.mtch.length s.mc, .int .i64 m.clock, .int .i64 m.wait] 31) (.int .i64 m.id) (.int .i64 m.n) (.int .i64 m.term) (.int .i64 m.vote) (.int .i64 m.role) (.int .i64 m.lead) (.int .i64 m.commit) (.int .i64 m.clock) (.int .i64 m.wait)
  exact bodyPost_ret (v := .agg #[.int .i64 m.id, .int .i64 m.n, .int .i64 m.term, .int .i64 m.vote, .int .i64 m.role, .int .i64 m.lead, .int .i64 m.commit, .int .i64 m.clock, .int .i64 m.wait]) (by simp [results, Try.results37, go_sem, e0, e1, e2, e3, e4, e5, e6, e7, e8]) rfl ⟨rfl, below2 _ _ _⟩
theorem guard9 : Try.prog.eqGuardType Try.prog.depth 73 = false := by kernel_rfl
end
end Go.Proofs.Ytfmfphfckaiejaa
