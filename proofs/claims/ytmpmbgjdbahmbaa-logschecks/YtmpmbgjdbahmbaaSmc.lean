/-
  What stands where, of both sides: contracts.
-/
import Derived.Test.YtmpmbgjdbahmbaaMem
namespace Go.Proofs.Ytmpmbgjdbahmbaa
open Go.RowKit
set_option linter.unusedVariables false

set_option maxRecDepth 100000 in
theorem Last_any (b bt : Int) (a : Option Addr) (n c : Nat) (w : World) (hb : 0 ≤ b) (hb2 : b ≤ 2199023255552) (hn : n ≤ 2000) : Calls Try.prog 20 #[.agg #[.int .i64 b, .int .i64 bt, .slice a n c]] w fun e w' => e = .returned (.int .i64 (b + n)) ∧ Below w.heap.size w w' := by
  go_enter Try.func20, Try.ntmps20
  go_wp2
  go_ret
  exact ⟨rfl, (Below.refl _ _).alloc (Nat.le_refl _) _⟩
set_option maxRecDepth 100000 in
theorem RLast_any (b bt : Int) (a : Option Addr) (n c : Nat) (w : World) (hb : 0 ≤ b) (hb2 : b ≤ 2199023255552) (hn : n ≤ 2000) : Calls Try.prog 19 #[.agg #[.int .i64 b, .int .i64 bt, .slice a n c]] w fun e w' => e = .returned (.int .i64 (b + n)) ∧ Below w.heap.size w w' := by
  go_enter Try.func19, Try.ntmps19
  go_wp2
  go_ret
  exact ⟨rfl, (Below.refl _ _).alloc (Nat.le_refl _) _⟩
theorem b1 {w w' : World} {o : Obj} (h : Below (w.alloc o).heap.size (w.alloc o) w') : Below w.heap.size w w' := ((Below.refl _ _).alloc (Nat.le_refl _) o).trans (h.mono (le_alloc _ _))
set_option maxRecDepth 100000 in
set_option maxHeartbeats 400000 in
theorem Term_any (P : Nat → Prop) (b bt : Int) (a : Option Addr) (c : Nat) (es : List En) (p : Int) (w : World) (hb : 0 ≤ b) (hb2 : b ≤ 2199023255552) (hn : es.length ≤ 2000) (hp : InR p) (hE : EnsV w P a c es) : Calls Try.prog 17 #[.agg #[.int .i64 b, .int .i64 bt, .slice a es.length c], .int .i64 p] w fun e w' => e = .returned (.tuple #[.int .i64 (termM b bt es p).1, .bool (termM b bt es p).2]) ∧ Below w.heap.size w w' := by
  have h1 := hE.cap1
  have h2 := hE.cap2
  obtain ⟨p1, p2⟩ := hp
  have HC : Hid (∀ i, i < es.length → ∃ g o, a = some ⟨g, o, none⟩ ∧ w.cell? ⟨g, o + i * 2, none⟩ = some (.int .i64 (tOf es i)) ∧ InR (tOf es i) ∧ g < w.heap.size) := fun i hi => by
    obtain ⟨g, o, ka, kc, q1, q2, q3, q4, q5, q6, _⟩ := hE.at_ hi
    exact ⟨g, o, q1, q2, q5, q6⟩
  have HL : Hid (∀ w, Calls Try.prog 20 #[.agg #[.int .i64 b, .int .i64 bt, .slice a es.length c]] w fun e w' => e = .returned (.int .i64 (b + es.length)) ∧ Below w.heap.size w w') := fun w => Last_any b bt a es.length c w hb hb2 hn
  by_cases c1 : p < b
  · rw [term_out (.inl c1)]
    generalize es.length = n at *
    go_enter Try.func17, Try.ntmps17
    go_wp2
    go_ret2
    exact ⟨rfl, (Below.refl _ _).alloc (Nat.le_refl _) _⟩
  · by_cases c2 : b + es.length < p
    · rw [term_out (.inr c2)]
      generalize es.length = n at *
      go_enter Try.func17, Try.ntmps17
      go_wp2_with (go_at_call 20; refine (HL.out _).mono ?_; rintro e w1 ⟨rfl, HB⟩; have HB1 : Hid (Below w.heap.size w w1) := b1 HB; clear HB)
      go_ret2
      exact ⟨rfl, HB1.out⟩
    · by_cases c3 : p = b
      · subst c3
        rw [term_base]
        generalize es.length = n at *
        go_enter Try.func17, Try.ntmps17
        go_wp2_with (go_at_call 20; refine (HL.out _).mono ?_; rintro e w1 ⟨rfl, HB⟩; have HB1 : Hid (Below w.heap.size w w1) := b1 HB; obtain ⟨q0, q1, q2, q3⟩ := (Cell3.new w (.int .i64 p) (.int .i64 bt) (.slice a n c) 24).kept (HB.block _ (by rw [size_alloc]; omega)); clear HB)
        go_ret2
        exact ⟨rfl, HB1.out⟩
      · obtain ⟨i, hpi⟩ : ∃ i : Nat, p = b + 1 + i := ⟨(p - b - 1).toNat, by omega⟩
        have hi : i < es.length := by omega
        obtain ⟨g, o, rfl, x1, x2, x3⟩ := HC.out i hi
        rw [show termM b bt es p = (tOf es i, true) from by rw [hpi]; exact term_at hi]
        have e1 : (p - b).toNat - 1 = i := by omega
        have c4 : (p == b) = false := beq_eq_false_iff_ne.2 c3
        clear hpi HC
        generalize tOf es i = t at *
        generalize es.length = n at *
        go_enter Try.func17, Try.ntmps17
        go_wp2_with (go_at_call 20; refine (HL.out _).mono ?_; rintro e w1 ⟨rfl, HB⟩; have HB1 : Hid (Below w.heap.size w w1) := b1 HB; obtain ⟨q0, q1, q2, q3⟩ := (Cell3.new w (.int .i64 b) (.int .i64 bt) (.slice (some ⟨g, o, none⟩) n c) 24).kept (HB.block _ (by rw [size_alloc]; omega)); have x4 := (cell_kept (HB1.out.block g x3) (o + i * 2)).trans x1; clear HB)
        go_ret2
        exact ⟨rfl, HB1.out⟩
set_option maxRecDepth 100000 in
set_option maxHeartbeats 400000 in
theorem RTerm_any (P : Nat → Prop) (b bt : Int) (a : Option Addr) (c : Nat) (es : List En) (p : Int) (w : World) (hb : 0 ≤ b) (hb2 : b ≤ 2199023255552) (hn : es.length ≤ 2000) (hp : InR p) (hE : EnsV w P a c es) : Calls Try.prog 18 #[.agg #[.int .i64 b, .int .i64 bt, .slice a es.length c], .int .i64 p] w fun e w' => e = .returned (.tuple #[.int .i64 (termM b bt es p).1, .bool (termM b bt es p).2]) ∧ Below w.heap.size w w' := by
  have h1 := hE.cap1
  have h2 := hE.cap2
  obtain ⟨p1, p2⟩ := hp
  have HC : Hid (∀ i, i < es.length → ∃ g o, a = some ⟨g, o, none⟩ ∧ w.cell? ⟨g, o + i * 2, none⟩ = some (.int .i64 (tOf es i)) ∧ InR (tOf es i) ∧ g < w.heap.size) := fun i hi => by
    obtain ⟨g, o, ka, kc, q1, q2, q3, q4, q5, q6, _⟩ := hE.at_ hi
    exact ⟨g, o, q1, q2, q5, q6⟩
  have HB0 : Hid (∀ o, Below w.heap.size w (w.alloc o)) := fun o => (Below.refl _ _).alloc (Nat.le_refl _) o
  by_cases c3 : p = b
  · subst c3
    rw [term_base]
    generalize es.length = n at *
    go_enter Try.func18, Try.ntmps18
    go_wp2
    go_ret2
    exact ⟨rfl, HB0.out _⟩
  · have HY : Hid (∀ i, i < es.length → p = b + 1 + i → termM b bt es p = (tOf es i, true)) := fun i hi q => by rw [q]; exact term_at hi
    have HN : Hid ((∀ j, j < es.length → ¬ p = b + 1 + j) → termM b bt es p = (0, false)) := fun q => term_out (by
      by_cases q2 : p < b
      · exact .inl q2
      · refine .inr (Classical.byContradiction fun q3 => q (p - b - 1).toNat (by omega) (by omega)))
    have c4 : (p == b) = false := beq_eq_false_iff_ne.2 c3
    generalize termM b bt es p = r at *
    generalize hn2 : es.length = n at *
    clear hE
    go_enter Try.func18, Try.ntmps18
    go_wp2
    go_loopw [6] (fun y wr => ∃ (i : Nat), i ≤ n ∧ y = .int .i64 i ∧ w.alloc (.cells #[.int .i64 b, .int .i64 bt, .slice a n c] 24) = wr ∧ Hid (∀ j, j < i → ¬ p = b + 1 + j)) (fun y _ => n - (intOf y).toNat)
    case atStart => exact ⟨0, Nat.zero_le _, rfl, rfl, fun j hj => absurd hj (Nat.not_lt_zero _)⟩
    case round =>
      obtain ⟨i, hi, rfl, rfl, HR⟩ := hrel
      by_cases hlt : i < n
      · by_cases hpi : p = b + 1 + i
        · have HT : Hid (r = (tOf es i, true)) := HY.out i hlt hpi
          obtain ⟨g, o, rfl, x1, x2, x3⟩ := HC.out i hlt
          have hne : g ≠ w.heap.size := by omega
          have e1 : (b + 1 + (i : Int) == p) = true := beq_iff_eq.2 hpi.symm
          clear hpi HC HY HN HR
          generalize tOf es i = t at *
          go_wp2
          go_ret2
          exact ⟨by rw [HT.out]; rfl, HB0.out _⟩
        · have e1 : (b + 1 + (i : Int) == p) = false := beq_eq_false_iff_ne.2 fun q => hpi q.symm
          have HQ : Hid (∀ j, j < i + 1 → ¬ p = b + 1 + j) := fun j hj => by
            by_cases e : j = i
            · subst e; exact hpi
            · exact HR.out j (by omega)
          clear hpi HC HY HN HR
          go_wp2
          go_roundw
          case rel => exact ⟨i + 1, by omega, by go_num, trivial, HQ.out⟩
          case measure => simp [intOf]; omega
      · have HT : Hid (r = (0, false)) := HN.out fun j hj => HR.out j (by omega)
        clear HC HY HN HR
        go_wp2
        go_ret2
        exact ⟨by rw [HT.out]; rfl, HB0.out _⟩
end Go.Proofs.Ytmpmbgjdbahmbaa
