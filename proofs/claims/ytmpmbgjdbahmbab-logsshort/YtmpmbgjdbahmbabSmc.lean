/-
  What stands where, of both sides: contracts.
-/
import Derived.Test.YtmpmbgjdbahmbabMem
namespace Go.Proofs.Ytmpmbgjdbahmbab
open Go.RowKit
set_option linter.unusedVariables false

set_option maxRecDepth 100000 in
theorem Last_any (b bt : Int) (a : Option Addr) (n c : Nat) (w : World) (hb : 0 ≤ b) (hb2 : b ≤ 2199023255552) (hn : n ≤ 2000) : Calls Try.prog 8 #[.agg #[.int .i64 b, .int .i64 bt, .slice a n c]] w fun e w' => e = .returned (.int .i64 (b + n)) ∧ Below w.heap.size w w' := by
  go_enter Try.func8, Try.ntmps8
  go_wp2
  go_ret
  exact ⟨rfl, (Below.refl _ _).alloc (Nat.le_refl _) _⟩
theorem b1 {w w' : World} {o : Obj} (h : Below (w.alloc o).heap.size (w.alloc o) w') : Below w.heap.size w w' := ((Below.refl _ _).alloc (Nat.le_refl _) o).trans (h.mono (le_alloc _ _))
set_option maxRecDepth 100000 in
set_option maxHeartbeats 400000 in
theorem Term_any (P : Nat → Prop) (b bt : Int) (a : Option Addr) (c : Nat) (es : List En) (p : Int) (w : World) (hb : 0 ≤ b) (hb2 : b ≤ 2199023255552) (hn : es.length ≤ 2000) (hp : InR p) (hE : EnsV w P a c es) : Calls Try.prog 14 #[.agg #[.int .i64 b, .int .i64 bt, .slice a es.length c], .int .i64 p] w fun e w' => e = .returned (.tuple #[.int .i64 (termM b bt es p).1, .bool (termM b bt es p).2]) ∧ Below w.heap.size w w' := by
  have h1 := hE.cap1
  have h2 := hE.cap2
  obtain ⟨p1, p2⟩ := hp
  have HC : Hid (∀ i, i < es.length → ∃ g o, a = some ⟨g, o, none⟩ ∧ w.cell? ⟨g, o + i * 2, none⟩ = some (.int .i64 (tOf es i)) ∧ InR (tOf es i) ∧ g < w.heap.size) := fun i hi => by
    obtain ⟨g, o, ka, kc, q1, q2, q3, q4, q5, q6, _⟩ := hE.at_ hi
    exact ⟨g, o, q1, q2, q5, q6⟩
  have HL : Hid (∀ w, Calls Try.prog 8 #[.agg #[.int .i64 b, .int .i64 bt, .slice a es.length c]] w fun e w' => e = .returned (.int .i64 (b + es.length)) ∧ Below w.heap.size w w') := fun w => Last_any b bt a es.length c w hb hb2 hn
  by_cases c1 : p < b
  · rw [term_out (.inl c1)]
    generalize es.length = n at *
    go_enter Try.func14, Try.ntmps14
    go_wp2
    go_ret2
    exact ⟨rfl, (Below.refl _ _).alloc (Nat.le_refl _) _⟩
  · by_cases c2 : b + es.length < p
    · rw [term_out (.inr c2)]
      generalize es.length = n at *
      go_enter Try.func14, Try.ntmps14
      go_wp2_with (go_at_call 8; refine (HL.out _).mono ?_; rintro e w1 ⟨rfl, HB⟩; have HB1 : Hid (Below w.heap.size w w1) := b1 HB; clear HB)
      go_ret2
      exact ⟨rfl, HB1.out⟩
    · by_cases c3 : p = b
      · subst c3
        rw [term_base]
        generalize es.length = n at *
        go_enter Try.func14, Try.ntmps14
        go_wp2_with (go_at_call 8; refine (HL.out _).mono ?_; rintro e w1 ⟨rfl, HB⟩; have HB1 : Hid (Below w.heap.size w w1) := b1 HB; obtain ⟨q0, q1, q2, q3⟩ := (Cell3.new w (.int .i64 p) (.int .i64 bt) (.slice a n c) 24).kept (HB.block _ (by rw [size_alloc]; omega)); clear HB)
        go_ret2
        exact ⟨rfl, HB1.out⟩
      · obtain ⟨i, hpi⟩ : ∃ i : Nat, p = b + 1 + i := ⟨(p - b - 1).toNat, by omega⟩
        have hi : i < es.length := by omega
        obtain ⟨g, o, rfl, x1, x2, x3⟩ := HC.out i hi
        rw [show termM b bt es p = (tOf es i, true) from by rw [hpi]; exact term_at hi]
        have e1 : (p - b).toNat - 1 = i := by omega
        have c4 : (p == b) = false := beq_eq_false_iff_ne.2 c3
        clear hpi HC
        generalize tOf es i = t at *
        generalize es.length = n at *
        go_enter Try.func14, Try.ntmps14
        go_wp2_with (go_at_call 8; refine (HL.out _).mono ?_; rintro e w1 ⟨rfl, HB⟩; have HB1 : Hid (Below w.heap.size w w1) := b1 HB; obtain ⟨q0, q1, q2, q3⟩ := (Cell3.new w (.int .i64 b) (.int .i64 bt) (.slice (some ⟨g, o, none⟩) n c) 24).kept (HB.block _ (by rw [size_alloc]; omega)); have x4 := (cell_kept (HB1.out.block g x3) (o + i * 2)).trans x1; clear HB)
        go_ret2
        exact ⟨rfl, HB1.out⟩
end Go.Proofs.Ytmpmbgjdbahmbab
