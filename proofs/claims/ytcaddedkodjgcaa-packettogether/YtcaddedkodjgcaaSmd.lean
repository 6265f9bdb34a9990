/-
  Are entries, are logs the same: contracts of both sides.
-/
import Derived.Test.YtcaddedkodjgcaaMem
namespace Go.Proofs.Ytcaddedkodjgcaa
open Go.RowKit
set_option linter.unusedVariables false

theorem ens_no {l m : List En} {i : Nat} (hi : i < l.length) (hl : l.length = m.length) (h : ¬ (l.getD i zE).1 = (m.getD i zE).1 ∨ ¬ (l.getD i zE).2 = (m.getD i zE).2) : decide (l = m) = false := decide_eq_false fun e => by subst e; rcases h with h | h <;> exact h rfl
theorem ens_yes {l m : List En} (hl : l.length = m.length) (h : ∀ j, j < l.length → (l.getD j zE).1 = (m.getD j zE).1 ∧ (l.getD j zE).2 = (m.getD j zE).2) : decide (l = m) = true := decide_eq_true (List.ext_getElem hl fun j h1 h2 => by
  have := h j h1
  rw [List.getD_eq_getElem?_getD, List.getD_eq_getElem?_getD, List.getElem?_eq_getElem h1, List.getElem?_eq_getElem h2] at this
  exact Prod.ext this.1 this.2)
set_option maxRecDepth 100000 in
set_option maxHeartbeats 800000 in
theorem Entries_any (P Q : Nat → Prop) (a a2 : Option Addr) (c c2 : Nat) (l m : List En) (w : World) (hv : EnsV w P a c l) (hu : EnsV w Q a2 c2 m) : Calls Try.prog 59 #[.slice a l.length c, .slice a2 m.length c2] w fun e w' => e = .returned (.bool (decide (l = m))) ∧ Below w.heap.size w w' := by
  have h1 := hv.cap1
  have h2 := hv.cap2
  have h3 := hu.cap1
  have h4 := hu.cap2
  by_cases hl : l.length = m.length
  · have HY : Hid ((∀ j, j < l.length → (l.getD j zE).1 = (m.getD j zE).1 ∧ (l.getD j zE).2 = (m.getD j zE).2) → decide (l = m) = true) := fun q => ens_yes hl q
    have HN : Hid (∀ i, i < l.length → (¬ (l.getD i zE).1 = (m.getD i zE).1 ∨ ¬ (l.getD i zE).2 = (m.getD i zE).2) → decide (l = m) = false) := fun i hi q => ens_no hi hl q
    have HC : Hid (∀ wr i, Below w.heap.size w wr → i < l.length → ∃ g o g2 o2 ka kn kc ja jn jc, a = some ⟨g, o, none⟩ ∧ a2 = some ⟨g2, o2, none⟩ ∧ wr.cell? ⟨g, o + i * 2, none⟩ = some (.int .i64 (l.getD i zE).1) ∧ wr.cell? ⟨g, o + i * 2 + 1, none⟩ = some (.slice ka kn kc) ∧ wr.cell? ⟨g2, o2 + i * 2, none⟩ = some (.int .i64 (m.getD i zE).1) ∧ wr.cell? ⟨g2, o2 + i * 2 + 1, none⟩ = some (.slice ja jn jc) ∧ g < wr.heap.size ∧ g2 < wr.heap.size ∧ (convert 27 9 (.slice ka kn kc)).run Try.prog wr = .ok (.string (str (l.getD i zE).2)) wr ∧ (convert 27 9 (.slice ja jn jc)).run Try.prog wr = .ok (.string (str (m.getD i zE).2)) wr ∧ ∀ k, (convert 27 9 (.slice ka kn kc)).run Try.prog (wr.drewN k) = .ok (.string (str (l.getD i zE).2)) (wr.drewN k) ∧ (convert 27 9 (.slice ja jn jc)).run Try.prog (wr.drewN k) = .ok (.string (str (m.getD i zE).2)) (wr.drewN k)) := fun wr i q hi => by
      obtain ⟨g, o, ka, kc, q1, q2, q3, q4, q5, q6, _⟩ := (hv.below q).at_ hi
      obtain ⟨g2, o2, ja, jc, r1, r2, r3, r4, r5, r6, _⟩ := (hu.below q).at_ (show i < m.length by omega)
      exact ⟨g, o, g2, o2, ka, _, kc, ja, _, jc, q1, r1, q2, q3, r2, r3, q6, r6, convert_str q4, convert_str r4, fun k => ⟨convert_str (q4.below (below_drewN (Below.refl _ _) k)), convert_str (r4.below (below_drewN (Below.refl _ _) k))⟩⟩
    rw [← hl] at h3 ⊢
    generalize decide (l = m) = r at *
    generalize l.length = n at *
    clear hl hv hu
    go_enter Try.func59, Try.ntmps59
    go_wp2
    go_loopw [5] (fun x wr => ∃ (i : Nat), i ≤ n ∧ x = .int .i64 i ∧ Hid (Below w.heap.size w wr ∧ ∀ j, j < i → (l.getD j zE).1 = (m.getD j zE).1 ∧ (l.getD j zE).2 = (m.getD j zE).2)) (fun x _ => n - (intOf x).toNat)
    case atStart => exact ⟨0, Nat.zero_le _, rfl, Below.refl _ _, fun j hj => absurd hj (Nat.not_lt_zero _)⟩
    case round =>
      obtain ⟨i, hi, rfl, HR⟩ := hrel
      by_cases hlt : i < n
      · obtain ⟨g, o, g2, o2, ka, kn, kc, ja, jn, jc, rfl, rfl, x1, x2, x3, x4, x5, x6, x7, x8, x9⟩ := HC.out wr i HR.out.1 hlt
        have y1 := fun k => (x9 k).1
        have y2 := fun k => (x9 k).2
        have HB : Hid (Below w.heap.size w wr) := HR.out.1
        clear x9
        by_cases e1 : (l.getD i zE).1 = (m.getD i zE).1
        · by_cases e2 : (l.getD i zE).2 = (m.getD i zE).2
          · have HQ : Hid (∀ j, j < i + 1 → (l.getD j zE).1 = (m.getD j zE).1 ∧ (l.getD j zE).2 = (m.getD j zE).2) := fun j hj => by
              by_cases e : j = i
              · subst e; exact ⟨e1, e2⟩
              · exact HR.out.2 j (by omega)
            have e3 := str_same (l.getD i zE).2 (m.getD i zE).2
            rw [decide_eq_true e2] at e3
            rw [e1] at x1
            clear HN HY HC HR e1 e2
            generalize str (l.getD i zE).2 = s1 at *
            generalize str (m.getD i zE).2 = s2 at *
            generalize (m.getD i zE).1 = t at *
            go_wp2
            go_quiet (fail)
            go_wp2
            go_roundw
            case rel => exact ⟨i + 1, by omega, by go_num, below_drewN HB.out _, HQ.out⟩
            case measure => simp [intOf]; omega
          · have HF : Hid (r = false) := HN.out i hlt (.inr e2)
            have e3 := str_same (l.getD i zE).2 (m.getD i zE).2
            rw [decide_eq_false e2] at e3
            rw [e1] at x1
            clear HN HY HC HR e1 e2
            generalize str (l.getD i zE).2 = s1 at *
            generalize str (m.getD i zE).2 = s2 at *
            generalize (m.getD i zE).1 = t at *
            go_wp2
            go_quiet (fail)
            go_wp2
            go_ret
            exact ⟨by rw [HF.out]; rfl, below_drewN HB.out _⟩
        · have HF : Hid (r = false) := HN.out i hlt (.inl e1)
          have e3 : ((l.getD i zE).1 == (m.getD i zE).1) = false := beq_eq_false_iff_ne.2 e1
          clear HN HY HC HR
          generalize str (l.getD i zE).2 = s1 at *
          generalize str (m.getD i zE).2 = s2 at *
          generalize (l.getD i zE).1 = t0 at *
          generalize (m.getD i zE).1 = t at *
          have e4 : (t0 != t) = true := by rw [bne, e3]; rfl
          go_wp2
          go_quiet (fail)
          go_wp2
          go_ret
          exact ⟨by rw [HF.out]; rfl, below_drewN HB.out _⟩
      · have HT : Hid (r = true) := HY.out fun j hj => HR.out.2 j (by omega)
        have HB : Hid (Below w.heap.size w wr) := HR.out.1
        clear HN HY HC HR
        go_wp2
        go_ret
        exact ⟨by rw [HT.out]; rfl, HB.out⟩
  · have HF : Hid (decide (l = m) = false) := decide_eq_false fun e => hl (by rw [e])
    have h5 : ¬ ((l.length : Nat) : Int) = ((m.length : Nat) : Int) := by omega
    have h6 : (((l.length : Nat) : Int) == ((m.length : Nat) : Int)) = false := by rw [beq_eq_false_iff_ne]; exact h5
    generalize decide (l = m) = r at *
    clear hv hu hl
    generalize l.length = x at *
    generalize m.length = y at *
    go_enter Try.func59, Try.ntmps59
    go_wp2
    go_ret
    exact ⟨by rw [HF.out]; rfl, Below.refl _ _⟩
end Go.Proofs.Ytcaddedkodjgcaa
