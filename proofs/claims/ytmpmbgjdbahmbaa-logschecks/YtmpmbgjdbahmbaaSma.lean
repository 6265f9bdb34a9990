/-
  What only tells, of both sides: contracts.
-/
import Derived.Test.YtmpmbgjdbahmbaaMem
namespace Go.Proofs.Ytmpmbgjdbahmbaa
open Go.RowKit
set_option linter.unusedVariables false

/-- No more than is waited for. -/
def Light (es : List En) : Prop := es.length ≤ 300 ∧ ∀ j, j < es.length → (es.getD j zE).2.length ≤ 6020
set_option maxRecDepth 100000 in
set_option maxHeartbeats 400000 in
theorem Weight_any (P : Nat → Prop) (a : Option Addr) (c : Nat) (es : List En) (w : World) (hE : EnsV w P a c es) : Calls Try.prog 9 #[.slice a es.length c, .int .i64 300] w fun e w' => ∃ k : Int, e = .returned (.int .i64 k) ∧ (k ≤ 300 → Light es) ∧ w' = w := by
  have HC : Hid (∀ i, i < es.length → ∃ b o ka kc, a = some ⟨b, o, none⟩ ∧ w.cell? ⟨b, o + i * 2 + 1, none⟩ = some (.slice ka (es.getD i zE).2.length kc) ∧ (es.getD i zE).2.length ≤ 9223372036854775807) := fun i hi => by
    obtain ⟨b, o, ka, kc, q1, q2, q3, q4, _⟩ := hE.at_ hi
    obtain ⟨_, _, e, _, r1, r2, r3⟩ := q4
    simp only [Value.slice.injEq] at e
    exact ⟨b, o, ka, kc, q1, q3, r3.1⟩
  have h1 := hE.cap1
  have h2 := hE.cap2
  have HL : Hid (∀ i m : Nat, i ≤ m → (∀ j, j < i → (es.getD j zE).2.length / 20 + 1 ≤ m) → i = es.length → (m : Int) ≤ 300 → Light es) := fun i m q1 q2 q3 q4 => ⟨by omega, fun j hj => by have := q2 j (by omega); omega⟩
  generalize hn : es.length = n at *
  clear hE
  go_enter Try.func9, Try.ntmps9
  go_wp2
  go_loopw [5, 6] (fun x y wr => ∃ (i m : Nat), i ≤ n ∧ x = .int .i64 (m : Nat) ∧ y = .int .i64 i ∧ m ≤ 500000000000000000 ∧ w = wr ∧ Hid (i ≤ m ∧ ∀ j, j < i → (es.getD j zE).2.length / 20 + 1 ≤ m)) (fun x y _ => n - (intOf y).toNat)
  case atStart => exact ⟨0, 0, Nat.zero_le _, rfl, rfl, by decide, rfl, Nat.le_refl _, fun j hj => absurd hj (Nat.not_lt_zero _)⟩
  case round =>
    obtain ⟨i, m, hi, rfl, rfl, hm, rfl, HR⟩ := hrel
    by_cases hlt : i < n
    · by_cases hm3 : m ≤ 300
      · obtain ⟨b, o, ka, kc, rfl, x1, x2⟩ := HC.out i hlt
        have HS : Hid (i + 1 ≤ m + 1 + (es.getD i zE).2.length / 20 ∧ ∀ j, j < i + 1 → (es.getD j zE).2.length / 20 + 1 ≤ m + 1 + (es.getD i zE).2.length / 20) := ⟨by have := HR.out.1; omega, fun j hj => by
          by_cases e : j = i
          · subst e; omega
          · have := HR.out.2 j (by omega); omega⟩
        generalize (es.getD i zE).2.length = L at *
        go_wp2
        go_roundw
        case rel => exact ⟨i + 1, m + 1 + L / 20, by omega, by go_num, by go_num, by omega, trivial, HS.out⟩
        case measure => simp [intOf]; omega
      · go_wp2
        go_ret
        exact ⟨_, rfl, fun q => absurd q (by omega), rfl⟩
    · have HT : Hid ((m : Int) ≤ 300 → Light es) := fun q => HL.out i m HR.out.1 HR.out.2 (by omega) q
      go_wp2
      go_ret
      exact ⟨_, rfl, HT.out, rfl⟩
def ixM (x : Int) : Bool := decide (0 ≤ x) && decide (x ≤ 1099511627776)
theorem ix_yes {x : Int} (h : 0 ≤ x ∧ x ≤ 1099511627776) : ixM x = true := by unfold ixM; rw [decide_eq_true h.1, decide_eq_true h.2]; rfl
theorem ix_no {x : Int} (h : ¬ (0 ≤ x ∧ x ≤ 1099511627776)) : ixM x = false := by
  unfold ixM
  by_cases h1 : 0 ≤ x
  · rw [decide_eq_false (p := x ≤ 1099511627776) (fun q => h ⟨h1, q⟩), Bool.and_false]
  · rw [decide_eq_false h1, Bool.false_and]
theorem ix_is {x : Int} (h : ixM x = true) : 0 ≤ x ∧ x ≤ 1099511627776 := Classical.byContradiction fun q => by rw [ix_no q] at h; cases h
theorem ix_not {x : Int} (h : ixM x = false) : ¬ (0 ≤ x ∧ x ≤ 1099511627776) := fun q => by rw [ix_yes q] at h; cases h
set_option maxRecDepth 100000 in
theorem index_any (x : Int) (w : World) : Calls Try.prog 35 #[.int .i64 x] w fun e w' => e = .returned (.bool (ixM x)) ∧ w' = w := by
  unfold ixM
  by_cases h1 : 0 ≤ x
  · by_cases h2 : x ≤ 1099511627776
    · rw [decide_eq_true h1, decide_eq_true h2]
      go_enter Try.func35, Try.ntmps35
      go_wp2
      go_ret
      exact ⟨rfl, rfl⟩
    · rw [decide_eq_true h1, decide_eq_false h2]
      go_enter Try.func35, Try.ntmps35
      go_wp2
      go_ret
      exact ⟨rfl, rfl⟩
  · rw [decide_eq_false h1]
    go_enter Try.func35, Try.ntmps35
    go_wp2
    go_ret
    exact ⟨rfl, rfl⟩
/-- The least that may stand behind the first ones. -/
def Lst (bt : Int) (es : List En) (i : Nat) (L : Int) : Prop := (i = 0 → L = max bt 1) ∧ (0 < i → L = tOf es (i - 1))
def good (bt : Int) (es : List En) (i : Nat) : Prop := 1 ≤ tOf es i ∧ tOf es i ≤ 1099511627776 ∧ bt ≤ tOf es i ∧ (0 < i → tOf es (i - 1) ≤ tOf es i)
theorem good_iff {bt L : Int} {es : List En} {i : Nat} (h : ∀ j, j < i → good bt es j) (hL : Lst bt es i L) : good bt es i ↔ (L ≤ tOf es i ∧ ixM (tOf es i) = true) := by
  obtain ⟨l1, l2⟩ := hL
  constructor
  · rintro ⟨q1, q2, q3, q4⟩
    refine ⟨?_, ix_yes ⟨by omega, q2⟩⟩
    by_cases h0 : i = 0
    · rw [l1 h0]; omega
    · rw [l2 (by omega)]; exact q4 (by omega)
  · rintro ⟨q1, q2⟩
    have q3 := ix_is q2
    by_cases h0 : i = 0
    · have := l1 h0
      exact ⟨by omega, q3.2, by omega, fun q => absurd q (by omega)⟩
    · have e := l2 (by omega)
      have g := h (i - 1) (by omega)
      obtain ⟨g1, g2, g3, g4⟩ := g
      exact ⟨by omega, q3.2, by omega, fun _ => by omega⟩
theorem chk_ok {b bt : Int} {es : List En} (h : ixM b = true) (h2 : ixM bt = true) (h3 : b = 0 ↔ bt = 0) (h4 : ∀ i, i < es.length → good bt es i) : chkM b bt es = 0 := chk_zero.2 ⟨⟨(ix_is h).1, (ix_is h).2, (ix_is h2).1, (ix_is h2).2, h3⟩, h4⟩
theorem chk_bad {b bt : Int} {es : List En} (h : ¬ (ixM b = true ∧ ixM bt = true ∧ (b = 0 ↔ bt = 0))) : chkM b bt es = 1 := chk_head fun q => h ⟨ix_yes ⟨q.1, q.2.1⟩, ix_yes ⟨q.2.2.1, q.2.2.2.1⟩, q.2.2.2.2⟩
set_option maxRecDepth 100000 in
set_option maxHeartbeats 800000 in
theorem Check_any (P : Nat → Prop) (b bt : Int) (a : Option Addr) (c : Nat) (es : List En) (w : World) (hb : InR b) (hbt : InR bt) (hE : EnsV w P a c es) : Calls Try.prog 11 #[.agg #[.int .i64 b, .int .i64 bt, .slice a es.length c]] w fun e w' => e = .returned (.int .i64 (chkM b bt es)) ∧ Below w.heap.size w w' := by
  have h1 := hE.cap1
  have h2 := hE.cap2
  obtain ⟨b1, b2⟩ := hb
  obtain ⟨t1, t2⟩ := hbt
  cases i1 : ixM b with
  | false =>
    rw [chk_bad (fun q => by rw [i1] at q; cases q.1)]
    generalize es.length = n at *
    go_enter Try.func11, Try.ntmps11
    go_wp2_with (go_at_call 35; refine (index_any _ _).mono ?_; rintro e w4 ⟨rfl, h4⟩; have h5 := h4.symm; clear h4; subst h5)
    go_ret
    exact ⟨rfl, (Below.refl _ _).alloc (Nat.le_refl _) _⟩
  | true =>
    cases i2 : ixM bt with
    | false =>
      rw [chk_bad (fun q => by rw [i2] at q; cases q.2.1)]
      generalize es.length = n at *
      go_enter Try.func11, Try.ntmps11
      go_wp2_with (go_at_call 35; refine (index_any _ _).mono ?_; rintro e w4 ⟨rfl, h4⟩; have h5 := h4.symm; clear h4; subst h5)
      go_ret
      exact ⟨rfl, (Below.refl _ _).alloc (Nat.le_refl _) _⟩
    | true =>
      by_cases h3 : b = 0 ↔ bt = 0
      · have HC : Hid (∀ wr i, Below w.heap.size w wr → i < es.length → ∃ g o ka kn kc, a = some ⟨g, o, none⟩ ∧ wr.cell? ⟨g, o + i * 2, none⟩ = some (.int .i64 (tOf es i)) ∧ wr.cell? ⟨g, o + i * 2 + 1, none⟩ = some (.slice ka kn kc) ∧ InR (tOf es i) ∧ g < wr.heap.size) := fun wr i q hi => by
          obtain ⟨g, o, ka, kc, q1, q2, q3, q4, q5, q6, _⟩ := (hE.below q).at_ hi
          exact ⟨g, o, ka, _, kc, q1, q2, q3, q5, q6⟩
        have HY : Hid ((∀ i, i < es.length → good bt es i) → chkM b bt es = 0) := fun q => chk_ok i1 i2 h3 q
        have HN : Hid (∀ i, i < es.length → ¬ good bt es i → chkM b bt es = 1) := fun i q1 q2 => chk_at q1 q2
        have HG : Hid (∀ i L, (∀ j, j < i → good bt es j) → Lst bt es i L → (good bt es i ↔ (L ≤ tOf es i ∧ ixM (tOf es i) = true))) := fun i L q1 q2 => good_iff q1 q2
        have e3 : (b == 0) = (bt == 0) := by
          by_cases q : b = 0
          · rw [h3.1 q, q]
          · have q2 : ¬ bt = 0 := fun e => q (h3.2 e)
            rw [beq_eq_false_iff_ne.2 q, beq_eq_false_iff_ne.2 q2]
        generalize chkM b bt es = r at *
        generalize es.length = n at *
        clear h3 hE
        go_enter Try.func11, Try.ntmps11
        go_wp2_with (go_at_call 35; refine (index_any _ _).mono ?_; rintro e w4 ⟨rfl, h4⟩; have h5 := h4.symm; clear h4; subst h5)
        all_goals (
          go_loopw [3, 31] (fun x y wr => ∃ (i : Nat) (L : Int), i ≤ n ∧ x = .int .i64 L ∧ y = .int .i64 i ∧ Hid (Below w.heap.size w wr ∧ (∀ j, j < i → good bt es j) ∧ Lst bt es i L)) (fun x y _ => n - (intOf y).toNat)
          case atStart => exact ⟨0, _, Nat.zero_le _, rfl, rfl, (Below.refl _ _).alloc (Nat.le_refl _) _, fun j hj => absurd hj (Nat.not_lt_zero _), fun _ => by omega, fun q => absurd q (Nat.lt_irrefl _)⟩
          case round =>
            obtain ⟨i, L, hi, rfl, rfl, HR⟩ := hrel
            by_cases hlt : i < n
            · obtain ⟨g, o, ka, kn, kc, rfl, x1, x2, ⟨x3, x4⟩, x5⟩ := HC.out wr i HR.out.1 hlt
              have HGi := HG.out i L HR.out.2.1 HR.out.2.2
              have HS : Hid (good bt es i → (∀ j, j < i + 1 → good bt es j) ∧ Lst bt es (i + 1) (tOf es i)) := fun q => ⟨fun j hj => by
                by_cases e : j = i
                · subst e; exact q
                · exact HR.out.2.1 j (by omega), fun q => absurd q (by omega), fun _ => rfl⟩
              have HF : Hid (¬ good bt es i → r = 1) := fun q => HN.out i hlt q
              have HB : Hid (Below w.heap.size w wr) := HR.out.1
              have HGG : Hid (good bt es i ↔ (L ≤ tOf es i ∧ ixM (tOf es i) = true)) := HGi
              clear HGi HR
              generalize tOf es i = t at *
              by_cases c1 : L ≤ t
              · cases c2 : ixM t with
                | true =>
                  have HQ := HS.out (HGG.out.2 ⟨c1, c2⟩)
                  have HQ2 : Hid ((∀ j, j < i + 1 → good bt es j) ∧ Lst bt es (i + 1) t) := HQ
                  clear HQ
                  go_wp2_with (go_at_call 35; refine (index_any _ _).mono ?_; rintro e w4 ⟨rfl, h4⟩; have h5 := h4.symm; clear h4; subst h5)
                  go_roundw
                  case rel => exact ⟨i + 1, t, by omega, rfl, by go_num, HB.out.alloc HB.out.size _, HQ2.out.1, HQ2.out.2⟩
                  case measure => simp [intOf]; omega
                | false =>
                  have HF2 : Hid (r = 1) := HF.out fun q => by rw [(HGG.out.1 q).2] at c2; cases c2
                  go_wp2_with (go_at_call 35; refine (index_any _ _).mono ?_; rintro e w4 ⟨rfl, h4⟩; have h5 := h4.symm; clear h4; subst h5)
                  go_ret
                  exact ⟨by rw [HF2.out]; rfl, HB.out.alloc HB.out.size _⟩
              · have HF2 : Hid (r = 1) := HF.out fun q => c1 (HGG.out.1 q).1
                go_wp2
                go_ret
                exact ⟨by rw [HF2.out]; rfl, HB.out.alloc HB.out.size _⟩
            · have HT : Hid (r = 0) := HY.out fun j hj => HR.out.2.1 j (by omega)
              have HB : Hid (Below w.heap.size w wr) := HR.out.1
              go_wp2
              go_ret
              exact ⟨by rw [HT.out]; rfl, HB.out⟩)
      · rw [chk_bad (fun q => h3 q.2.2)]
        have e3 : ((b == 0) = true ∧ (bt == 0) = false) ∨ ((b == 0) = false ∧ (bt == 0) = true) := by
          by_cases q : b = 0
          · by_cases q2 : bt = 0
            · exact absurd ⟨fun _ => q2, fun _ => q⟩ h3
            · exact .inl ⟨beq_iff_eq.2 q, beq_eq_false_iff_ne.2 q2⟩
          · by_cases q2 : bt = 0
            · exact .inr ⟨beq_eq_false_iff_ne.2 q, beq_iff_eq.2 q2⟩
            · exact absurd ⟨fun e => absurd e q, fun e => absurd e q2⟩ h3
        generalize es.length = n at *
        clear h3
        rcases e3 with ⟨e3, e4⟩ | ⟨e3, e4⟩
        all_goals (
          go_enter Try.func11, Try.ntmps11
          go_wp2_with (go_at_call 35; refine (index_any _ _).mono ?_; rintro e w4 ⟨rfl, h4⟩; have h5 := h4.symm; clear h4; subst h5)
          go_ret
          exact ⟨rfl, (Below.refl _ _).alloc (Nat.le_refl _) _⟩)
end Go.Proofs.Ytmpmbgjdbahmbaa
