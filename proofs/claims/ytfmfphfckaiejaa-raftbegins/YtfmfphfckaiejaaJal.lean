/-
  The program's Put: its contract.
-/
import Derived.Test.YtfmfphfckaiejaaJaj
import Derived.Test.YtfmfphfckaiejaaJai
import Derived.Test.YtfmfphfckaiejaaJac
namespace Go.Proofs.Ytfmfphfckaiejaa
section
open Go.RowKit
set_option linter.unusedVariables false


/-- What Put answers. -/
def PutP (b bt : Int) (x : List En × Int × Bool) (w : World) (e : Ending) (w' : World) : Prop := ∃ ra rc, e = .returned (.tuple #[.agg #[.int .i64 b, .int .i64 bt, .slice ra x.1.length rc], .int .i64 x.2.1, .bool x.2.2]) ∧ EnsV w' (fun g => w.heap.size ≤ g) ra rc x.1 ∧ Below w.heap.size w w'
theorem PutP.box {b bt : Int} {es : List En} {q : Int} {y : Bool} {w0 wx : World} {M : Nat} {u0 u1 u2 v0 v1 : Value} {ra : Option Addr} {rc : Nat} {w' : World} (hE : EnsV w' (fun g => wx.heap.size ≤ g) ra rc es) (hB : Below wx.heap.size wx w') (hb : Below w0.heap.size w0 wx) (hC : Cell3 wx M u0 u1 u2) (hM : w0.heap.size ≤ M) : PutP b bt (es, q, y) w0 (.returned (.tuple #[.agg #[.int .i64 b, .int .i64 bt, .slice ra es.length rc], .int .i64 q, .bool y])) (((w'.setCell ⟨M, 0, none⟩ v0).setCell ⟨M, 1, none⟩ v1).setCell ⟨M, 2, none⟩ (.slice ra es.length rc)) := by
  have hl := hC.lt
  have hs := hb.size
  exact ⟨ra, rc, rfl, boxed_ens hE (fun g hg => ⟨by omega, by omega⟩), boxed_below (hb.trans (hB.mono hs)) hM⟩
end
section
open Go.RowKit
set_option linter.unusedVariables false


/-- No more than is waited for. -/
def Light (es : List En) : Prop := es.length ≤ 300 ∧ ∀ j, j < es.length → (es.getD j zE).2.length ≤ 6020
def ixM (x : Int) : Bool := decide (0 ≤ x) && decide (x ≤ 1099511627776)
theorem ix_yes {x : Int} (h : 0 ≤ x ∧ x ≤ 1099511627776) : ixM x = true := by unfold ixM; rw [decide_eq_true h.1, decide_eq_true h.2]; rfl
theorem ix_no {x : Int} (h : ¬ (0 ≤ x ∧ x ≤ 1099511627776)) : ixM x = false := by
  unfold ixM
  by_cases h1 : 0 ≤ x
  · rw [decide_eq_false (p := x ≤ 1099511627776) (fun q => h ⟨h1, q⟩), Bool.and_false]
  · rw [decide_eq_false h1, Bool.false_and]
theorem ix_is {x : Int} (h : ixM x = true) : 0 ≤ x ∧ x ≤ 1099511627776 := Classical.byContradiction fun q => by rw [ix_no q] at h; cases h
set_option maxRecDepth 100000 in
theorem index_any (x : Int) (w : World) : Calls Try.prog 53 #[.int .i64 x] w fun e w' => e = .returned (.bool (ixM x)) ∧ w' = w := by
  unfold ixM
  by_cases h1 : 0 ≤ x
  · by_cases h2 : x ≤ 1099511627776
    · rw [decide_eq_true h1, decide_eq_true h2]
      go_enter Try.func53, Try.ntmps53
      go_wp2
      go_ret
      exact ⟨rfl, rfl⟩
    · rw [decide_eq_true h1, decide_eq_false h2]
      go_enter Try.func53, Try.ntmps53
      go_wp2
      go_ret
      exact ⟨rfl, rfl⟩
  · rw [decide_eq_false h1]
    go_enter Try.func53, Try.ntmps53
    go_wp2
    go_ret
    exact ⟨rfl, rfl⟩
/-- The least that may stand behind the first ones. -/
def Lst (bt : Int) (es : List En) (i : Nat) (L : Int) : Prop := (i = 0 → L = max bt 1) ∧ (0 < i → L = tOf es (i - 1))
def good (bt : Int) (es : List En) (i : Nat) : Prop := 1 ≤ tOf es i ∧ tOf es i ≤ 1099511627776 ∧ bt ≤ tOf es i ∧ (0 < i → tOf es (i - 1) ≤ tOf es i)
theorem good_iff {bt L : Int} {es : List En} {i : Nat} (h : ∀ j, j < i → good bt es j) (hL : Lst bt es i L) : good bt es i ↔ (L ≤ tOf es i ∧ ixM (tOf es i) = true) := by
  obtain ⟨l1, l2⟩ := hL
  constructor
  · rintro ⟨q1, q2, q3, q4⟩
    refine ⟨?_, ix_yes ⟨by omega, q2⟩⟩
    by_cases h0 : i = 0
    · rw [l1 h0]; omega
    · rw [l2 (by omega)]; exact q4 (by omega)
  · rintro ⟨q1, q2⟩
    have q3 := ix_is q2
    by_cases h0 : i = 0
    · have := l1 h0
      exact ⟨by omega, q3.2, by omega, fun q => absurd q (by omega)⟩
    · have e := l2 (by omega)
      have g := h (i - 1) (by omega)
      obtain ⟨g1, g2, g3, g4⟩ := g
      exact ⟨by omega, q3.2, by omega, fun _ => by omega⟩
theorem chk_ok {b bt : Int} {es : List En} (h : ixM b = true) (h2 : ixM bt = true) (h3 : b = 0 ↔ bt = 0) (h4 : ∀ i, i < es.length → good bt es i) : chkM b bt es = 0 := chk_zero.2 ⟨⟨(ix_is h).1, (ix_is h).2, (ix_is h2).1, (ix_is h2).2, h3⟩, h4⟩
theorem chk_bad {b bt : Int} {es : List En} (h : ¬ (ixM b = true ∧ ixM bt = true ∧ (b = 0 ↔ bt = 0))) : chkM b bt es = 1 := chk_head fun q => h ⟨ix_yes ⟨q.1, q.2.1⟩, ix_yes ⟨q.2.2.1, q.2.2.2.1⟩, q.2.2.2.2⟩
set_option maxRecDepth 100000 in
set_option maxHeartbeats 800000 in
theorem Check_any (P : Nat → Prop) (b bt : Int) (a : Option Addr) (c : Nat) (es : List En) (w : World) (hb : InR b) (hbt : InR bt) (hE : EnsV w P a c es) : Calls Try.prog 28 #[.agg #[.int .i64 b, .int .i64 bt, .slice a es.length c]] w fun e w' => e = .returned (.int .i64 (chkM b bt es)) ∧ Below w.heap.size w w' := by
  have h1 := hE.cap1
  have h2 := hE.cap2
  obtain ⟨b1, b2⟩ := hb
  obtain ⟨t1, t2⟩ := hbt
  cases i1 : ixM b with
  | false =>
    rw [chk_bad (fun q => by rw [i1] at q; cases q.1)]
    generalize es.length = n at *
    go_enter Try.func28, Try.ntmps28
    go_wp2_with (go_at_call 53; refine (index_any _ _).mono ?_; rintro e w4 ⟨rfl, h4⟩; have h5 := h4.symm; clear h4; subst h5)
    go_ret
    exact ⟨rfl, (Below.refl _ _).alloc (Nat.le_refl _) _⟩
  | true =>
    cases i2 : ixM bt with
    | false =>
      rw [chk_bad (fun q => by rw [i2] at q; cases q.2.1)]
      generalize es.length = n at *
      go_enter Try.func28, Try.ntmps28
      go_wp2_with (go_at_call 53; refine (index_any _ _).mono ?_; rintro e w4 ⟨rfl, h4⟩; have h5 := h4.symm; clear h4; subst h5)
      go_ret
      exact ⟨rfl, (Below.refl _ _).alloc (Nat.le_refl _) _⟩
    | true =>
      by_cases h3 : b = 0 ↔ bt = 0
      · have HC : Hid (∀ wr i, Below w.heap.size w wr → i < es.length → ∃ g o ka kn kc, a = some ⟨g, o, none⟩ ∧ wr.cell? ⟨g, o + i * 2, none⟩ = some (.int .i64 (tOf es i)) ∧ wr.cell? ⟨g, o + i * 2 + 1, none⟩ = some (.slice ka kn kc) ∧ InR (tOf es i) ∧ g < wr.heap.size) := fun wr i q hi => by
          obtain ⟨g, o, ka, kc, q1, q2, q3, q4, q5, q6, _⟩ := (hE.below q).at_ hi
          exact ⟨g, o, ka, _, kc, q1, q2, q3, q5, q6⟩
        have HY : Hid ((∀ i, i < es.length → good bt es i) → chkM b bt es = 0) := fun q => chk_ok i1 i2 h3 q
        have HN : Hid (∀ i, i < es.length → ¬ good bt es i → chkM b bt es = 1) := fun i q1 q2 => chk_at q1 q2
        have HG : Hid (∀ i L, (∀ j, j < i → good bt es j) → Lst bt es i L → (good bt es i ↔ (L ≤ tOf es i ∧ ixM (tOf es i) = true))) := fun i L q1 q2 => good_iff q1 q2
        have e3 : (b == 0) = (bt == 0) := by
          by_cases q : b = 0
          · rw [h3.1 q, q]
          · have q2 : ¬ bt = 0 := fun e => q (h3.2 e)
            rw [beq_eq_false_iff_ne.2 q, beq_eq_false_iff_ne.2 q2]
        generalize chkM b bt es = r at *
        generalize es.length = n at *
        clear h3 hE
        go_enter Try.func28, Try.ntmps28
        go_wp2_with (go_at_call 53; refine (index_any _ _).mono ?_; rintro e w4 ⟨rfl, h4⟩; have h5 := h4.symm; clear h4; subst h5)
        all_goals (
          go_loopw [3, 31] (fun x y wr => ∃ (i : Nat) (L : Int), i ≤ n ∧ x = .int .i64 L ∧ y = .int .i64 i ∧ Hid (Below w.heap.size w wr ∧ (∀ j, j < i → good bt es j) ∧ Lst bt es i L)) (fun x y _ => n - (intOf y).toNat)
          case atStart => exact ⟨0, _, Nat.zero_le _, rfl, rfl, (Below.refl _ _).alloc (Nat.le_refl _) _, fun j hj => absurd hj (Nat.not_lt_zero _), fun _ => by omega, fun q => absurd q (Nat.lt_irrefl _)⟩
          case round =>
            obtain ⟨i, L, hi, rfl, rfl, HR⟩ := hrel
            by_cases hlt : i < n
            · obtain ⟨g, o, ka, kn, kc, rfl, x1, x2, ⟨x3, x4⟩, x5⟩ := HC.out wr i HR.out.1 hlt
              have HGi := HG.out i L HR.out.2.1 HR.out.2.2
              have HS : Hid (good bt es i → (∀ j, j < i + 1 → good bt es j) ∧ Lst bt es (i + 1) (tOf es i)) := fun q => ⟨fun j hj => by
                by_cases e : j = i
                · subst e; exact q
                · exact HR.out.2.1 j (by omega), fun q => absurd q (by omega), fun _ => rfl⟩
              have HF : Hid (¬ good bt es i → r = 1) := fun q => HN.out i hlt q
              have HB : Hid (Below w.heap.size w wr) := HR.out.1
              have HGG : Hid (good bt es i ↔ (L ≤ tOf es i ∧ ixM (tOf es i) = true)) := HGi
              clear HGi HR
              generalize tOf es i = t at *
              by_cases c1 : L ≤ t
              · cases c2 : ixM t with
                | true =>
                  have HQ := HS.out (HGG.out.2 ⟨c1, c2⟩)
                  have HQ2 : Hid ((∀ j, j < i + 1 → good bt es j) ∧ Lst bt es (i + 1) t) := HQ
                  clear HQ
                  go_wp2_with (go_at_call 53; refine (index_any _ _).mono ?_; rintro e w4 ⟨rfl, h4⟩; have h5 := h4.symm; clear h4; subst h5)
                  go_roundw
                  case rel => exact ⟨i + 1, t, by omega, rfl, by go_num, HB.out.alloc HB.out.size _, HQ2.out.1, HQ2.out.2⟩
                  case measure => simp [intOf]; omega
                | false =>
                  have HF2 : Hid (r = 1) := HF.out fun q => by rw [(HGG.out.1 q).2] at c2; cases c2
                  go_wp2_with (go_at_call 53; refine (index_any _ _).mono ?_; rintro e w4 ⟨rfl, h4⟩; have h5 := h4.symm; clear h4; subst h5)
                  go_ret
                  exact ⟨by rw [HF2.out]; rfl, HB.out.alloc HB.out.size _⟩
              · have HF2 : Hid (r = 1) := HF.out fun q => c1 (HGG.out.1 q).1
                go_wp2
                go_ret
                exact ⟨by rw [HF2.out]; rfl, HB.out.alloc HB.out.size _⟩
            · have HT : Hid (r = 0) := HY.out fun j hj => HR.out.2.1 j (by omega)
              have HB : Hid (Below w.heap.size w wr) := HR.out.1
              go_wp2
              go_ret
              exact ⟨by rw [HT.out]; rfl, HB.out⟩)
      · rw [chk_bad (fun q => h3 q.2.2)]
        have e3 : ((b == 0) = true ∧ (bt == 0) = false) ∨ ((b == 0) = false ∧ (bt == 0) = true) := by
          by_cases q : b = 0
          · by_cases q2 : bt = 0
            · exact absurd ⟨fun _ => q2, fun _ => q⟩ h3
            · exact .inl ⟨beq_iff_eq.2 q, beq_eq_false_iff_ne.2 q2⟩
          · by_cases q2 : bt = 0
            · exact .inr ⟨beq_eq_false_iff_ne.2 q, beq_iff_eq.2 q2⟩
            · exact absurd ⟨fun e => absurd e q, fun e => absurd e q2⟩ h3
        generalize es.length = n at *
        clear h3
        rcases e3 with ⟨e3, e4⟩ | ⟨e3, e4⟩
        all_goals (
          go_enter Try.func28, Try.ntmps28
          go_wp2_with (go_at_call 53; refine (index_any _ _).mono ?_; rintro e w4 ⟨rfl, h4⟩; have h5 := h4.symm; clear h4; subst h5)
          go_ret
          exact ⟨rfl, (Below.refl _ _).alloc (Nat.le_refl _) _⟩)
end
section
open Go.RowKit
set_option linter.unusedVariables false


set_option maxRecDepth 100000 in
set_option maxHeartbeats 800000 in
theorem RCheck_any (P : Nat → Prop) (b bt : Int) (a : Option Addr) (c : Nat) (es : List En) (w : World) (hb : InR b) (hbt : InR bt) (hE : EnsV w P a c es) : Calls Try.prog 33 #[.agg #[.int .i64 b, .int .i64 bt, .slice a es.length c]] w fun e w' => e = .returned (.int .i64 (chkM b bt es)) ∧ Below w.heap.size w w' := by
  have h1 := hE.cap1
  have h2 := hE.cap2
  obtain ⟨b1, b2⟩ := hb
  obtain ⟨t1, t2⟩ := hbt
  have HB0 : Hid (∀ o, Below w.heap.size w (w.alloc o)) := fun o => (Below.refl _ _).alloc (Nat.le_refl _) o
  by_cases i1 : 0 ≤ b ∧ b ≤ 1099511627776
  · by_cases i2 : 0 ≤ bt ∧ bt ≤ 1099511627776
    · by_cases h3 : b = 0 ↔ bt = 0
      · have HC : Hid (∀ i, i < es.length → ∃ g o, a = some ⟨g, o, none⟩ ∧ w.cell? ⟨g, o + i * 2, none⟩ = some (.int .i64 (tOf es i)) ∧ InR (tOf es i) ∧ g < w.heap.size) := fun i hi => by
          obtain ⟨g, o, ka, kc, q1, q2, q3, q4, q5, q6, _⟩ := hE.at_ hi
          exact ⟨g, o, q1, q2, q5, q6⟩
        have HY : Hid ((∀ i, i < es.length → good bt es i) → chkM b bt es = 0) := fun q => chk_ok (ix_yes i1) (ix_yes i2) h3 q
        have HN : Hid (∀ i, i < es.length → ¬ good bt es i → chkM b bt es = 1) := fun i q1 q2 => chk_at q1 q2
        generalize chkM b bt es = r at *
        generalize es.length = n at *
        have hz : (b = 0 ∧ bt = 0) ∨ (¬ b = 0 ∧ ¬ bt = 0) := by
          by_cases q : b = 0
          · exact .inl ⟨q, h3.1 q⟩
          · exact .inr ⟨q, fun e => q (h3.2 e)⟩
        obtain ⟨i1, i1'⟩ := i1
        obtain ⟨i2, i2'⟩ := i2
        clear h3 hE
        have d1 : decide (b < 0) = false := decide_eq_false (by omega)
        have d2 : decide (1099511627776 < b) = false := decide_eq_false (by omega)
        have d3 : decide (bt < 0) = false := decide_eq_false (by omega)
        have d4 : decide (1099511627776 < bt) = false := decide_eq_false (by omega)
        have key : (b = 0 ∧ bt = 0) ∨ ((b == 0) = false ∧ (b != 0) = true ∧ (bt == 0) = false ∧ (bt != 0) = true) := by
          rcases hz with hz | ⟨z1, z2⟩
          · exact .inl hz
          · exact .inr ⟨beq_eq_false_iff_ne.2 z1, by simp [z1], beq_eq_false_iff_ne.2 z2, by simp [z2]⟩
        clear hz
        rcases key with ⟨rfl, rfl⟩ | ⟨z1, z2, z3, z4⟩
        · go_enter Try.func33, Try.ntmps33
          go_wp2
          go_loopw [4] (fun y wr => ∃ (i : Nat), i ≤ n ∧ y = .int .i64 i ∧ w.alloc (.cells #[.int .i64 0, .int .i64 0, .slice a n c] 24) = wr ∧ Hid (∀ j, j < i → good 0 es j)) (fun y _ => n - (intOf y).toNat)
          case atStart => exact ⟨0, Nat.zero_le _, rfl, rfl, fun j hj => absurd hj (Nat.not_lt_zero _)⟩
          case round =>
            obtain ⟨i, hi, rfl, rfl, HR⟩ := hrel
            by_cases hlt : i < n
            · cases i with
              | zero =>
                obtain ⟨g, o, rfl, x1, ⟨x3, x4⟩, x5⟩ := HC.out (0) hlt
                rw [Nat.zero_mul, Nat.add_zero] at x1
                have hne : g ≠ w.heap.size := by omega
                by_cases k1 : tOf es (0) < 1
                · have HF : Hid (r = 1) := HN.out _ hlt fun q => by obtain ⟨g1, g2, g3, g4⟩ := q; omega
                  clear HC HY HN HR
                  generalize tOf es 0 = t at *
                  go_wp2
                  go_ret
                  exact ⟨by rw [HF.out]; rfl, HB0.out _⟩
                have d5 := decide_eq_false k1
                by_cases k2 : 1099511627776 < tOf es (0)
                · have HF : Hid (r = 1) := HN.out _ hlt fun q => by obtain ⟨g1, g2, g3, g4⟩ := q; omega
                  clear HC HY HN HR
                  generalize tOf es 0 = t at *
                  go_wp2
                  go_ret
                  exact ⟨by rw [HF.out]; rfl, HB0.out _⟩
                have d6 := decide_eq_false k2
                by_cases k3 : tOf es (0) < 0
                · exact absurd k3 (by omega)
                have d7 := decide_eq_false k3
                have HQ : Hid (∀ k, k < 0 + 1 → good 0 es k) := fun k hk => by
                  obtain rfl : k = 0 := by omega
                  exact ⟨by omega, by omega, by omega, fun q => absurd q (by omega)⟩
                clear HC HY HN HR
                generalize tOf es 0 = t at *
                go_wp2
                go_roundw
                case rel => exact ⟨0 + 1, by omega, by go_num, by first | trivial | rfl, HQ.out⟩
                case measure => simp [intOf]; omega
              | succ j =>
                obtain ⟨g, o, rfl, x1, ⟨x3, x4⟩, x5⟩ := HC.out (j + 1) hlt
                obtain ⟨g2, o2, y0, y1, ⟨y3, y4⟩, y5⟩ := HC.out j (by omega)
                cases y0
                have hne : g ≠ w.heap.size := by omega
                by_cases k1 : tOf es (j + 1) < 1
                · have HF : Hid (r = 1) := HN.out _ hlt fun q => by obtain ⟨g1, g2, g3, g4⟩ := q; omega
                  clear HC HY HN HR
                  generalize tOf es j + 1 = t at *
                  go_wp2
                  go_ret
                  exact ⟨by rw [HF.out]; rfl, HB0.out _⟩
                have d5 := decide_eq_false k1
                by_cases k2 : 1099511627776 < tOf es (j + 1)
                · have HF : Hid (r = 1) := HN.out _ hlt fun q => by obtain ⟨g1, g2, g3, g4⟩ := q; omega
                  clear HC HY HN HR
                  generalize tOf es j + 1 = t at *
                  go_wp2
                  go_ret
                  exact ⟨by rw [HF.out]; rfl, HB0.out _⟩
                have d6 := decide_eq_false k2
                by_cases k3 : tOf es (j + 1) < 0
                · exact absurd k3 (by omega)
                have d7 := decide_eq_false k3
                by_cases k4 : tOf es (j + 1) < tOf es j
                · have HF : Hid (r = 1) := HN.out _ hlt fun q => by obtain ⟨g1, g2, g3, g4⟩ := q; have := g4 (by omega); rw [Nat.add_sub_cancel] at this; omega
                  clear HC HY HN HR
                  generalize tOf es (j + 1) = t at *
                  generalize tOf es j = t0 at *
                  go_wp2
                  go_ret
                  exact ⟨by rw [HF.out]; rfl, HB0.out _⟩
                have d8 := decide_eq_false k4
                have HQ : Hid (∀ k, k < j + 1 + 1 → good 0 es k) := fun k hk => by
                  by_cases e : k = j + 1
                  · subst e; exact ⟨by omega, by omega, by omega, fun _ => by rw [Nat.add_sub_cancel]; omega⟩
                  · exact HR.out k (by omega)
                clear HC HY HN HR
                generalize tOf es (j + 1) = t at *
                generalize tOf es j = t0 at *
                go_wp2
                go_roundw
                case rel => exact ⟨j + 1 + 1, by omega, by go_num, by first | trivial | rfl, HQ.out⟩
                case measure => simp [intOf]; omega
            · have HT : Hid (r = 0) := HY.out fun j hj => HR.out j (by omega)
              clear HC HY HN HR
              go_wp2
              go_ret
              exact ⟨by rw [HT.out]; rfl, HB0.out _⟩
        · go_enter Try.func33, Try.ntmps33
          go_wp2
          go_loopw [4] (fun y wr => ∃ (i : Nat), i ≤ n ∧ y = .int .i64 i ∧ w.alloc (.cells #[.int .i64 b, .int .i64 bt, .slice a n c] 24) = wr ∧ Hid (∀ j, j < i → good bt es j)) (fun y _ => n - (intOf y).toNat)
          case atStart => exact ⟨0, Nat.zero_le _, rfl, rfl, fun j hj => absurd hj (Nat.not_lt_zero _)⟩
          case round =>
            obtain ⟨i, hi, rfl, rfl, HR⟩ := hrel
            by_cases hlt : i < n
            · cases i with
              | zero =>
                obtain ⟨g, o, rfl, x1, ⟨x3, x4⟩, x5⟩ := HC.out (0) hlt
                rw [Nat.zero_mul, Nat.add_zero] at x1
                have hne : g ≠ w.heap.size := by omega
                by_cases k1 : tOf es (0) < 1
                · have HF : Hid (r = 1) := HN.out _ hlt fun q => by obtain ⟨g1, g2, g3, g4⟩ := q; omega
                  clear HC HY HN HR
                  generalize tOf es 0 = t at *
                  go_wp2
                  go_ret
                  exact ⟨by rw [HF.out]; rfl, HB0.out _⟩
                have d5 := decide_eq_false k1
                by_cases k2 : 1099511627776 < tOf es (0)
                · have HF : Hid (r = 1) := HN.out _ hlt fun q => by obtain ⟨g1, g2, g3, g4⟩ := q; omega
                  clear HC HY HN HR
                  generalize tOf es 0 = t at *
                  go_wp2
                  go_ret
                  exact ⟨by rw [HF.out]; rfl, HB0.out _⟩
                have d6 := decide_eq_false k2
                by_cases k3 : tOf es (0) < bt
                · have HF : Hid (r = 1) := HN.out _ hlt fun q => by obtain ⟨g1, g2, g3, g4⟩ := q; omega
                  clear HC HY HN HR
                  generalize tOf es 0 = t at *
                  go_wp2
                  go_ret
                  exact ⟨by rw [HF.out]; rfl, HB0.out _⟩
                have d7 := decide_eq_false k3
                have HQ : Hid (∀ k, k < 0 + 1 → good bt es k) := fun k hk => by
                  obtain rfl : k = 0 := by omega
                  exact ⟨by omega, by omega, by omega, fun q => absurd q (by omega)⟩
                clear HC HY HN HR
                generalize tOf es 0 = t at *
                go_wp2
                go_roundw
                case rel => exact ⟨0 + 1, by omega, by go_num, by first | trivial | rfl, HQ.out⟩
                case measure => simp [intOf]; omega
              | succ j =>
                obtain ⟨g, o, rfl, x1, ⟨x3, x4⟩, x5⟩ := HC.out (j + 1) hlt
                obtain ⟨g2, o2, y0, y1, ⟨y3, y4⟩, y5⟩ := HC.out j (by omega)
                cases y0
                have hne : g ≠ w.heap.size := by omega
                by_cases k1 : tOf es (j + 1) < 1
                · have HF : Hid (r = 1) := HN.out _ hlt fun q => by obtain ⟨g1, g2, g3, g4⟩ := q; omega
                  clear HC HY HN HR
                  generalize tOf es j + 1 = t at *
                  go_wp2
                  go_ret
                  exact ⟨by rw [HF.out]; rfl, HB0.out _⟩
                have d5 := decide_eq_false k1
                by_cases k2 : 1099511627776 < tOf es (j + 1)
                · have HF : Hid (r = 1) := HN.out _ hlt fun q => by obtain ⟨g1, g2, g3, g4⟩ := q; omega
                  clear HC HY HN HR
                  generalize tOf es j + 1 = t at *
                  go_wp2
                  go_ret
                  exact ⟨by rw [HF.out]; rfl, HB0.out _⟩
                have d6 := decide_eq_false k2
                by_cases k3 : tOf es (j + 1) < bt
                · have HF : Hid (r = 1) := HN.out _ hlt fun q => by obtain ⟨g1, g2, g3, g4⟩ := q; omega
                  clear HC HY HN HR
                  generalize tOf es j + 1 = t at *
                  go_wp2
                  go_ret
                  exact ⟨by rw [HF.out]; rfl, HB0.out _⟩
                have d7 := decide_eq_false k3
                by_cases k4 : tOf es (j + 1) < tOf es j
                · have HF : Hid (r = 1) := HN.out _ hlt fun q => by obtain ⟨g1, g2, g3, g4⟩ := q; have := g4 (by omega); rw [Nat.add_sub_cancel] at this; omega
                  clear HC HY HN HR
                  generalize tOf es (j + 1) = t at *
                  generalize tOf es j = t0 at *
                  go_wp2
                  go_ret
                  exact ⟨by rw [HF.out]; rfl, HB0.out _⟩
                have d8 := decide_eq_false k4
                have HQ : Hid (∀ k, k < j + 1 + 1 → good bt es k) := fun k hk => by
                  by_cases e : k = j + 1
                  · subst e; exact ⟨by omega, by omega, by omega, fun _ => by rw [Nat.add_sub_cancel]; omega⟩
                  · exact HR.out k (by omega)
                clear HC HY HN HR
                generalize tOf es (j + 1) = t at *
                generalize tOf es j = t0 at *
                go_wp2
                go_roundw
                case rel => exact ⟨j + 1 + 1, by omega, by go_num, by first | trivial | rfl, HQ.out⟩
                case measure => simp [intOf]; omega
            · have HT : Hid (r = 0) := HY.out fun j hj => HR.out j (by omega)
              clear HC HY HN HR
              go_wp2
              go_ret
              exact ⟨by rw [HT.out]; rfl, HB0.out _⟩
      · rw [chk_head (fun q => h3 q.2.2.2.2)]
        have hz : (b = 0 ∧ ¬ bt = 0) ∨ (¬ b = 0 ∧ bt = 0) := by
          by_cases q : b = 0
          · by_cases q2 : bt = 0
            · exact absurd ⟨fun _ => q2, fun _ => q⟩ h3
            · exact .inl ⟨q, q2⟩
          · by_cases q2 : bt = 0
            · exact .inr ⟨q, q2⟩
            · exact absurd ⟨fun e => absurd e q, fun e => absurd e q2⟩ h3
        generalize es.length = n at *
        obtain ⟨i1, i1'⟩ := i1
        obtain ⟨i2, i2'⟩ := i2
        clear h3
        rcases hz with ⟨z1, z2⟩ | ⟨z1, z2⟩
        all_goals (
          go_enter Try.func33, Try.ntmps33
          go_wp2
          go_ret
          exact ⟨rfl, HB0.out _⟩)
    · rw [chk_head (fun q => i2 ⟨q.2.2.1, q.2.2.2.1⟩)]
      generalize es.length = n at *
      obtain ⟨i1, i1'⟩ := i1
      have hz : bt < 0 ∨ (¬ bt < 0 ∧ 1099511627776 < bt) := by omega
      clear i2
      rcases hz with z1 | ⟨z1, z2⟩
      all_goals (
        go_enter Try.func33, Try.ntmps33
        go_wp2
        go_ret
        exact ⟨rfl, HB0.out _⟩)
  · rw [chk_head (fun q => i1 ⟨q.1, q.2.1⟩)]
    generalize es.length = n at *
    have hz : b < 0 ∨ (¬ b < 0 ∧ 1099511627776 < b) := by omega
    clear i1
    rcases hz with z1 | ⟨z1, z2⟩
    all_goals (
      go_enter Try.func33, Try.ntmps33
      go_wp2
      go_ret
      exact ⟨rfl, HB0.out _⟩)
end
end Go.Proofs.Ytfmfphfckaiejaa
