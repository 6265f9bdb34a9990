/-
  RaftBegins: Weight, the document's Last and Term of any log, its New.
-/
import Derived.Test.YtfmfphfckaiejaaJaw
import Derived.Test.YtfmfphfckaiejaaJal
import Derived.Test.YtfmfphfckaiejaaJac
namespace Go.Proofs.Ytfmfphfckaiejaa
section
open Go.RowKit
set_option linter.unusedVariables false
set_option linter.unusedSimpArgs false


set_option maxRecDepth 100000 in
set_option maxHeartbeats 400000 in
theorem WeightB_any (P : Nat → Prop) (a : Option Addr) (c : Nat) (es : List En) (w : World) (hE : EnsV w P a c es) : Calls Try.prog 7 #[.slice a es.length c, .int .i64 200] w fun e w' => ∃ k : Int, e = .returned (.int .i64 k) ∧ (k ≤ 200 → Light es) ∧ w' = w := by
  have HC : Hid (∀ i, i < es.length → ∃ b o ka kc, a = some ⟨b, o, none⟩ ∧ w.cell? ⟨b, o + i * 2 + 1, none⟩ = some (.slice ka (es.getD i zE).2.length kc) ∧ (es.getD i zE).2.length ≤ 9223372036854775807) := fun i hi => by
    obtain ⟨b, o, ka, kc, q1, q2, q3, q4, _⟩ := hE.at_ hi
    obtain ⟨_, _, e, _, r1, r2, r3⟩ := q4
    simp only [Value.slice.injEq] at e
    exact ⟨b, o, ka, kc, q1, q3, r3.1⟩
  have h1 := hE.cap1
  have h2 := hE.cap2
  have HL : Hid (∀ i m : Nat, i ≤ m → (∀ j, j < i → (es.getD j zE).2.length / 20 + 1 ≤ m) → i = es.length → (m : Int) ≤ 200 → Light es) := fun i m q1 q2 q3 q4 => ⟨by omega, fun j hj => by have := q2 j (by omega); omega⟩
  generalize hn : es.length = n at *
  clear hE
  go_enter Try.func7, Try.ntmps7
  go_wp2
  go_loopw [5, 6] (fun x y wr => ∃ (i m : Nat), i ≤ n ∧ x = .int .i64 (m : Nat) ∧ y = .int .i64 i ∧ m ≤ 500000000000000000 ∧ w = wr ∧ Hid (i ≤ m ∧ ∀ j, j < i → (es.getD j zE).2.length / 20 + 1 ≤ m)) (fun x y _ => n - (intOf y).toNat)
  case atStart => exact ⟨0, 0, Nat.zero_le _, rfl, rfl, by decide, rfl, Nat.le_refl _, fun j hj => absurd hj (Nat.not_lt_zero _)⟩
  case round =>
    obtain ⟨i, m, hi, rfl, rfl, hm, rfl, HR⟩ := hrel
    by_cases hlt : i < n
    · by_cases hm3 : m ≤ 200
      · obtain ⟨b, o, ka, kc, rfl, x1, x2⟩ := HC.out i hlt
        have HS : Hid (i + 1 ≤ m + 1 + (es.getD i zE).2.length / 20 ∧ ∀ j, j < i + 1 → (es.getD j zE).2.length / 20 + 1 ≤ m + 1 + (es.getD i zE).2.length / 20) := ⟨by have := HR.out.1; omega, fun j hj => by
          by_cases e : j = i
          · subst e; omega
          · have := HR.out.2 j (by omega); omega⟩
        generalize (es.getD i zE).2.length = L at *
        go_wp2
        go_roundw
        case rel => exact ⟨i + 1, m + 1 + L / 20, by omega, by go_num, by go_num, by omega, trivial, HS.out⟩
        case measure => simp [intOf]; omega
      · go_wp2
        go_ret
        exact ⟨_, rfl, fun q => absurd q (by omega), rfl⟩
    · have HT : Hid ((m : Int) ≤ 200 → Light es) := fun q => HL.out i m HR.out.1 HR.out.2 (by omega) q
      go_wp2
      go_ret
      exact ⟨_, rfl, HT.out, rfl⟩
set_option maxRecDepth 100000 in
theorem RLastW_any (b bt : Int) (a : Option Addr) (n c : Nat) (w : World) (hb : InR b) (hn : n ≤ 2000) : Calls Try.prog 21 #[.agg #[.int .i64 b, .int .i64 bt, .slice a n c]] w fun e w' => ∃ k, e = .returned (.int .i64 k) ∧ InR k ∧ Below w.heap.size w w' := by
  obtain ⟨k, hk⟩ : ∃ k, IntKind.i64.wrap (b + (n : Int)) = k := ⟨_, rfl⟩
  have HI : Hid (InR k) := by rw [← hk]; constructor <;> (rw [IntKind.wrap_i64]; omega)
  go_enter Try.func21, Try.ntmps21
  go_wp2
  go_ret
  exact ⟨_, rfl, HI.out, (Below.refl _ _).alloc (Nat.le_refl _) _⟩
set_option maxRecDepth 100000 in
set_option maxHeartbeats 400000 in
theorem RTermW_any {P : Nat → Prop} (b bt : Int) {a : Option Addr} {c : Nat} {es : List En} (p : Int) {w : World} (hn : es.length ≤ 2000) (hE : EnsV w P a c es) : Calls Try.prog 32 #[.agg #[.int .i64 b, .int .i64 bt, .slice a es.length c], .int .i64 p] w fun e w' => ∃ t o, e = .returned (.tuple #[.int .i64 t, .bool o]) ∧ Below w.heap.size w w' := by
  have h1 := hE.cap1
  have h2 := hE.cap2
  have HC : Hid (∀ i, i < es.length → ∃ g o, a = some ⟨g, o, none⟩ ∧ w.cell? ⟨g, o + i * 2, none⟩ = some (.int .i64 (tOf es i)) ∧ g < w.heap.size) := fun i hi => by
    obtain ⟨g, o, ka, kc, q1, q2, q3, q4, q5, q6, _⟩ := hE.at_ hi
    exact ⟨g, o, q1, q2, q6⟩
  have HB0 : Hid (∀ o, Below w.heap.size w (w.alloc o)) := fun o => (Below.refl _ _).alloc (Nat.le_refl _) o
  clear hE
  by_cases c3 : p = b
  · subst c3
    generalize es.length = n at *
    go_enter Try.func32, Try.ntmps32
    go_wp2
    go_ret2
    exact ⟨_, _, rfl, HB0.out _⟩
  · have c4 : (p == b) = false := beq_eq_false_iff_ne.2 c3
    generalize hn2 : es.length = n at *
    obtain ⟨q1, hq1⟩ : ∃ q, IntKind.i64.wrap (b + 1) = q := ⟨_, rfl⟩
    go_enter Try.func32, Try.ntmps32
    go_wp2
    go_loopw [6] (fun y wr => ∃ (i : Nat), i ≤ n ∧ y = .int .i64 i ∧ w.alloc (.cells #[.int .i64 b, .int .i64 bt, .slice a n c] 24) = wr) (fun y _ => n - (intOf y).toNat)
    case atStart => exact ⟨0, Nat.zero_le _, rfl, rfl⟩
    case round =>
      obtain ⟨i, hi, rfl, rfl⟩ := hrel
      by_cases hlt : i < n
      · obtain ⟨q2, hq2⟩ : ∃ q, IntKind.i64.wrap (q1 + (i : Int)) = q := ⟨_, rfl⟩
        by_cases hpi : q2 = p
        · obtain ⟨g, o, rfl, x1, x3⟩ := HC.out i hlt
          have hne : g ≠ w.heap.size := by omega
          have e1 : (q2 == p) = true := beq_iff_eq.2 hpi
          clear HC
          generalize tOf es i = t at *
          go_wp2
          go_ret2
          exact ⟨_, _, rfl, HB0.out _⟩
        · have e1 : (q2 == p) = false := beq_eq_false_iff_ne.2 hpi
          clear HC
          go_wp2
          go_roundw
          case rel => exact ⟨i + 1, by omega, by go_num, trivial⟩
          case measure => simp [intOf]; omega
      · clear HC
        go_wp2
        go_ret2
        exact ⟨_, _, rfl, HB0.out _⟩
theorem resRNew {w : World} {Q : Nat} {v0 v1 v2 v3 v4 v5 v6 v7 v8 v9 v10 v11 v12 v13 v14 v15 : Value} (tmps : Array Value) (h : Cl16 w Q v0 v1 v2 v3 v4 v5 v6 v7 v8 v9 v10 v11 v12 v13 v14 v15) (h4 : tmps.getD 4 undef = .pointer (some ⟨Q, 0, none⟩)) : (results Try.f10 tmps).run Try.prog w = .ok (.tuple #[.agg #[v0, v1, v2, v3, v4, v5, v6, v7, v8, v9, v10, v11, v12, v13, v14, v15], tmps.getD 5 undef]) w := by
  have h4' : tmps[4]?.getD undef = .pointer (some ⟨Q, 0, none⟩) := by simpa using h4
  simp [results, Try.results10, h4', loadMb h, asAddr]
set_option maxRecDepth 100000 in
set_option maxHeartbeats 1000000 in
theorem RNew_n0 (id n : Int) (w : World)  (h0 : n < 1) : Calls Try.prog 10 #[.int .i64 id, .int .i64 n] w (RsP (newM id n) w) := by
  have HE : Hid (∀ wz, Below w.heap.size w wz → RsP (newM id n) w (.returned (.tuple #[.agg #[.int .i64 0, .int .i64 0, .int .i64 0, .int .i64 0, .int .i64 0, .int .i64 0, .int .i64 0, .int .i64 0, .slice none 0 0, .int .i64 0, .slice none 0 0, .slice none 0 0, .slice none 0 0, .slice none 0 0, .int .i64 0, .int .i64 0], .int .i64 2])) wz) := fun wz q => by
    rw [show newM id n = (zMb, 2) by unfold newM; rw [if_neg (by unfold amongM; omega)]]
    exact ⟨zAd, rfl, MbV.new _ _ _ rfl rfl rfl rfl rfl, q⟩
  have d0 : decide (n < 1) = true := decide_eq_true h0
  have HZ : Hid (Cl16 (w.alloc (.cells #[.int .i64 0, .int .i64 0, .int .i64 0, .int .i64 0, .int .i64 0, .int .i64 0, .int .i64 0, .int .i64 0, .slice none 0 0, .int .i64 0, .slice none 0 0, .slice none 0 0, .slice none 0 0, .slice none 0 0, .int .i64 0, .int .i64 0] 31)) w.heap.size (.int .i64 0) (.int .i64 0) (.int .i64 0) (.int .i64 0) (.int .i64 0) (.int .i64 0) (.int .i64 0) (.int .i64 0) (.slice none 0 0) (.int .i64 0) (.slice none 0 0) (.slice none 0 0) (.slice none 0 0) (.slice none 0 0) (.int .i64 0) (.int .i64 0) ∧ Below w.heap.size w (w.alloc (.cells #[.int .i64 0, .int .i64 0, .int .i64 0, .int .i64 0, .int .i64 0, .int .i64 0, .int .i64 0, .int .i64 0, .slice none 0 0, .int .i64 0, .slice none 0 0, .slice none 0 0, .slice none 0 0, .slice none 0 0, .int .i64 0, .int .i64 0] 31))) := ⟨Cl16.new _ _ _ _ _ _ _ _ _ _ _ _ _ _ _ _ _ _, (Below.refl _ _).alloc (Nat.le_refl _) _⟩
  generalize newM id n = R at *
  go_enter Try.func10, Try.ntmps10
  go_wp2
  obtain ⟨wz, hwz⟩ : ∃ wz, (w.alloc (.cells #[.int .i64 0, .int .i64 0, .int .i64 0, .int .i64 0, .int .i64 0, .int .i64 0, .int .i64 0, .int .i64 0, .slice none 0 0, .int .i64 0, .slice none 0 0, .slice none 0 0, .slice none 0 0, .slice none 0 0, .int .i64 0, .int .i64 0] 31)) = wz := ⟨_, rfl⟩
  rw [hwz] at HZ ⊢
  exact bodyPost_ret (resRNew _ HZ.out.1 rfl) rfl (HE.out _ HZ.out.2)
set_option maxRecDepth 100000 in
set_option maxHeartbeats 1000000 in
theorem RNew_n1 (id n : Int) (w : World) (h0 : ¬ n < 1) (h1 : 7 < n) : Calls Try.prog 10 #[.int .i64 id, .int .i64 n] w (RsP (newM id n) w) := by
  have HE : Hid (∀ wz, Below w.heap.size w wz → RsP (newM id n) w (.returned (.tuple #[.agg #[.int .i64 0, .int .i64 0, .int .i64 0, .int .i64 0, .int .i64 0, .int .i64 0, .int .i64 0, .int .i64 0, .slice none 0 0, .int .i64 0, .slice none 0 0, .slice none 0 0, .slice none 0 0, .slice none 0 0, .int .i64 0, .int .i64 0], .int .i64 2])) wz) := fun wz q => by
    rw [show newM id n = (zMb, 2) by unfold newM; rw [if_neg (by unfold amongM; omega)]]
    exact ⟨zAd, rfl, MbV.new _ _ _ rfl rfl rfl rfl rfl, q⟩
  have d0 : decide (n < 1) = false := decide_eq_false h0
  have d1 : decide (7 < n) = true := decide_eq_true h1
  have HZ : Hid (Cl16 (w.alloc (.cells #[.int .i64 0, .int .i64 0, .int .i64 0, .int .i64 0, .int .i64 0, .int .i64 0, .int .i64 0, .int .i64 0, .slice none 0 0, .int .i64 0, .slice none 0 0, .slice none 0 0, .slice none 0 0, .slice none 0 0, .int .i64 0, .int .i64 0] 31)) w.heap.size (.int .i64 0) (.int .i64 0) (.int .i64 0) (.int .i64 0) (.int .i64 0) (.int .i64 0) (.int .i64 0) (.int .i64 0) (.slice none 0 0) (.int .i64 0) (.slice none 0 0) (.slice none 0 0) (.slice none 0 0) (.slice none 0 0) (.int .i64 0) (.int .i64 0) ∧ Below w.heap.size w (w.alloc (.cells #[.int .i64 0, .int .i64 0, .int .i64 0, .int .i64 0, .int .i64 0, .int .i64 0, .int .i64 0, .int .i64 0, .slice none 0 0, .int .i64 0, .slice none 0 0, .slice none 0 0, .slice none 0 0, .slice none 0 0, .int .i64 0, .int .i64 0] 31))) := ⟨Cl16.new _ _ _ _ _ _ _ _ _ _ _ _ _ _ _ _ _ _, (Below.refl _ _).alloc (Nat.le_refl _) _⟩
  generalize newM id n = R at *
  go_enter Try.func10, Try.ntmps10
  go_wp2
  obtain ⟨wz, hwz⟩ : ∃ wz, (w.alloc (.cells #[.int .i64 0, .int .i64 0, .int .i64 0, .int .i64 0, .int .i64 0, .int .i64 0, .int .i64 0, .int .i64 0, .slice none 0 0, .int .i64 0, .slice none 0 0, .slice none 0 0, .slice none 0 0, .slice none 0 0, .int .i64 0, .int .i64 0] 31)) = wz := ⟨_, rfl⟩
  rw [hwz] at HZ ⊢
  exact bodyPost_ret (resRNew _ HZ.out.1 rfl) rfl (HE.out _ HZ.out.2)
set_option maxRecDepth 100000 in
set_option maxHeartbeats 1000000 in
theorem RNew_n2 (id n : Int) (w : World) (h0 : ¬ n < 1) (h1 : ¬ 7 < n) (h2 : id < 1) : Calls Try.prog 10 #[.int .i64 id, .int .i64 n] w (RsP (newM id n) w) := by
  have HE : Hid (∀ wz, Below w.heap.size w wz → RsP (newM id n) w (.returned (.tuple #[.agg #[.int .i64 0, .int .i64 0, .int .i64 0, .int .i64 0, .int .i64 0, .int .i64 0, .int .i64 0, .int .i64 0, .slice none 0 0, .int .i64 0, .slice none 0 0, .slice none 0 0, .slice none 0 0, .slice none 0 0, .int .i64 0, .int .i64 0], .int .i64 2])) wz) := fun wz q => by
    rw [show newM id n = (zMb, 2) by unfold newM; rw [if_neg (by unfold amongM; omega)]]
    exact ⟨zAd, rfl, MbV.new _ _ _ rfl rfl rfl rfl rfl, q⟩
  have d0 : decide (n < 1) = false := decide_eq_false h0
  have d1 : decide (7 < n) = false := decide_eq_false h1
  have d2 : decide (id < 1) = true := decide_eq_true h2
  have HZ : Hid (Cl16 (w.alloc (.cells #[.int .i64 0, .int .i64 0, .int .i64 0, .int .i64 0, .int .i64 0, .int .i64 0, .int .i64 0, .int .i64 0, .slice none 0 0, .int .i64 0, .slice none 0 0, .slice none 0 0, .slice none 0 0, .slice none 0 0, .int .i64 0, .int .i64 0] 31)) w.heap.size (.int .i64 0) (.int .i64 0) (.int .i64 0) (.int .i64 0) (.int .i64 0) (.int .i64 0) (.int .i64 0) (.int .i64 0) (.slice none 0 0) (.int .i64 0) (.slice none 0 0) (.slice none 0 0) (.slice none 0 0) (.slice none 0 0) (.int .i64 0) (.int .i64 0) ∧ Below w.heap.size w (w.alloc (.cells #[.int .i64 0, .int .i64 0, .int .i64 0, .int .i64 0, .int .i64 0, .int .i64 0, .int .i64 0, .int .i64 0, .slice none 0 0, .int .i64 0, .slice none 0 0, .slice none 0 0, .slice none 0 0, .slice none 0 0, .int .i64 0, .int .i64 0] 31))) := ⟨Cl16.new _ _ _ _ _ _ _ _ _ _ _ _ _ _ _ _ _ _, (Below.refl _ _).alloc (Nat.le_refl _) _⟩
  generalize newM id n = R at *
  go_enter Try.func10, Try.ntmps10
  go_wp2
  obtain ⟨wz, hwz⟩ : ∃ wz, (w.alloc (.cells #[.int .i64 0, .int .i64 0, .int .i64 0, .int .i64 0, .int .i64 0, .int .i64 0, .int .i64 0, .int .i64 0, .slice none 0 0, .int .i64 0, .slice none 0 0, .slice none 0 0, .slice none 0 0, .slice none 0 0, .int .i64 0, .int .i64 0] 31)) = wz := ⟨_, rfl⟩
  rw [hwz] at HZ ⊢
  exact bodyPost_ret (resRNew _ HZ.out.1 rfl) rfl (HE.out _ HZ.out.2)
set_option maxRecDepth 100000 in
set_option maxHeartbeats 1000000 in
theorem RNew_n3 (id n : Int) (w : World) (h0 : ¬ n < 1) (h1 : ¬ 7 < n) (h2 : ¬ id < 1) (h3 : n < id) : Calls Try.prog 10 #[.int .i64 id, .int .i64 n] w (RsP (newM id n) w) := by
  have HE : Hid (∀ wz, Below w.heap.size w wz → RsP (newM id n) w (.returned (.tuple #[.agg #[.int .i64 0, .int .i64 0, .int .i64 0, .int .i64 0, .int .i64 0, .int .i64 0, .int .i64 0, .int .i64 0, .slice none 0 0, .int .i64 0, .slice none 0 0, .slice none 0 0, .slice none 0 0, .slice none 0 0, .int .i64 0, .int .i64 0], .int .i64 2])) wz) := fun wz q => by
    rw [show newM id n = (zMb, 2) by unfold newM; rw [if_neg (by unfold amongM; omega)]]
    exact ⟨zAd, rfl, MbV.new _ _ _ rfl rfl rfl rfl rfl, q⟩
  have d0 : decide (n < 1) = false := decide_eq_false h0
  have d1 : decide (7 < n) = false := decide_eq_false h1
  have d2 : decide (id < 1) = false := decide_eq_false h2
  have d3 : decide (n < id) = true := decide_eq_true h3
  have HZ : Hid (Cl16 (w.alloc (.cells #[.int .i64 0, .int .i64 0, .int .i64 0, .int .i64 0, .int .i64 0, .int .i64 0, .int .i64 0, .int .i64 0, .slice none 0 0, .int .i64 0, .slice none 0 0, .slice none 0 0, .slice none 0 0, .slice none 0 0, .int .i64 0, .int .i64 0] 31)) w.heap.size (.int .i64 0) (.int .i64 0) (.int .i64 0) (.int .i64 0) (.int .i64 0) (.int .i64 0) (.int .i64 0) (.int .i64 0) (.slice none 0 0) (.int .i64 0) (.slice none 0 0) (.slice none 0 0) (.slice none 0 0) (.slice none 0 0) (.int .i64 0) (.int .i64 0) ∧ Below w.heap.size w (w.alloc (.cells #[.int .i64 0, .int .i64 0, .int .i64 0, .int .i64 0, .int .i64 0, .int .i64 0, .int .i64 0, .int .i64 0, .slice none 0 0, .int .i64 0, .slice none 0 0, .slice none 0 0, .slice none 0 0, .slice none 0 0, .int .i64 0, .int .i64 0] 31))) := ⟨Cl16.new _ _ _ _ _ _ _ _ _ _ _ _ _ _ _ _ _ _, (Below.refl _ _).alloc (Nat.le_refl _) _⟩
  generalize newM id n = R at *
  go_enter Try.func10, Try.ntmps10
  go_wp2
  obtain ⟨wz, hwz⟩ : ∃ wz, (w.alloc (.cells #[.int .i64 0, .int .i64 0, .int .i64 0, .int .i64 0, .int .i64 0, .int .i64 0, .int .i64 0, .int .i64 0, .slice none 0 0, .int .i64 0, .slice none 0 0, .slice none 0 0, .slice none 0 0, .slice none 0 0, .int .i64 0, .int .i64 0] 31)) = wz := ⟨_, rfl⟩
  rw [hwz] at HZ ⊢
  exact bodyPost_ret (resRNew _ HZ.out.1 rfl) rfl (HE.out _ HZ.out.2)
set_option maxRecDepth 100000 in
set_option maxHeartbeats 1000000 in
theorem RNew_ok (id n : Int) (w : World) (h0 : ¬ n < 1) (h1 : ¬ 7 < n) (h2 : ¬ id < 1) (h3 : ¬ n < id) : Calls Try.prog 10 #[.int .i64 id, .int .i64 n] w (RsP (newM id n) w) := by
  have HE : Hid (∀ wz, Below w.heap.size w wz → RsP (newM id n) w (.returned (.tuple #[.agg #[.int .i64 id, .int .i64 n, .int .i64 0, .int .i64 0, .int .i64 0, .int .i64 0, .int .i64 0, .int .i64 0, .slice none 0 0, .int .i64 0, .slice none 0 0, .slice none 0 0, .slice none 0 0, .slice none 0 0, .int .i64 0, .int .i64 (10 + id)], .int .i64 0])) wz) := fun wz q => by
    rw [show newM id n = ({ zMb with id := id, n := n, wait := 10 + id }, 0) by unfold newM; rw [if_pos (by unfold amongM; omega)]]
    exact ⟨zAd, rfl, MbV.new _ _ _ rfl rfl rfl rfl rfl, q⟩
  have d0 : decide (n < 1) = false := decide_eq_false h0
  have d1 : decide (7 < n) = false := decide_eq_false h1
  have d2 : decide (id < 1) = false := decide_eq_false h2
  have d3 : decide (n < id) = false := decide_eq_false h3
  have hw10 : IntKind.i64.wrap (10 + id) = 10 + id := by rw [IntKind.wrap_i64]; omega
  have HZ : Hid (Cl16 (w.alloc (.cells #[.int .i64 id, .int .i64 n, .int .i64 0, .int .i64 0, .int .i64 0, .int .i64 0, .int .i64 0, .int .i64 0, .slice none 0 0, .int .i64 0, .slice none 0 0, .slice none 0 0, .slice none 0 0, .slice none 0 0, .int .i64 0, .int .i64 (10 + id)] 31)) w.heap.size (.int .i64 id) (.int .i64 n) (.int .i64 0) (.int .i64 0) (.int .i64 0) (.int .i64 0) (.int .i64 0) (.int .i64 0) (.slice none 0 0) (.int .i64 0) (.slice none 0 0) (.slice none 0 0) (.slice none 0 0) (.slice none 0 0) (.int .i64 0) (.int .i64 (10 + id)) ∧ Below w.heap.size w (w.alloc (.cells #[.int .i64 id, .int .i64 n, .int .i64 0, .int .i64 0, .int .i64 0, .int .i64 0, .int .i64 0, .int .i64 0, .slice none 0 0, .int .i64 0, .slice none 0 0, .slice none 0 0, .slice none 0 0, .slice none 0 0, .int .i64 0, .int .i64 (10 + id)] 31))) := ⟨Cl16.new _ _ _ _ _ _ _ _ _ _ _ _ _ _ _ _ _ _, (Below.refl _ _).alloc (Nat.le_refl _) _⟩
  generalize newM id n = R at *
  go_enter Try.func10, Try.ntmps10
  go_wp2
  obtain ⟨wz, hwz⟩ : ∃ wz, (w.alloc (.cells #[.int .i64 id, .int .i64 n, .int .i64 0, .int .i64 0, .int .i64 0, .int .i64 0, .int .i64 0, .int .i64 0, .slice none 0 0, .int .i64 0, .slice none 0 0, .slice none 0 0, .slice none 0 0, .slice none 0 0, .int .i64 0, .int .i64 (10 + id)] 31)) = wz := ⟨_, rfl⟩
  rw [hwz] at HZ ⊢
  exact bodyPost_ret (resRNew _ HZ.out.1 rfl) rfl (HE.out _ HZ.out.2)
theorem RNew_any (id n : Int) (w : World) : Calls Try.prog 10 #[.int .i64 id, .int .i64 n] w (RsP (newM id n) w) := by
  by_cases h0 : n < 1
  · exact RNew_n0 id n w h0
  · by_cases h1 : 7 < n
    · exact RNew_n1 id n w h0 h1
    · by_cases h2 : id < 1
      · exact RNew_n2 id n w h0 h1 h2
      · by_cases h3 : n < id
        · exact RNew_n3 id n w h0 h1 h2 h3
        · exact RNew_ok id n w h0 h1 h2 h3
end
section
open Go.RowKit
set_option linter.unusedVariables false
set_option linter.unusedSimpArgs false


set_option maxRecDepth 100000 in
set_option maxHeartbeats 2000000 in
theorem regR4 {Q0 : Exit → Go.Act → World → Prop} {wr : World} {p ec : Nat} {b bt : Int} {ea : Option Addr} {es : List En} {HP HT : Int → Prop} (HC : Hid (Cell3 wr p (.int .i64 b) (.int .i64 bt) (.slice ea es.length ec)))
    (HLa : Hid (∀ wx, Below wr.heap.size wr wx → Calls Try.prog 21 #[.agg #[.int .i64 b, .int .i64 bt, .slice ea es.length ec]] wx fun e w' => ∃ k, e = .returned (.int .i64 k) ∧ HP k ∧ Below wx.heap.size wx w')) (HTe : Hid (∀ k wx, HP k → Below wr.heap.size wr wx → Calls Try.prog 32 #[.agg #[.int .i64 b, .int .i64 bt, .slice ea es.length ec], .int .i64 k] wx fun e w' => ∃ t o, e = .returned (.tuple #[.int .i64 t, .bool o]) ∧ HT t ∧ Below wx.heap.size wx w')) (hpan : ∀ p a d v wy, Q0 (.panic p) (Go.Act.put a d v) wy → Q0 (.panic p) a wy) (v0 v1 v2 v3 v4 v5 v6 v7 v8 v9 v11 v12 v13 v14 v15 v16 v17 v18 v19 v20 v21 v22 v23 v24 v25 v26 v27 v28 v29 v30 v31 v32 v33 v34 v35 v36 v37 v38 v39 v40 v41 v42 v43 v44 v45 v46 v47 v48 v49 v50 v51 v52 v53 v54 v55 v56 v57 v58 v59 v60 v61 v62 v63 v64 v65 v66 v67 v68 v69 v70 v71 v72 : Value)
    (hend : Hid (∀ wz kk t o, HT t → Below wr.heap.size wr wz → Q0 .normal ⟨#[v0, v1, v2, v3, v4, v5, v6, v7, v8, v9, .pointer (some ⟨p, 0, none⟩), v11, v12, v13, v14, v15, .int .i64 t, .bool o, v18, v19, v20, v21, v22, v23, v24, v25, v26, v27, (.tuple #[.int .i64 t, .bool o]), (.agg #[.int .i64 b, .int .i64 bt, .slice ea es.length ec]), (.agg #[.int .i64 b, .int .i64 bt, .slice ea es.length ec]), .int .i64 kk, (.tuple #[.int .i64 t, .bool o]), (.int .i64 t), (.bool o), v35, v36, v37, v38, v39, v40, v41, v42, v43, v44, v45, v46, v47, v48, v49, v50, v51, v52, v53, v54, v55, v56, v57, v58, v59, v60, v61, v62, v63, v64, v65, v66, v67, v68, v69, v70, v71, v72], []⟩ wz)) :
    Code.wp Try.prog (Code.region 4 #[{ dst := some 29, op := Op.load 24 (Operand.tmp 10), type := 24, pos := "ref.go:24", after := #[], guard := none }, { dst := some 30, op := Op.load 24 (Operand.tmp 10), type := 24, pos := "ref.go:24", after := #[], guard := none }, { dst := some 31, op := Op.call { callee := Callee.value (Operand.func 21), args := #[Operand.tmp 30], argTypes := #[24] }, type := 3, pos := "ref.go:24", after := #[{ on := 1, ground := Ground.data }], guard := none }, { dst := some 32, op := Op.call { callee := Callee.value (Operand.func 32), args := #[Operand.tmp 29, Operand.tmp 31], argTypes := #[24, 3] }, type := 68, pos := "ref.go:24", after := #[{ on := 0, ground := Ground.data }, { on := 2, ground := Ground.data }, { on := 2, ground := Ground.chain }], guard := none }, { dst := some 28, op := Op.move (Operand.tmp 32), type := 68, pos := "ref.go:24", after := #[{ on := 3, ground := Ground.data }], guard := none }, { dst := some 33, op := Op.extract (Operand.tmp 28) 0, type := 3, pos := "ref.go:24", after := #[{ on := 4, ground := Ground.data }], guard := none }, { dst := some 34, op := Op.extract (Operand.tmp 28) 1, type := 4, pos := "ref.go:24", after := #[{ on := 4, ground := Ground.data }, { on := 7, ground := Ground.gcOnly Departure.lateStores }], guard := none }, { dst := some 16, op := Op.assign (Operand.tmp 33), type := 3, pos := "ref.go:24", after := #[{ on := 5, ground := Ground.data }, { on := 3, ground := Ground.chain }, { on := 0, ground := Ground.phase }, { on := 1, ground := Ground.phase }, { on := 2, ground := Ground.phase }, { on := 3, ground := Ground.phase }, { on := 4, ground := Ground.phase }, { on := 5, ground := Ground.phase }, { on := 6, ground := Ground.textOnly Departure.lateStores }], guard := none }, { dst := some 17, op := Op.assign (Operand.tmp 34), type := 4, pos := "ref.go:24", after := #[{ on := 6, ground := Ground.data }, { on := 7, ground := Ground.chain }, { on := 0, ground := Ground.phase }, { on := 1, ground := Ground.phase }, { on := 2, ground := Ground.phase }, { on := 3, ground := Ground.phase }, { on := 4, ground := Ground.phase }, { on := 5, ground := Ground.phase }, { on := 6, ground := Ground.phase }, { on := 7, ground := Ground.phase }], guard := none }] true) Q0 ⟨#[v0, v1, v2, v3, v4, v5, v6, v7, v8, v9, .pointer (some ⟨p, 0, none⟩), v11, v12, v13, v14, v15, v16, v17, v18, v19, v20, v21, v22, v23, v24, v25, v26, v27, v28, v29, v30, v31, v32, v33, v34, v35, v36, v37, v38, v39, v40, v41, v42, v43, v44, v45, v46, v47, v48, v49, v50, v51, v52, v53, v54, v55, v56, v57, v58, v59, v60, v61, v62, v63, v64, v65, v66, v67, v68, v69, v70, v71, v72], []⟩ wr := by
  refine wp_region_held_drew (S := (fun u => u.cell? ⟨p, 0, none⟩ = some (.int .i64 b) ∧ u.cell? ⟨p, 1, none⟩ = some (.int .i64 bt) ∧ u.cell? ⟨p, 2, none⟩ = some (.slice ea es.length ec))) (by kernel_rfl) ?_ (fun hHeld => ?_)
  · exact ⟨HC.out.c0, HC.out.c1, HC.out.c2⟩
  have hHeld : (fun u => u.cell? ⟨p, 0, none⟩ = some (.int .i64 b) ∧ u.cell? ⟨p, 1, none⟩ = some (.int .i64 bt) ∧ u.cell? ⟨p, 2, none⟩ = some (.slice ea es.length ec)) wr.drew := hHeld
  obtain ⟨w0, hdr⟩ : ∃ q, wr.drew = q := ⟨_, rfl⟩
  have HL : Hid (Below wr.heap.size wr w0) := by rw [← hdr]; exact (Below.refl _ _).drew
  replace HC : Hid (Cell3 w0 p (.int .i64 b) (.int .i64 bt) (.slice ea es.length ec)) := HC.out.below HL.out
  rw [hdr] at hHeld ⊢
  clear hdr
  refine wpAnyH_take (i := 0) (oi := { dst := some 29, op := Op.load 24 (Operand.tmp 10), type := 24, pos := "ref.go:24", after := #[], guard := none }) (v := (.agg #[.int .i64 b, .int .i64 bt, .slice ea es.length ec])) rfl (by kernel_rfl) (by kernel_rfl) (by kernel_rfl) (fun _ _ _ h => hpan _ _ _ _ _ h) (Or.inl ⟨by rfl, ?_⟩) hHeld ?_
  · intro w hSw; (try dsimp only at hSw); go_simp
  try simp only [Act.put, List.setIfInBounds_toArray, List.set_cons_zero, List.set_cons_succ]
  refine wpAnyH_take (i := 1) (oi := { dst := some 30, op := Op.load 24 (Operand.tmp 10), type := 24, pos := "ref.go:24", after := #[], guard := none }) (v := (.agg #[.int .i64 b, .int .i64 bt, .slice ea es.length ec])) rfl (by kernel_rfl) (by kernel_rfl) (by kernel_rfl) (fun _ _ _ h => hpan _ _ _ _ _ h) (Or.inl ⟨by rfl, ?_⟩) hHeld ?_
  · intro w hSw; (try dsimp only at hSw); go_simp
  try simp only [Act.put, List.setIfInBounds_toArray, List.set_cons_zero, List.set_cons_succ]
  refine wpAnyH_ready (rs := [2]) (by kernel_rfl) (by simp) ?_
  refine AllReadyH.cons (o := { dst := some 31, op := Op.call { callee := Callee.value (Operand.func 21), args := #[Operand.tmp 30], argTypes := #[24] }, type := 3, pos := "ref.go:24", after := #[{ on := 1, ground := Ground.data }], guard := none }) rfl (fun K hK => ?_) AllReadyH.nil
  go_simp
  (go_at_call 21; refine (HLa.out _ HL.out).mono ?_; rintro e w1 ⟨kk, rfl, qI, qB⟩; have HB1 : Hid (Below w0.heap.size w0 w1) := qB; have HK : Hid (HP kk) := qI; clear qB qI)
  go_wp2_with fail
  have HC1 : Hid (Cell3 w1 p (.int .i64 b) (.int .i64 bt) (.slice ea es.length ec)) := HC.out.below HB1.out
  have HL1 : Hid (Below wr.heap.size wr w1) := HL.out.trans (HB1.out.mono HL.out.size)
  refine hK.out _ _ (⟨HC1.out.c0, HC1.out.c1, HC1.out.c2⟩ : (fun u => u.cell? ⟨p, 0, none⟩ = some (.int .i64 b) ∧ u.cell? ⟨p, 1, none⟩ = some (.int .i64 bt) ∧ u.cell? ⟨p, 2, none⟩ = some (.slice ea es.length ec)) w1) (fun hHeld2 => ?_)
  clear hK K hHeld
  have hHeld := hHeld2
  clear hHeld2
  try simp only [Act.put, List.setIfInBounds_toArray, List.set_cons_zero, List.set_cons_succ]
  refine wpAnyH_ready (rs := [3]) (by kernel_rfl) (by simp) ?_
  refine AllReadyH.cons (o := { dst := some 32, op := Op.call { callee := Callee.value (Operand.func 32), args := #[Operand.tmp 29, Operand.tmp 31], argTypes := #[24, 3] }, type := 68, pos := "ref.go:24", after := #[{ on := 0, ground := Ground.data }, { on := 2, ground := Ground.data }, { on := 2, ground := Ground.chain }], guard := none }) rfl (fun K hK => ?_) AllReadyH.nil
  go_simp
  (go_at_call 32; refine (HTe.out _ _ HK.out HL1.out).mono ?_; rintro e w2 ⟨t, o, rfl, qI, qB⟩; have HB2 : Hid (Below w1.heap.size w1 w2) := qB; have HTt : Hid (HT t) := qI; clear qB qI)
  go_wp2_with fail
  have HC2 : Hid (Cell3 w2 p (.int .i64 b) (.int .i64 bt) (.slice ea es.length ec)) := HC1.out.below HB2.out
  have HL2 : Hid (Below wr.heap.size wr w2) := HL1.out.trans (HB2.out.mono HL1.out.size)
  refine hK.out _ _ (⟨HC2.out.c0, HC2.out.c1, HC2.out.c2⟩ : (fun u => u.cell? ⟨p, 0, none⟩ = some (.int .i64 b) ∧ u.cell? ⟨p, 1, none⟩ = some (.int .i64 bt) ∧ u.cell? ⟨p, 2, none⟩ = some (.slice ea es.length ec)) w2) (fun hHeld2 => ?_)
  clear hK K hHeld
  have hHeld := hHeld2
  clear hHeld2
  try simp only [Act.put, List.setIfInBounds_toArray, List.set_cons_zero, List.set_cons_succ]
  refine wpAnyH_take (i := 4) (oi := { dst := some 28, op := Op.move (Operand.tmp 32), type := 68, pos := "ref.go:24", after := #[{ on := 3, ground := Ground.data }], guard := none }) (v := (.tuple #[.int .i64 t, .bool o])) rfl (by kernel_rfl) (by kernel_rfl) (by kernel_rfl) (fun _ _ _ h => hpan _ _ _ _ _ h) (Or.inl ⟨by rfl, ?_⟩) hHeld ?_
  · intro w hSw; (try dsimp only at hSw); go_simp
  try simp only [Act.put, List.setIfInBounds_toArray, List.set_cons_zero, List.set_cons_succ]
  refine wpAnyH_take (i := 5) (oi := { dst := some 33, op := Op.extract (Operand.tmp 28) 0, type := 3, pos := "ref.go:24", after := #[{ on := 4, ground := Ground.data }], guard := none }) (v := (.int .i64 t)) rfl (by kernel_rfl) (by kernel_rfl) (by kernel_rfl) (fun _ _ _ h => hpan _ _ _ _ _ h) (Or.inl ⟨by rfl, ?_⟩) hHeld ?_
  · intro w hSw; (try dsimp only at hSw); go_simp
  try simp only [Act.put, List.setIfInBounds_toArray, List.set_cons_zero, List.set_cons_succ]
  refine wpAnyH_take (i := 6) (oi := { dst := some 34, op := Op.extract (Operand.tmp 28) 1, type := 4, pos := "ref.go:24", after := #[{ on := 4, ground := Ground.data }, { on := 7, ground := Ground.gcOnly Departure.lateStores }], guard := none }) (v := (.bool o)) rfl (by kernel_rfl) (by kernel_rfl) (by kernel_rfl) (fun _ _ _ h => hpan _ _ _ _ _ h) (Or.inl ⟨by rfl, ?_⟩) hHeld ?_
  · intro w hSw; (try dsimp only at hSw); go_simp
  try simp only [Act.put, List.setIfInBounds_toArray, List.set_cons_zero, List.set_cons_succ]
  refine wpAnyH_take (i := 7) (oi := { dst := some 16, op := Op.assign (Operand.tmp 33), type := 3, pos := "ref.go:24", after := #[{ on := 5, ground := Ground.data }, { on := 3, ground := Ground.chain }, { on := 0, ground := Ground.phase }, { on := 1, ground := Ground.phase }, { on := 2, ground := Ground.phase }, { on := 3, ground := Ground.phase }, { on := 4, ground := Ground.phase }, { on := 5, ground := Ground.phase }, { on := 6, ground := Ground.textOnly Departure.lateStores }], guard := none }) (v := (.int .i64 t)) rfl (by kernel_rfl) (by kernel_rfl) (by kernel_rfl) (fun _ _ _ h => hpan _ _ _ _ _ h) (Or.inl ⟨by rfl, ?_⟩) hHeld ?_
  · intro w hSw; (try dsimp only at hSw); go_simp
  try simp only [Act.put, List.setIfInBounds_toArray, List.set_cons_zero, List.set_cons_succ]
  refine wpAnyH_take (i := 8) (oi := { dst := some 17, op := Op.assign (Operand.tmp 34), type := 4, pos := "ref.go:24", after := #[{ on := 6, ground := Ground.data }, { on := 7, ground := Ground.chain }, { on := 0, ground := Ground.phase }, { on := 1, ground := Ground.phase }, { on := 2, ground := Ground.phase }, { on := 3, ground := Ground.phase }, { on := 4, ground := Ground.phase }, { on := 5, ground := Ground.phase }, { on := 6, ground := Ground.phase }, { on := 7, ground := Ground.phase }], guard := none }) (v := (.bool o)) rfl (by kernel_rfl) (by kernel_rfl) (by kernel_rfl) (fun _ _ _ h => hpan _ _ _ _ _ h) (Or.inl ⟨by rfl, ?_⟩) hHeld ?_
  · intro w hSw; (try dsimp only at hSw); go_simp
  try simp only [Act.put, List.setIfInBounds_toArray, List.set_cons_zero, List.set_cons_succ]
  refine wpAnyH_done (by kernel_rfl) ?_ _
  exact hend.out _ _ _ _ HTt.out HL2.out
end
end Go.Proofs.Ytfmfphfckaiejaa
