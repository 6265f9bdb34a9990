/-
  May a log be, do entries fit: contracts of the laws' own questions.
-/
import Derived.Test.YtmpmbgjdbahmbaaSmb
import Derived.Test.YtmpmbgjdbahmbaaNew
namespace Go.Proofs.Ytmpmbgjdbahmbaa
open Go.RowKit
set_option linter.unusedVariables false

/-- Told; and if yes, A. -/
def TellsP (A : Prop) (w : World) (e : Ending) (w' : World) : Prop := ∃ r, e = .returned (.bool r) ∧ (r = true → A) ∧ Below w.heap.size w w'
theorem TellsP.no {A : Prop} {w w' : World} (h : Below w.heap.size w w') : TellsP A w (.returned (.bool false)) w' := ⟨false, rfl, fun q => absurd q (by decide), h⟩
theorem TellsP.as {A : Prop} {w w' : World} {r : Bool} (h : Below w.heap.size w w') (hr : r = true → A) : TellsP A w (.returned (.bool r)) w' := ⟨r, rfl, hr, h⟩
set_option maxRecDepth 100000 in
set_option maxHeartbeats 400000 in
theorem may_any (P : Nat → Prop) (b bt : Int) (a : Option Addr) (c : Nat) (es : List En) (w : World) (hb : InR b) (hbt : InR bt) (hE : EnsV w P a c es) : Calls Try.prog 16 #[.agg #[.int .i64 b, .int .i64 bt, .slice a es.length c]] w (TellsP (Light es ∧ chkM b bt es = 0) w) := by
  have HW : Hid (∀ o, Calls Try.prog 9 #[.slice a es.length c, .int .i64 300] (w.alloc o) fun e w' => ∃ k : Int, e = .returned (.int .i64 k) ∧ (k ≤ 300 → Light es) ∧ w' = w.alloc o) := fun o => Weight_any P a c es _ (hE.alloc o)
  have HC : Hid (∀ o, Calls Try.prog 12 #[.agg #[.int .i64 b, .int .i64 bt, .slice a es.length c]] (w.alloc o) fun e w' => e = .returned (.int .i64 (chkM b bt es)) ∧ Below w.heap.size w w') := fun o => (RCheck_any P b bt a c es _ hb hbt (hE.alloc o)).mono fun e w' q => ⟨q.1, b1 q.2⟩
  have HB0 : Hid (∀ o, Below w.heap.size w (w.alloc o)) := fun o => (Below.refl _ _).alloc (Nat.le_refl _) o
  generalize chkM b bt es = ck at *
  generalize hLt : Light es = LL at *
  clear hLt hE
  generalize es.length = n at *
  go_enter Try.func16, Try.ntmps16
  go_wp2_with (first
    | (go_at_call 12; refine (HC.out _).mono ?_; rintro e w2 ⟨rfl, HB⟩; have H2 : Hid (Below w.heap.size w w2) := HB; clear HB)
    | (go_at_call 9; refine (HW.out _).mono ?_; rintro e w1 ⟨k, rfl, HL, hw1⟩; have hw2 := hw1.symm; clear hw1; subst hw2; have HLk : Hid (k ≤ 300 → LL) := HL; clear HL; rcases Int.lt_or_le 300 k with hk | hk))
  · go_ret
    exact TellsP.no (HB0.out _)
  · go_ret
    exact TellsP.as H2.out fun q => ⟨HLk.out hk, by simpa using q⟩
set_option maxRecDepth 100000 in
set_option maxHeartbeats 800000 in
theorem fits_any (P : Nat → Prop) (p t : Int) (a : Option Addr) (c : Nat) (r : List En) (w : World) (hp : InR p) (ht : InR t) (hE : EnsV w P a c r) : Calls Try.prog 27 #[.int .i64 p, .int .i64 t, .slice a r.length c] w (TellsP (Light r ∧ 0 ≤ p ∧ p ≤ 1000000 ∧ 0 ≤ t) w) := by
  have h1 := hE.cap1
  have h2 := hE.cap2
  obtain ⟨p1, p2⟩ := hp
  obtain ⟨t1, t2⟩ := ht
  have HW : Hid (Calls Try.prog 9 #[.slice a r.length c, .int .i64 300] w fun e w' => ∃ k : Int, e = .returned (.int .i64 k) ∧ (k ≤ 300 → Light r) ∧ w' = w) := Weight_any P a c r _ hE
  have HC : Hid (∀ i, i < r.length → ∃ g o, a = some ⟨g, o, none⟩ ∧ w.cell? ⟨g, o + i * 2, none⟩ = some (.int .i64 (tOf r i)) ∧ InR (tOf r i) ∧ g < w.heap.size) := fun i hi => by
    obtain ⟨g, o, ka, kc, q1, q2, q3, q4, q5, q6, _⟩ := hE.at_ hi
    exact ⟨g, o, q1, q2, q5, q6⟩
  generalize hLt : Light r = LL at *
  clear hE hLt
  generalize r.length = n at *
  by_cases c1 : p < 0
  · go_enter Try.func27, Try.ntmps27
    go_wp2
    go_ret
    exact TellsP.no (Below.refl _ _)
  by_cases c2 : 1000000 < p
  · go_enter Try.func27, Try.ntmps27
    go_wp2
    go_ret
    exact TellsP.no (Below.refl _ _)
  by_cases c3 : 300 < n
  · have c4 : (300 : Int) < (n : Int) := by omega
    go_enter Try.func27, Try.ntmps27
    go_wp2
    go_ret
    exact TellsP.no (Below.refl _ _)
  have d1 : decide (p < 0) = false := decide_eq_false c1
  have d2 : decide (1000000 < p) = false := decide_eq_false c2
  have d3 : decide ((300 : Int) < (n : Int)) = false := decide_eq_false (by omega)
  go_enter Try.func27, Try.ntmps27
  go_wp2_with (go_at_call 9; refine HW.out.mono ?_; rintro e w1 ⟨k, rfl, HL, hw1⟩; have hw2 := hw1.symm; clear hw1; subst hw2; have HLk : Hid (k ≤ 300 → LL) := HL; clear HL; rcases Int.lt_or_le 300 k with hk | hk)
  · go_ret
    exact TellsP.no (Below.refl _ _)
  · go_loopw [7, 8] (fun x y wr => ∃ (i : Nat) (L : Int), i ≤ n ∧ x = .int .i64 L ∧ y = .int .i64 i ∧ w = wr ∧ -9223372036854775808 ≤ L ∧ L ≤ 9223372036854775807) (fun x y _ => n - (intOf y).toNat)
    case atStart => exact ⟨0, t, Nat.zero_le _, rfl, rfl, rfl, t1, t2⟩
    case round =>
      obtain ⟨i, L, hi, rfl, rfl, rfl, l1, l2⟩ := hrel
      by_cases hlt : i < n
      · obtain ⟨g, o, rfl, x1, ⟨x2, x3⟩, x4⟩ := HC.out i hlt
        clear HC HW
        generalize tOf r i = u at *
        by_cases k1 : u < L
        · go_wp2
          go_ret
          exact TellsP.no (Below.refl _ _)
        by_cases k2 : u < 1
        · have d4 : decide (u < L) = false := decide_eq_false k1
          go_wp2
          go_ret
          exact TellsP.no (Below.refl _ _)
        by_cases k3 : 1000000 < u
        · have d4 : decide (u < L) = false := decide_eq_false k1
          have d5 : decide (u < 1) = false := decide_eq_false k2
          go_wp2
          go_ret
          exact TellsP.no (Below.refl _ _)
        have d4 : decide (u < L) = false := decide_eq_false k1
        have d5 : decide (u < 1) = false := decide_eq_false k2
        have d6 : decide (1000000 < u) = false := decide_eq_false k3
        go_wp2
        go_roundw
        case rel => exact ⟨i + 1, u, by omega, rfl, by go_num, trivial, x2, x3⟩
        case measure => simp [intOf]; omega
      · clear HC HW
        go_wp2
        go_ret
        exact TellsP.as (Below.refl _ _) fun q => ⟨HLk.out hk, by omega, by omega, by simpa using q⟩
end Go.Proofs.Ytmpmbgjdbahmbaa
