/-
  What stands ahead of all of a term, of both sides: contracts.
-/
import Derived.Test.YtmpmbgjdbahmbabNew
namespace Go.Proofs.Ytmpmbgjdbahmbab
open Go.RowKit
set_option linter.unusedVariables false

set_option maxRecDepth 100000 in
set_option maxHeartbeats 400000 in
theorem ahead_any (P : Nat → Prop) (b bt : Int) (a : Option Addr) (c : Nat) (es : List En) (p x : Int) (w : World) (hb : 0 ≤ b) (hb2 : b ≤ 2199023255552) (hn : es.length ≤ 2000) (h1 : b ≤ p) (h2 : p ≤ b + es.length) (hE : EnsV w P a c es) : Calls Try.prog 20 #[.agg #[.int .i64 b, .int .i64 bt, .slice a es.length c], .int .i64 p, .int .i64 x] w fun e w' => e = .returned (.int .i64 (b + downM es x (p - b).toNat)) ∧ Below w.heap.size w w' := by
  have h3 := hE.cap1
  have h4 := hE.cap2
  have HC : Hid (∀ i, i < es.length → ∃ g o, a = some ⟨g, o, none⟩ ∧ w.cell? ⟨g, o + i * 2, none⟩ = some (.int .i64 (tOf es i)) ∧ InR (tOf es i) ∧ g < w.heap.size) := fun i hi => by
    obtain ⟨g, o, ka, kc, q1, q2, q3, q4, q5, q6, _⟩ := hE.at_ hi
    exact ⟨g, o, q1, q2, q5, q6⟩
  have HB0 : Hid (∀ o, Below w.heap.size w (w.alloc o)) := fun o => (Below.refl _ _).alloc (Nat.le_refl _) o
  obtain ⟨k, hk⟩ : ∃ k : Nat, p = b + k := ⟨(p - b).toNat, by omega⟩
  subst hk
  rw [show (b + (k : Int) - b).toNat = k by omega]
  have hkl : k ≤ es.length := by omega
  have HD : Hid (∀ j : Nat, downM es x (j + 1) = if tOf es j = x then downM es x j else j + 1) := fun j => rfl
  have HD0 : Hid (downM es x 0 = 0) := rfl
  generalize hr : downM es x k = r at *
  generalize es.length = n at *
  clear hE h1 h2
  go_enter Try.func20, Try.ntmps20
  go_wp2
  go_loopw [1] (fun y wr => ∃ (j : Nat), j ≤ n ∧ y = .int .i64 (b + j) ∧ w.alloc (.cells #[.int .i64 b, .int .i64 bt, .slice a n c] 24) = wr ∧ Hid (downM es x j = r)) (fun y _ => (intOf y - b).toNat)
  case atStart => exact ⟨k, hkl, rfl, rfl, hr⟩
  case round =>
    obtain ⟨j, hj, rfl, rfl, HR⟩ := hrel
    cases j with
    | zero =>
      have HT : Hid (r = 0) := by rw [← HR.out, HD0.out]; exact rfl
      have e0 : b + ((0 : Nat) : Int) = b := by omega
      rw [e0]
      clear HR hr
      go_wp2
      go_ret
      exact ⟨by rw [HT.out]; simp, HB0.out _⟩
    | succ i =>
      obtain ⟨g, o, rfl, x1, ⟨x2, x3⟩, x4⟩ := HC.out i (by omega)
      have hne : g ≠ w.heap.size := by omega
      have e2 : (b + ((i + 1 : Nat) : Int) - b).toNat - 1 = i := by omega
      have e3 : ((b + ((i + 1 : Nat) : Int) - b) - 1).toNat = i := by omega
      obtain ⟨q, hq⟩ : ∃ q : Int, q = b + ((i + 1 : Nat) : Int) := ⟨_, rfl⟩
      have HQ : Hid (q = b + ((i + 1 : Nat) : Int)) := hq
      rw [← hq] at e2 e3 ⊢
      have q1 : b < q := by omega
      have q2 : q ≤ b + n := by omega
      have q3 : (q - 1 - b).toNat < (q - b).toNat := by omega
      have HQ2 : Hid (q - 1 = b + (i : Int)) := by show _ = _; omega
      have HR2 : Hid ((if tOf es i = x then downM es x i else i + 1) = r) := HR.out
      clear hq HR hr HC
      by_cases hx : tOf es i = x
      · have HR3 : Hid (downM es x i = r) := by have := HR2.out; rw [if_pos hx] at this; exact this
        clear HR2
        rw [hx] at x1 x2 x3
        clear hx
        go_wp2
        go_roundw
        case rel => exact ⟨i, by omega, by rw [← HQ2.out], trivial, HR3.out⟩
        case measure => simp [intOf]; omega
      · have HR3 : Hid (i + 1 = r) := by have := HR2.out; rw [if_neg hx] at this; exact this
        have hx2 : (tOf es i == x) = false := beq_eq_false_iff_ne.2 hx
        clear HR2
        generalize tOf es i = t at *
        go_wp2
        go_ret
        exact ⟨by rw [← HR3.out, ← HQ.out]; rfl, HB0.out _⟩
end Go.Proofs.Ytmpmbgjdbahmbab
