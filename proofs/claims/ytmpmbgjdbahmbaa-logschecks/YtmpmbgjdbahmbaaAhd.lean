/-
  What stands ahead of all of a term, of both sides: contracts.
-/
import Derived.Test.YtmpmbgjdbahmbaaNew
namespace Go.Proofs.Ytmpmbgjdbahmbaa
open Go.RowKit
set_option linter.unusedVariables false

set_option maxRecDepth 100000 in
set_option maxHeartbeats 400000 in
theorem ahead_any (P : Nat → Prop) (b bt : Int) (a : Option Addr) (c : Nat) (es : List En) (p x : Int) (w : World) (hb : 0 ≤ b) (hb2 : b ≤ 2199023255552) (hn : es.length ≤ 2000) (h1 : b ≤ p) (h2 : p ≤ b + es.length) (hE : EnsV w P a c es) : Calls Try.prog 40 #[.agg #[.int .i64 b, .int .i64 bt, .slice a es.length c], .int .i64 p, .int .i64 x] w fun e w' => e = .returned (.int .i64 (b + downM es x (p - b).toNat)) ∧ Below w.heap.size w w' := by
  have h3 := hE.cap1
  have h4 := hE.cap2
  have HC : Hid (∀ i, i < es.length → ∃ g o, a = some ⟨g, o, none⟩ ∧ w.cell? ⟨g, o + i * 2, none⟩ = some (.int .i64 (tOf es i)) ∧ InR (tOf es i) ∧ g < w.heap.size) := fun i hi => by
    obtain ⟨g, o, ka, kc, q1, q2, q3, q4, q5, q6, _⟩ := hE.at_ hi
    exact ⟨g, o, q1, q2, q5, q6⟩
  have HB0 : Hid (∀ o, Below w.heap.size w (w.alloc o)) := fun o => (Below.refl _ _).alloc (Nat.le_refl _) o
  obtain ⟨k, hk⟩ : ∃ k : Nat, p = b + k := ⟨(p - b).toNat, by omega⟩
  subst hk
  rw [show (b + (k : Int) - b).toNat = k by omega]
  have hkl : k ≤ es.length := by omega
  have HD : Hid (∀ j : Nat, downM es x (j + 1) = if tOf es j = x then downM es x j else j + 1) := fun j => rfl
  have HD0 : Hid (downM es x 0 = 0) := rfl
  generalize hr : downM es x k = r at *
  generalize es.length = n at *
  clear hE h1 h2
  go_enter Try.func40, Try.ntmps40
  go_wp2
  go_loopw [1] (fun y wr => ∃ (j : Nat), j ≤ n ∧ y = .int .i64 (b + j) ∧ w.alloc (.cells #[.int .i64 b, .int .i64 bt, .slice a n c] 24) = wr ∧ Hid (downM es x j = r)) (fun y _ => (intOf y - b).toNat)
  case atStart => exact ⟨k, hkl, rfl, rfl, hr⟩
  case round =>
    obtain ⟨j, hj, rfl, rfl, HR⟩ := hrel
    cases j with
    | zero =>
      have HT : Hid (r = 0) := by rw [← HR.out, HD0.out]; exact rfl
      have e0 : b + ((0 : Nat) : Int) = b := by omega
      rw [e0]
      clear HR hr
      go_wp2
      go_ret
      exact ⟨by rw [HT.out]; simp, HB0.out _⟩
    | succ i =>
      obtain ⟨g, o, rfl, x1, ⟨x2, x3⟩, x4⟩ := HC.out i (by omega)
      have hne : g ≠ w.heap.size := by omega
      have e2 : (b + ((i + 1 : Nat) : Int) - b).toNat - 1 = i := by omega
      have e3 : ((b + ((i + 1 : Nat) : Int) - b) - 1).toNat = i := by omega
      obtain ⟨q, hq⟩ : ∃ q : Int, q = b + ((i + 1 : Nat) : Int) := ⟨_, rfl⟩
      have HQ : Hid (q = b + ((i + 1 : Nat) : Int)) := hq
      rw [← hq] at e2 e3 ⊢
      have q1 : b < q := by omega
      have q2 : q ≤ b + n := by omega
      have q3 : (q - 1 - b).toNat < (q - b).toNat := by omega
      have HQ2 : Hid (q - 1 = b + (i : Int)) := by show _ = _; omega
      have HR2 : Hid ((if tOf es i = x then downM es x i else i + 1) = r) := HR.out
      clear hq HR hr HC
      by_cases hx : tOf es i = x
      · have HR3 : Hid (downM es x i = r) := by have := HR2.out; rw [if_pos hx] at this; exact this
        clear HR2
        rw [hx] at x1 x2 x3
        clear hx
        go_wp2
        go_roundw
        case rel => exact ⟨i, by omega, by rw [← HQ2.out], trivial, HR3.out⟩
        case measure => simp [intOf]; omega
      · have HR3 : Hid (i + 1 = r) := by have := HR2.out; rw [if_neg hx] at this; exact this
        have hx2 : (tOf es i == x) = false := beq_eq_false_iff_ne.2 hx
        clear HR2
        generalize tOf es i = t at *
        go_wp2
        go_ret
        exact ⟨by rw [← HR3.out, ← HQ.out]; rfl, HB0.out _⟩
set_option maxRecDepth 100000 in
set_option maxHeartbeats 400000 in
theorem hint_any (P : Nat → Prop) (b bt : Int) (a : Option Addr) (c : Nat) (es : List En) (p : Int) (w : World) (hb : 0 ≤ b) (hb2 : b ≤ 2199023255552) (hn : es.length ≤ 2000) (h1 : b ≤ p) (h2 : p ≤ b + es.length) (hE : EnsV w P a c es) : Calls Try.prog 42 #[.agg #[.int .i64 b, .int .i64 bt, .slice a es.length c], .int .i64 p] w fun e w' => e = .returned (.int .i64 (b + downM es (termM b bt es p).1 (p - b).toNat)) ∧ Below w.heap.size w w' := by
  have h3 := hE.cap1
  have h4 := hE.cap2
  have HT : Hid (∀ q wx, InR q → Below (w.heap.size + 1) (w.alloc (.cells #[.int .i64 b, .int .i64 bt, .slice a es.length c] 24)) wx → Calls Try.prog 18 #[.agg #[.int .i64 b, .int .i64 bt, .slice a es.length c], .int .i64 q] wx fun e w' => e = .returned (.tuple #[.int .i64 (termM b bt es q).1, .bool (termM b bt es q).2]) ∧ Below (w.heap.size + 1) (w.alloc (.cells #[.int .i64 b, .int .i64 bt, .slice a es.length c] 24)) w') := fun q wx hq h => (RTerm_any P b bt a c es q wx hb hb2 hn hq (hE.below (Bx1.at_ h).2)).mono fun e w' q2 => ⟨q2.1, Bx1.up h q2.2⟩
  by_cases hpb : p = b
  · subst hpb
    rw [show (p - p).toNat = 0 by omega, show downM es (termM p bt es p).1 0 = 0 from rfl, show p + ((0 : Nat) : Int) = p by omega]
    have HTp : Hid (∀ wx, Below (w.heap.size + 1) (w.alloc (.cells #[.int .i64 p, .int .i64 bt, .slice a es.length c] 24)) wx → Calls Try.prog 18 #[.agg #[.int .i64 p, .int .i64 bt, .slice a es.length c], .int .i64 p] wx fun e w' => e = .returned (.tuple #[.int .i64 (termM p bt es p).1, .bool (termM p bt es p).2]) ∧ Below (w.heap.size + 1) (w.alloc (.cells #[.int .i64 p, .int .i64 bt, .slice a es.length c] 24)) w') := fun wx h => HT.out p wx ⟨by omega, by omega⟩ h
    generalize (termM p bt es p).1 = x at *
    generalize (termM p bt es p).2 = x2 at *
    clear HT hE
    generalize es.length = n at *
    go_enter Try.func42, Try.ntmps42
    go_wp2_with (go_at_call 18; refine (HTp.out _ (Below.refl _ _)).mono ?_; rintro e w1 ⟨rfl, HB⟩; have HC : Hid (Below (w.heap.size + 1) (w.alloc (.cells #[.int .i64 p, .int .i64 bt, .slice a n c] 24)) w1) := HB; obtain ⟨⟨k0, k1, k2, k3⟩, _⟩ := Bx1.at_ HB; clear HB)
    go_loopw [7] (fun y wr => y = .int .i64 (p - 1) ∧ w1 = wr) (fun y _ => 0)
    case atStart => exact ⟨rfl, rfl⟩
    case round =>
      obtain ⟨rfl, rfl⟩ := hrel
      go_wp2
      go_ret
      exact ⟨rfl, (Bx1.at_ HC.out).2⟩
  · obtain ⟨m, hm⟩ : ∃ m : Nat, p = b + 1 + m := ⟨(p - b - 1).toNat, by omega⟩
    have hml : m < es.length := by omega
    have e1 : termM b bt es p = (tOf es m, true) := by rw [hm]; exact term_at hml
    have HTp : Hid (∀ wx, Below (w.heap.size + 1) (w.alloc (.cells #[.int .i64 b, .int .i64 bt, .slice a es.length c] 24)) wx → Calls Try.prog 18 #[.agg #[.int .i64 b, .int .i64 bt, .slice a es.length c], .int .i64 p] wx fun e w' => e = .returned (.tuple #[.int .i64 (tOf es m), .bool true]) ∧ Below (w.heap.size + 1) (w.alloc (.cells #[.int .i64 b, .int .i64 bt, .slice a es.length c] 24)) w') := fun wx h => by have := HT.out p wx ⟨by omega, by omega⟩ h; rw [e1] at this; exact this
    have HTi : Hid (∀ (i : Nat) (q : Int) wx, i < es.length → q = b + ((i + 1 : Nat) : Int) → Below (w.heap.size + 1) (w.alloc (.cells #[.int .i64 b, .int .i64 bt, .slice a es.length c] 24)) wx → Calls Try.prog 18 #[.agg #[.int .i64 b, .int .i64 bt, .slice a es.length c], .int .i64 q] wx fun e w' => e = .returned (.tuple #[.int .i64 (tOf es i), .bool true]) ∧ Below (w.heap.size + 1) (w.alloc (.cells #[.int .i64 b, .int .i64 bt, .slice a es.length c] 24)) w') := fun i q wx hi hq h => by
      have := HT.out q wx ⟨by omega, by omega⟩ h
      rw [show q = b + 1 + (i : Int) by omega, term_at hi] at this
      rw [show q = b + 1 + (i : Int) by omega]
      exact this
    rw [e1, show (p - b).toNat = m + 1 by omega, show downM es (tOf es m, true).1 (m + 1) = downM es (tOf es m) m from if_pos rfl]
    have HD : Hid (∀ j : Nat, downM es (tOf es m) (j + 1) = if tOf es j = tOf es m then downM es (tOf es m) j else j + 1) := fun j => rfl
    have HD0 : Hid (downM es (tOf es m) 0 = 0) := rfl
    have HP1 : Hid (p - 1 = b + (m : Int)) := by show _ = _; omega
    generalize tOf es m = x at *
    generalize hr : downM es x m = r at *
    clear HT hE e1
    generalize es.length = n at *
    have hp1 : b < p := by omega
    have hp2 : p ≤ b + n := by omega
    clear hm
    go_enter Try.func42, Try.ntmps42
    go_wp2_with (go_at_call 18; refine (HTp.out _ (Below.refl _ _)).mono ?_; rintro e w1 ⟨rfl, HB⟩; have HC : Hid (Below (w.heap.size + 1) (w.alloc (.cells #[.int .i64 b, .int .i64 bt, .slice a n c] 24)) w1) := HB; obtain ⟨⟨k0, k1, k2, k3⟩, _⟩ := Bx1.at_ HB; clear HB)
    go_loopw [7] (fun y wr => ∃ (j : Nat), j ≤ m ∧ y = .int .i64 (b + j) ∧ Hid (downM es x j = r ∧ Below (w.heap.size + 1) (w.alloc (.cells #[.int .i64 b, .int .i64 bt, .slice a n c] 24)) wr)) (fun y _ => (intOf y - b).toNat)
    case atStart => exact ⟨m, Nat.le_refl _, by rw [HP1.out], hr, HC.out⟩
    case round =>
      clear k0 k1 k2 k3 HC HTp
      obtain ⟨j, hj, rfl, HR⟩ := hrel
      obtain ⟨⟨k0, k1, k2, k3⟩, hbb⟩ := Bx1.at_ HR.out.2
      have HB : Hid (Below w.heap.size w wr) := hbb
      clear hbb
      cases j with
      | zero =>
        have HT0 : Hid (r = 0) := by rw [← HR.out.1, HD0.out]; exact rfl
        rw [show b + ((0 : Nat) : Int) = b by omega]
        clear HR hr
        go_wp2
        go_ret
        exact ⟨by rw [HT0.out]; simp, HB.out⟩
      | succ i =>
        obtain ⟨q, hq⟩ : ∃ q : Int, q = b + ((i + 1 : Nat) : Int) := ⟨_, rfl⟩
        have HQ : Hid (q = b + ((i + 1 : Nat) : Int)) := hq
        rw [← hq]
        have q1 : b < q := by omega
        have q2 : q ≤ b + n := by omega
        have q3 : (q - 1 - b).toNat < (q - b).toNat := by omega
        have HQ2 : Hid (q - 1 = b + (i : Int)) := by show _ = _; omega
        have HR2 : Hid ((if tOf es i = x then downM es x i else i + 1) = r) := HR.out.1
        have HT2 : Hid (Calls Try.prog 18 #[.agg #[.int .i64 b, .int .i64 bt, .slice a n c], .int .i64 q] wr fun e w' => e = .returned (.tuple #[.int .i64 (tOf es i), .bool true]) ∧ Below (w.heap.size + 1) (w.alloc (.cells #[.int .i64 b, .int .i64 bt, .slice a n c] 24)) w') := HTi.out i q wr (by omega) hq HR.out.2
        clear hq HR hr
        by_cases hx : tOf es i = x
        · have HR3 : Hid (downM es x i = r) := by have := HR2.out; rw [if_pos hx] at this; exact this
          clear HR2
          rw [hx] at HT2
          clear hx
          go_wp2_with (go_at_call 18; refine HT2.out.mono ?_; rintro e w2 ⟨rfl, HB⟩; have HC2 : Hid (Below (w.heap.size + 1) (w.alloc (.cells #[.int .i64 b, .int .i64 bt, .slice a n c] 24)) w2) := HB; obtain ⟨⟨y0, y1, y2, y3⟩, _⟩ := Bx1.at_ HB; clear HB)
          go_roundw
          case rel => exact ⟨i, by omega, by rw [← HQ2.out], HR3.out, HC2.out⟩
          case measure => simp [intOf]; omega
        · have HR3 : Hid (i + 1 = r) := by have := HR2.out; rw [if_neg hx] at this; exact this
          have hx2 : (tOf es i == x) = false := beq_eq_false_iff_ne.2 hx
          clear HR2
          generalize tOf es i = t at *
          go_wp2_with (go_at_call 18; refine HT2.out.mono ?_; rintro e w2 ⟨rfl, HB⟩; have HC2 : Hid (Below (w.heap.size + 1) (w.alloc (.cells #[.int .i64 b, .int .i64 bt, .slice a n c] 24)) w2) := HB; obtain ⟨⟨y0, y1, y2, y3⟩, _⟩ := Bx1.at_ HB; clear HB)
          go_ret
          exact ⟨by rw [← HR3.out, ← HQ.out]; rfl, (Bx1.at_ HC2.out).2⟩
end Go.Proofs.Ytmpmbgjdbahmbaa
