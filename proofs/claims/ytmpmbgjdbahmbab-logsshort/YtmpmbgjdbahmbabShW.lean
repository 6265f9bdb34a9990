/-
  LogsShort: its walk.
-/
import Derived.Test.YtmpmbgjdbahmbabLwa
namespace Go.Proofs.Ytmpmbgjdbahmbab
open Go.RowKit
set_option linter.unusedVariables false

theorem term_inr {b bt : Int} {es : List En} {p : Int} (h : InR bt) (h2 : ∀ i, i < es.length → InR (tOf es i)) : InR (termM b bt es p).1 := by
  unfold termM
  split
  · exact h
  · split
    · exact h2 _ (by omega)
    · exact inR_zero
set_option maxRecDepth 100000 in
set_option maxHeartbeats 1600000 in
theorem short_a (b bt : Int) (es : List En) (a : Option Addr) (c : Nat) (p f t : Int) (r : List En) (a2 : Option Addr) (c2 : Nat) (w : World) (hb : InR b) (hbt : InR bt) (hE : EnsV w (fun _ => True) a c es) (hp : InR p) (hf : InR f) (ht : InR t) (hR : EnsV w (fun _ => True) a2 c2 r) (h0 : f < p) : Calls Try.prog 3 #[.agg #[.int .i64 b, .int .i64 bt, .slice a es.length c], .int .i64 p, .int .i64 f, .int .i64 t, .slice a2 r.length c2] w fun e w' => e = .returned (.bool true) ∧ Below w.heap.size w w' := by
  have h5 := hR.cap1
  have h6 := hR.cap2
  have HM : Hid (∀ wx, Below w.heap.size w wx → Calls Try.prog 4 #[.agg #[.int .i64 b, .int .i64 bt, .slice a es.length c]] wx (TellsP (Light es ∧ chkM b bt es = 0) wx)) := fun wx h => may_any _ b bt a c es wx hb hbt (hE.below h)
  have HF : Hid (∀ wx, Below w.heap.size w wx → Calls Try.prog 5 #[.int .i64 f, .int .i64 t, .slice a2 r.length c2] wx (TellsP (Light r ∧ 0 ≤ f ∧ f ≤ 1000000 ∧ 0 ≤ t) wx)) := fun wx h => fits_any _ f t a2 c2 r wx hf ht (hR.below h)
  have HW : Hid (∀ wx, Calls Try.prog 6 #[] wx fun e w' => e = .returned (.bool true) ∧ Below wx.heap.size wx w') := fun wx => works_any wx
  have d1 : decide (f < p) = true := decide_eq_true h0
  clear hE hR
  generalize es.length = n at *
  generalize r.length = n2 at *
  obtain ⟨b1, b2⟩ := hb
  obtain ⟨p1, p2⟩ := hp
  obtain ⟨f1, f2⟩ := hf
  go_enter Try.func3, Try.ntmps3
  go_wp2_with (first
    | (go_at_call 6; refine (HW.out _).mono ?_; rintro e w19 ⟨rfl, HB⟩; have HZ : Hid (Below w.heap.size w w19) := (by first | exact (Bx1.at_ (Bx1.up H2.out HB)).2 | exact (Bx1.at_ (Bx1.up H1.out HB)).2); clear HB)
    | (go_at_call 5; have := H1; refine (HF.out _ (Bx1.at_ H1.out).2).mono ?_; rintro e w2 ⟨q2, rfl, HA2, HB⟩; have H2 : Hid (Below (w.heap.size + 1) (w.alloc (.cells #[.int .i64 b, .int .i64 bt, .slice a n c] 24)) w2) := Bx1.up H1.out HB; have HBh : Hid (q2 = true → Light r ∧ 0 ≤ f ∧ f ≤ 1000000 ∧ 0 ≤ t) := HA2; obtain ⟨⟨kb0, kb1, kb2, kb3⟩, _⟩ := Bx1.at_ H2.out; have kbl : w.heap.size < _ := World.block_lt_of_cell? _ _ kb0; clear HB HA2; cases q2)
    | (go_at_call 4; refine (HM.out _ (Bx1.at_ (Below.refl _ _)).2).mono ?_; rintro e w1 ⟨q, rfl, HA, HB⟩; have H1 : Hid (Below (w.heap.size + 1) (w.alloc (.cells #[.int .i64 b, .int .i64 bt, .slice a n c] 24)) w1) := Bx1.up (Below.refl _ _) HB; have HAh : Hid (q = true → Light es ∧ chkM b bt es = 0) := HA; obtain ⟨⟨ka0, ka1, ka2, ka3⟩, _⟩ := Bx1.at_ H1.out; have kal : w.heap.size < _ := World.block_lt_of_cell? _ _ ka0; clear HB HA; cases q))
  all_goals (
    go_ret
    exact ⟨rfl, HZ.out⟩)
set_option maxRecDepth 100000 in
set_option maxHeartbeats 1600000 in
theorem short_b (b bt : Int) (es : List En) (a : Option Addr) (c : Nat) (p f t : Int) (r : List En) (a2 : Option Addr) (c2 : Nat) (w : World) (hb : InR b) (hbt : InR bt) (hE : EnsV w (fun _ => True) a c es) (hp : InR p) (hf : InR f) (ht : InR t) (hR : EnsV w (fun _ => True) a2 c2 r) (h0 : ¬ f < p) (h1 : (termM b bt es p).2 = false) : Calls Try.prog 3 #[.agg #[.int .i64 b, .int .i64 bt, .slice a es.length c], .int .i64 p, .int .i64 f, .int .i64 t, .slice a2 r.length c2] w fun e w' => e = .returned (.bool true) ∧ Below w.heap.size w w' := by
  have h5 := hR.cap1
  have h6 := hR.cap2
  have HM : Hid (∀ wx, Below w.heap.size w wx → Calls Try.prog 4 #[.agg #[.int .i64 b, .int .i64 bt, .slice a es.length c]] wx (TellsP (Light es ∧ chkM b bt es = 0) wx)) := fun wx h => may_any _ b bt a c es wx hb hbt (hE.below h)
  have HF : Hid (∀ wx, Below w.heap.size w wx → Calls Try.prog 5 #[.int .i64 f, .int .i64 t, .slice a2 r.length c2] wx (TellsP (Light r ∧ 0 ≤ f ∧ f ≤ 1000000 ∧ 0 ≤ t) wx)) := fun wx h => fits_any _ f t a2 c2 r wx hf ht (hR.below h)
  have HW : Hid (∀ wx, Calls Try.prog 6 #[] wx fun e w' => e = .returned (.bool true) ∧ Below wx.heap.size wx w') := fun wx => works_any wx
  have HC : Hid (Light es ∧ chkM b bt es = 0 → ∀ wx, Below w.heap.size w wx → Calls Try.prog 7 #[.agg #[.int .i64 b, .int .i64 bt, .slice a es.length c], .int .i64 p] wx fun e w' => ∃ ra rc, e = .returned (.tuple #[.agg #[.int .i64 (compM b bt es p).1.1, .int .i64 (compM b bt es p).1.2.1, .slice ra (compM b bt es p).1.2.2.length rc], .int .i64 (compM b bt es p).2]) ∧ EnsV w' (fun _ => True) ra rc (compM b bt es p).1.2.2 ∧ Below wx.heap.size wx w') := fun A wx h => (Compact_any _ b bt a c es p wx (chk_base A.2).1 (by have := (chk_base A.2).2; omega) hp (hE.below h) A.1.small).mono fun e w' ⟨ra, rc, q1, q2, q3⟩ => ⟨ra, rc, q1, q2.all, q3⟩
  have d1 : decide (f < p) = false := decide_eq_false h0
  have e1 : compM b bt es p = ((0, 0, []), 2) := by unfold compM; rw [if_neg (by rw [h1]; decide)]
  rw [e1] at HC
  obtain ⟨cs, hcs⟩ : ∃ cs : List En, cs = [] := ⟨_, rfl⟩
  have HC0 : Hid (Light es ∧ chkM b bt es = 0 → ∀ wx, Below w.heap.size w wx → Calls Try.prog 7 #[.agg #[.int .i64 b, .int .i64 bt, .slice a es.length c], .int .i64 p] wx fun e w' => ∃ ra rc, e = .returned (.tuple #[.agg #[.int .i64 0, .int .i64 0, .slice ra 0 rc], .int .i64 2]) ∧ EnsV w' (fun _ => True) ra rc cs ∧ Below wx.heap.size wx w') := fun A wx h => by rw [hcs]; exact HC.out A wx h
  clear HC e1 h1 hcs
  have HC := HC0
  clear HC0
  clear hE hR
  generalize es.length = n at *
  generalize r.length = n2 at *
  obtain ⟨b1, b2⟩ := hb
  obtain ⟨p1, p2⟩ := hp
  obtain ⟨f1, f2⟩ := hf
  go_enter Try.func3, Try.ntmps3
  go_wp2_with (first
    | (go_at_call 6; refine (HW.out _).mono ?_; rintro e w19 ⟨rfl, HB⟩; have HZ : Hid (Below w.heap.size w w19) := (by first | exact (Bx1.at_ (Bx1.up (H3.out.1.alloc (by have := World.block_lt_of_cell? _ _ (Bx1.at_ H3.out.1).1.c0; omega) (.cells #[.int .i64 0, .int .i64 0, .slice ca 0 cc] 24)) HB)).2 | exact (Bx1.at_ (Bx1.up H2.out HB)).2 | exact (Bx1.at_ (Bx1.up H1.out HB)).2); clear HB)
    | (go_at_call 7; have := H2; refine (HC.out (HAh.out (by trivial)) _ (Bx1.at_ H2.out).2).mono ?_; rintro e w3 ⟨ca, cc, rfl, HE3, HB⟩; have H3 : Hid (Below (w.heap.size + 1) (w.alloc (.cells #[.int .i64 b, .int .i64 bt, .slice a n c] 24)) w3 ∧ EnsV w3 (fun _ => True) ca cc cs) := ⟨Bx1.up H2.out HB, HE3⟩; obtain ⟨⟨kc0, kc1, kc2, kc3⟩, _⟩ := Bx1.at_ H3.out.1; have kcl : w.heap.size < _ := World.block_lt_of_cell? _ _ kc0; clear HB HE3)
    | (go_at_call 5; have := H1; refine (HF.out _ (Bx1.at_ H1.out).2).mono ?_; rintro e w2 ⟨q2, rfl, HA2, HB⟩; have H2 : Hid (Below (w.heap.size + 1) (w.alloc (.cells #[.int .i64 b, .int .i64 bt, .slice a n c] 24)) w2) := Bx1.up H1.out HB; have HBh : Hid (q2 = true → Light r ∧ 0 ≤ f ∧ f ≤ 1000000 ∧ 0 ≤ t) := HA2; obtain ⟨⟨kb0, kb1, kb2, kb3⟩, _⟩ := Bx1.at_ H2.out; have kbl : w.heap.size < _ := World.block_lt_of_cell? _ _ kb0; clear HB HA2; cases q2)
    | (go_at_call 4; refine (HM.out _ (Bx1.at_ (Below.refl _ _)).2).mono ?_; rintro e w1 ⟨q, rfl, HA, HB⟩; have H1 : Hid (Below (w.heap.size + 1) (w.alloc (.cells #[.int .i64 b, .int .i64 bt, .slice a n c] 24)) w1) := Bx1.up (Below.refl _ _) HB; have HAh : Hid (q = true → Light es ∧ chkM b bt es = 0) := HA; obtain ⟨⟨ka0, ka1, ka2, ka3⟩, _⟩ := Bx1.at_ H1.out; have kal : w.heap.size < _ := World.block_lt_of_cell? _ _ ka0; clear HB HA; cases q))
  all_goals (
    go_ret
    exact ⟨rfl, HZ.out⟩)
set_option maxRecDepth 100000 in
set_option maxHeartbeats 3200000 in
theorem short_no (b bt : Int) (es : List En) (a : Option Addr) (c : Nat) (p f t : Int) (r : List En) (a2 : Option Addr) (c2 : Nat) (w : World) (hb : InR b) (hbt : InR bt) (hE : EnsV w (fun _ => True) a c es) (hp : InR p) (hf : InR f) (ht : InR t) (hR : EnsV w (fun _ => True) a2 c2 r) (h0 : ¬ f < p) (h1 : (termM b bt es p).2 = true) (h2 : (putM b bt es f t r).2.2 = false) : Calls Try.prog 3 #[.agg #[.int .i64 b, .int .i64 bt, .slice a es.length c], .int .i64 p, .int .i64 f, .int .i64 t, .slice a2 r.length c2] w fun e w' => e = .returned (.bool true) ∧ Below w.heap.size w w' := by
  have h5 := hR.cap1
  have h6 := hR.cap2
  have HM : Hid (∀ wx, Below w.heap.size w wx → Calls Try.prog 4 #[.agg #[.int .i64 b, .int .i64 bt, .slice a es.length c]] wx (TellsP (Light es ∧ chkM b bt es = 0) wx)) := fun wx h => may_any _ b bt a c es wx hb hbt (hE.below h)
  have HF : Hid (∀ wx, Below w.heap.size w wx → Calls Try.prog 5 #[.int .i64 f, .int .i64 t, .slice a2 r.length c2] wx (TellsP (Light r ∧ 0 ≤ f ∧ f ≤ 1000000 ∧ 0 ≤ t) wx)) := fun wx h => fits_any _ f t a2 c2 r wx hf ht (hR.below h)
  have HW : Hid (∀ wx, Calls Try.prog 6 #[] wx fun e w' => e = .returned (.bool true) ∧ Below wx.heap.size wx w') := fun wx => works_any wx
  have HC : Hid (Light es ∧ chkM b bt es = 0 → ∀ wx, Below w.heap.size w wx → Calls Try.prog 7 #[.agg #[.int .i64 b, .int .i64 bt, .slice a es.length c], .int .i64 p] wx fun e w' => ∃ ra rc, e = .returned (.tuple #[.agg #[.int .i64 (compM b bt es p).1.1, .int .i64 (compM b bt es p).1.2.1, .slice ra (compM b bt es p).1.2.2.length rc], .int .i64 (compM b bt es p).2]) ∧ EnsV w' (fun _ => True) ra rc (compM b bt es p).1.2.2 ∧ Below wx.heap.size wx w') := fun A wx h => (Compact_any _ b bt a c es p wx (chk_base A.2).1 (by have := (chk_base A.2).2; omega) hp (hE.below h) A.1.small).mono fun e w' ⟨ra, rc, q1, q2, q3⟩ => ⟨ra, rc, q1, q2.all, q3⟩
  have e1 : compM b bt es p = ((p, (termM b bt es p).1, es.drop (p - b).toNat), 0) := by unfold compM; rw [if_pos h1]
  rw [e1] at HC
  have hw := term_where h1
  have hT : InR (termM b bt es p).1 := term_inr hbt hE.inr
  obtain ⟨s1, s2⟩ := short (b := b) (bt := bt) (es := es) (p := p) (q := f) (t := t) (r := r) h1 (by omega)
  have HPb : Hid (Light es ∧ chkM b bt es = 0 → 0 ≤ p ∧ p ≤ 1200000000000) := fun A => by
    have q1 := chk_base A.2
    have q4 := A.1.1
    omega
  have hcl : (es.drop (p - b).toNat).length = es.length - (p - b).toNat := List.length_drop
  have HLc : Hid (Light es ∧ chkM b bt es = 0 → ∀ ca cc wx, Calls Try.prog 8 #[.agg #[.int .i64 p, .int .i64 (termM b bt es p).1, .slice ca (es.drop (p - b).toNat).length cc]] wx fun e w' => e = .returned (.int .i64 (b + es.length)) ∧ Below wx.heap.size wx w') := fun A ca cc wx => by
    have q1 := HPb.out A
    have q2 := A.1.1
    have := Last_any p (termM b bt es p).1 ca (es.drop (p - b).toNat).length cc wx q1.1 (by omega) (by omega)
    rw [show p + ((es.drop (p - b).toNat).length : Int) = b + es.length by omega] at this
    exact this
  have HLl : Hid (Light es ∧ chkM b bt es = 0 → ∀ wx, Calls Try.prog 8 #[.agg #[.int .i64 b, .int .i64 bt, .slice a es.length c]] wx fun e w' => e = .returned (.int .i64 (b + es.length)) ∧ Below wx.heap.size wx w') := fun A wx => Last_any b bt a es.length c wx (chk_base A.2).1 (by have := (chk_base A.2).2; omega) (by have := A.1.1; omega)
  have HTl : Hid (Light es ∧ chkM b bt es = 0 → ∀ wx, Below w.heap.size w wx → Calls Try.prog 9 #[.agg #[.int .i64 b, .int .i64 bt, .slice a es.length c]] wx fun e w' => e = .returned (.int .i64 (termM b bt es (b + es.length)).1) ∧ Below wx.heap.size wx w') := fun A wx h => LastTerm_any _ b bt a c es wx (chk_base A.2).1 (by have := (chk_base A.2).2; omega) (by have := A.1.1; omega) (hE.below h)
  have HTc : Hid (Light es ∧ chkM b bt es = 0 → ∀ ca cc wx, EnsV wx (fun _ => True) ca cc (es.drop (p - b).toNat) → Calls Try.prog 9 #[.agg #[.int .i64 p, .int .i64 (termM b bt es p).1, .slice ca (es.drop (p - b).toNat).length cc]] wx fun e w' => e = .returned (.int .i64 (termM b bt es (b + es.length)).1) ∧ Below wx.heap.size wx w') := fun A ca cc wx h => by
    have q1 := HPb.out A
    have q2 := A.1.1
    have := LastTerm_any _ p (termM b bt es p).1 ca cc _ wx q1.1 (by omega) (by omega) h
    rw [show p + ((es.drop (p - b).toNat).length : Int) = b + es.length by omega, term_short h1 (by omega)] at this
    exact this
  have HPl : Hid (Light es ∧ chkM b bt es = 0 → Light r ∧ 0 ≤ f ∧ f ≤ 1000000 ∧ 0 ≤ t → ∀ wx, Below w.heap.size w wx → Calls Try.prog 10 #[.agg #[.int .i64 b, .int .i64 bt, .slice a es.length c], .int .i64 f, .int .i64 t, .slice a2 r.length c2] wx fun e w' => ∃ ra rc, e = .returned (.tuple #[.agg #[.int .i64 b, .int .i64 bt, .slice ra (putM b bt es f t r).1.length rc], .int .i64 (putM b bt es f t r).2.1, .bool false]) ∧ EnsV w' (fun _ => True) ra rc (putM b bt es f t r).1 ∧ Below wx.heap.size wx w') := fun A B wx h => by
    have := Put_any _ _ b bt a a2 c c2 es r f t wx (chk_base A.2).1 (by have := (chk_base A.2).2; omega) B.2.1 (by omega) ht hbt (hE.below h) A.1.small (hR.below h) B.1.small
    refine this.mono fun e w' ⟨ra, rc, q1, q2, q3⟩ => ?_
    rw [h2] at q1
    exact ⟨ra, rc, q1, q2.all, q3⟩
  have HPc : Hid (Light es ∧ chkM b bt es = 0 → Light r ∧ 0 ≤ f ∧ f ≤ 1000000 ∧ 0 ≤ t → ∀ ca cc wx, Below w.heap.size w wx → EnsV wx (fun _ => True) ca cc (es.drop (p - b).toNat) → Calls Try.prog 10 #[.agg #[.int .i64 p, .int .i64 (termM b bt es p).1, .slice ca (es.drop (p - b).toNat).length cc], .int .i64 f, .int .i64 t, .slice a2 r.length c2] wx fun e w' => ∃ ra rc, e = .returned (.tuple #[.agg #[.int .i64 p, .int .i64 (termM b bt es p).1, .slice ra (putM p (termM b bt es p).1 (es.drop (p - b).toNat) f t r).1.length rc], .int .i64 (putM p (termM b bt es p).1 (es.drop (p - b).toNat) f t r).2.1, .bool false]) ∧ EnsV w' (fun _ => True) ra rc (putM p (termM b bt es p).1 (es.drop (p - b).toNat) f t r).1 ∧ Below wx.heap.size wx w') := fun A B ca cc wx h h9 => by
    have q1 := HPb.out A
    have := Put_any _ _ p (termM b bt es p).1 ca a2 cc c2 _ r f t wx q1.1 (by omega) B.2.1 (by omega) ht hT h9 (small_drop A.1.small _) (hR.below h) B.1.small
    refine this.mono fun e w' ⟨ra, rc, q1, q2, q3⟩ => ?_
    rw [s1, h2] at q1
    skip
    exact ⟨ra, rc, q1, q2.all, q3⟩
  clear s1 s2 hT h1 h2 e1 hE hR
  have d1 : decide (f < p) = false := decide_eq_false h0
  generalize (putM p (termM b bt es p).1 (es.drop (p - b).toNat) f t r).2.1 = q8 at *
  generalize (putM p (termM b bt es p).1 (es.drop (p - b).toNat) f t r).1 = ys at *
  generalize (putM b bt es f t r).2.1 = q9 at *
  generalize (putM b bt es f t r).1 = xs at *
  generalize (termM b bt es (b + es.length)).1 = lt at *
  generalize (termM b bt es p).1 = T at *
  generalize es.drop (p - b).toNat = cs at *
  generalize ys.length = ym at *
  generalize xs.length = xm at *
  generalize cs.length = m1 at *
  clear hcl hw
  generalize es.length = n at *
  generalize r.length = n2 at *
  obtain ⟨b1, b2⟩ := hb
  obtain ⟨p1, p2⟩ := hp
  obtain ⟨f1, f2⟩ := hf
  go_enter Try.func3, Try.ntmps3
  go_wp2_with (first
    | (go_at_call 6; refine (HW.out _).mono ?_; rintro e w19 ⟨rfl, HB⟩; have HZ : Hid (Below w.heap.size w w19) := (by first | exact (Bx1.at_ (Bx1.up H2.out HB)).2 | exact (Bx1.at_ (Bx1.up H1.out HB)).2); clear HB)
    | (go_at_call 7; have := H2; refine (HC.out (HAh.out (by trivial)) _ (Bx1.at_ H2.out).2).mono ?_; rintro e w3 ⟨ca, cc, rfl, HE3, HB⟩; have H3 : Hid (Below (w.heap.size + 1) (w.alloc (.cells #[.int .i64 b, .int .i64 bt, .slice a n c] 24)) w3 ∧ EnsV w3 (fun _ => True) ca cc cs) := ⟨Bx1.up H2.out HB, HE3⟩; obtain ⟨⟨kc0, kc1, kc2, kc3⟩, _⟩ := Bx1.at_ H3.out.1; have kcl : w.heap.size < _ := World.block_lt_of_cell? _ _ kc0; have hp8 : 0 ≤ p ∧ p ≤ 1200000000000 := HPb.out (HAh.out (by trivial)); obtain ⟨hp8, hp9⟩ := hp8; clear HB HE3)
    | (go_at_call 5; have := H1; refine (HF.out _ (Bx1.at_ H1.out).2).mono ?_; rintro e w2 ⟨q2, rfl, HA2, HB⟩; have H2 : Hid (Below (w.heap.size + 1) (w.alloc (.cells #[.int .i64 b, .int .i64 bt, .slice a n c] 24)) w2) := Bx1.up H1.out HB; have HBh : Hid (q2 = true → Light r ∧ 0 ≤ f ∧ f ≤ 1000000 ∧ 0 ≤ t) := HA2; obtain ⟨⟨kb0, kb1, kb2, kb3⟩, _⟩ := Bx1.at_ H2.out; have kbl : w.heap.size < _ := World.block_lt_of_cell? _ _ kb0; clear HB HA2; cases q2)
    | (go_at_call 4; refine (HM.out _ (Bx1.at_ (Below.refl _ _)).2).mono ?_; rintro e w1 ⟨q, rfl, HA, HB⟩; have H1 : Hid (Below (w.heap.size + 1) (w.alloc (.cells #[.int .i64 b, .int .i64 bt, .slice a n c] 24)) w1) := Bx1.up (Below.refl _ _) HB; have HAh : Hid (q = true → Light es ∧ chkM b bt es = 0) := HA; obtain ⟨⟨ka0, ka1, ka2, ka3⟩, _⟩ := Bx1.at_ H1.out; have kal : w.heap.size < _ := World.block_lt_of_cell? _ _ ka0; clear HB HA; cases q))
  all_goals first | (go_ret; exact ⟨rfl, HZ.out⟩) | skip
  have HV : Hid (∀ wx, Below (w3.heap.size + 1) (w3.alloc (.cells #[.int .i64 p, .int .i64 T, .slice ca m1 cc] 24)) wx → Below (w.heap.size + 1) (w.alloc (.cells #[.int .i64 b, .int .i64 bt, .slice a n c] 24)) wx ∧ Cell3 wx w3.heap.size (.int .i64 p) (.int .i64 T) (.slice ca m1 cc) ∧ EnsV wx (fun _ => True) ca cc cs) := fun wx h => by
    have h2 : Below (w3.alloc (.cells #[.int .i64 p, .int .i64 T, .slice ca m1 cc] 24)).heap.size (w3.alloc (.cells #[.int .i64 p, .int .i64 T, .slice ca m1 cc] 24)) wx := by rw [size_alloc]; exact h
    exact ⟨Bx1.up (H3.out.1.alloc (by have := World.block_lt_of_cell? _ _ (Bx1.at_ H3.out.1).1.c0; omega) (.cells #[.int .i64 p, .int .i64 T, .slice ca m1 cc] 24)) h2, (Cell3.new w3 _ _ _ 24).below h2, (H3.out.2.alloc _).below h2⟩
  have HS0 : Hid (Below (w3.heap.size + 1) (w3.alloc (.cells #[.int .i64 p, .int .i64 T, .slice ca m1 cc] 24)) (w3.alloc (.cells #[.int .i64 p, .int .i64 T, .slice ca m1 cc] 24)).drew) := (Below.refl _ _).drew
  have hkw : w.heap.size < w3.heap.size := by omega
  go_region_held3 (fun w' => w'.cell? ⟨w.heap.size, 0, none⟩ = some (.int .i64 b) ∧ w'.cell? ⟨w.heap.size, 1, none⟩ = some (.int .i64 bt) ∧ w'.cell? ⟨w.heap.size, 2, none⟩ = some (.slice a n c) ∧ w'.cell? ⟨w3.heap.size, 0, none⟩ = some (.int .i64 p) ∧ w'.cell? ⟨w3.heap.size, 1, none⟩ = some (.int .i64 T) ∧ w'.cell? ⟨w3.heap.size, 2, none⟩ = some (.slice ca m1 cc)) (go_keep) (first
    | (go_at_call 9; have := H6; refine (HTl.out (HAh.out (by trivial)) _ (Bx1.at_ (HV.out _ H6.out).1).2).mono ?_; rintro e w7 ⟨rfl, HB⟩; have H7 : Hid (Below (w3.heap.size + 1) (w3.alloc (.cells #[.int .i64 p, .int .i64 T, .slice ca m1 cc] 24)) w7) := Bx1.up H6.out HB; obtain ⟨⟨kg0, kg1, kg2, kg3⟩, _⟩ := Bx1.at_ (HV.out _ H7.out).1; obtain ⟨kg4, kg5, kg6, kg7⟩ := (HV.out _ H7.out).2.1; have kgl : w3.heap.size < _ := World.block_lt_of_cell? _ _ kg4; have kgk : w.heap.size < _ := World.block_lt_of_cell? _ _ kg0; clear HB)
    | (go_at_call 9; have := H5; refine (HTc.out (HAh.out (by trivial)) _ _ _ (HV.out _ H5.out).2.2).mono ?_; rintro e w6 ⟨rfl, HB⟩; have H6 : Hid (Below (w3.heap.size + 1) (w3.alloc (.cells #[.int .i64 p, .int .i64 T, .slice ca m1 cc] 24)) w6) := Bx1.up H5.out HB; obtain ⟨⟨kf0, kf1, kf2, kf3⟩, _⟩ := Bx1.at_ (HV.out _ H6.out).1; obtain ⟨kf4, kf5, kf6, kf7⟩ := (HV.out _ H6.out).2.1; have kfl : w3.heap.size < _ := World.block_lt_of_cell? _ _ kf4; have kfk : w.heap.size < _ := World.block_lt_of_cell? _ _ kf0; clear HB)
    | (go_at_call 8; have := H4; refine (HLl.out (HAh.out (by trivial)) _).mono ?_; rintro e w5 ⟨rfl, HB⟩; have H5 : Hid (Below (w3.heap.size + 1) (w3.alloc (.cells #[.int .i64 p, .int .i64 T, .slice ca m1 cc] 24)) w5) := Bx1.up H4.out HB; obtain ⟨⟨ke0, ke1, ke2, ke3⟩, _⟩ := Bx1.at_ (HV.out _ H5.out).1; obtain ⟨ke4, ke5, ke6, ke7⟩ := (HV.out _ H5.out).2.1; have kel : w3.heap.size < _ := World.block_lt_of_cell? _ _ ke4; have kek : w.heap.size < _ := World.block_lt_of_cell? _ _ ke0; clear HB)
    | (go_at_call 8; refine (HLc.out (HAh.out (by trivial)) _ _ _).mono ?_; rintro e w4 ⟨rfl, HB⟩; have H4 : Hid (Below (w3.heap.size + 1) (w3.alloc (.cells #[.int .i64 p, .int .i64 T, .slice ca m1 cc] 24)) w4) := Bx1.up HS0.out HB; obtain ⟨⟨kd0, kd1, kd2, kd3⟩, _⟩ := Bx1.at_ (HV.out _ H4.out).1; obtain ⟨kd4, kd5, kd6, kd7⟩ := (HV.out _ H4.out).2.1; have kdl : w3.heap.size < _ := World.block_lt_of_cell? _ _ kd4; have kdk : w.heap.size < _ := World.block_lt_of_cell? _ _ kd0; clear HB))
  go_wp2_with (first
    | (go_at_call 6; refine (HW.out _).mono ?_; rintro e w19 ⟨rfl, HB⟩; have HZ : Hid (Below w.heap.size w w19) := (by first | exact (Bx1.at_ (HV.out _ (Bx1.up H11.out HB)).1).2 | exact (Bx1.at_ (HV.out _ (Bx1.up (H9.out.1.alloc (by have := World.block_lt_of_cell? _ _ (HV.out _ H9.out.1).2.1.c0; omega) (.cells #[.int .i64 p, .int .i64 T, .slice ya ym yc] 24)) HB)).1).2); clear HB)
    | (go_at_call 10; have := H8; refine (HPc.out (HAh.out (by trivial)) (HBh.out (by trivial)) _ _ _ (Bx1.at_ (HV.out _ (H8.out.1.alloc (by have := World.block_lt_of_cell? _ _ (HV.out _ H8.out.1).2.1.c0; omega) (.cells #[.int .i64 b, .int .i64 bt, .slice xa xm xc] 24))).1).2 (HV.out _ (H8.out.1.alloc (by have := World.block_lt_of_cell? _ _ (HV.out _ H8.out.1).2.1.c0; omega) (.cells #[.int .i64 b, .int .i64 bt, .slice xa xm xc] 24))).2.2).mono ?_; rintro e w9 ⟨ya, yc, rfl, HE9, HB⟩; have H9 : Hid (Below (w3.heap.size + 1) (w3.alloc (.cells #[.int .i64 p, .int .i64 T, .slice ca m1 cc] 24)) w9 ∧ Cell3 w9 w8.heap.size (.int .i64 b) (.int .i64 bt) (.slice xa xm xc) ∧ EnsV w9 (fun _ => True) xa xc xs ∧ EnsV w9 (fun _ => True) ya yc ys) := ⟨Bx1.up (H8.out.1.alloc (by have := World.block_lt_of_cell? _ _ (HV.out _ H8.out.1).2.1.c0; omega) (.cells #[.int .i64 b, .int .i64 bt, .slice xa xm xc] 24)) HB, (Cell3.new w8 _ _ _ 24).below HB, (H8.out.2.alloc _).below HB, HE9⟩; obtain ⟨⟨ki0, ki1, ki2, ki3⟩, _⟩ := Bx1.at_ (HV.out _ H9.out.1).1; obtain ⟨ki4, ki5, ki6, ki7⟩ := (HV.out _ H9.out.1).2.1; have kil : w3.heap.size < _ := World.block_lt_of_cell? _ _ ki4; have kik : w.heap.size < _ := World.block_lt_of_cell? _ _ ki0; obtain ⟨x0, x1, x2, x3⟩ := H9.out.2.1; have xl : w8.heap.size < w9.heap.size := World.block_lt_of_cell? _ _ x0; clear HB HE9)
    | (go_at_call 10; refine (HPl.out (HAh.out (by trivial)) (HBh.out (by trivial)) _ (Bx1.at_ (HV.out _ H7.out).1).2).mono ?_; rintro e w8 ⟨xa, xc, rfl, HE8, HB⟩; have H8 : Hid (Below (w3.heap.size + 1) (w3.alloc (.cells #[.int .i64 p, .int .i64 T, .slice ca m1 cc] 24)) w8 ∧ EnsV w8 (fun _ => True) xa xc xs) := ⟨Bx1.up H7.out HB, HE8⟩; obtain ⟨⟨kh0, kh1, kh2, kh3⟩, _⟩ := Bx1.at_ (HV.out _ H8.out.1).1; obtain ⟨kh4, kh5, kh6, kh7⟩ := (HV.out _ H8.out.1).2.1; have khl : w3.heap.size < _ := World.block_lt_of_cell? _ _ kh4; have khk : w.heap.size < _ := World.block_lt_of_cell? _ _ kh0; clear HB HE8))
  go_ret
  exact ⟨rfl, HZ.out⟩
set_option maxRecDepth 100000 in
set_option maxHeartbeats 3200000 in
theorem short_yes (b bt : Int) (es : List En) (a : Option Addr) (c : Nat) (p f t : Int) (r : List En) (a2 : Option Addr) (c2 : Nat) (w : World) (hb : InR b) (hbt : InR bt) (hE : EnsV w (fun _ => True) a c es) (hp : InR p) (hf : InR f) (ht : InR t) (hR : EnsV w (fun _ => True) a2 c2 r) (h0 : ¬ f < p) (h1 : (termM b bt es p).2 = true) (h2 : (putM b bt es f t r).2.2 = true) : Calls Try.prog 3 #[.agg #[.int .i64 b, .int .i64 bt, .slice a es.length c], .int .i64 p, .int .i64 f, .int .i64 t, .slice a2 r.length c2] w fun e w' => e = .returned (.bool true) ∧ Below w.heap.size w w' := by
  have h5 := hR.cap1
  have h6 := hR.cap2
  have HM : Hid (∀ wx, Below w.heap.size w wx → Calls Try.prog 4 #[.agg #[.int .i64 b, .int .i64 bt, .slice a es.length c]] wx (TellsP (Light es ∧ chkM b bt es = 0) wx)) := fun wx h => may_any _ b bt a c es wx hb hbt (hE.below h)
  have HF : Hid (∀ wx, Below w.heap.size w wx → Calls Try.prog 5 #[.int .i64 f, .int .i64 t, .slice a2 r.length c2] wx (TellsP (Light r ∧ 0 ≤ f ∧ f ≤ 1000000 ∧ 0 ≤ t) wx)) := fun wx h => fits_any _ f t a2 c2 r wx hf ht (hR.below h)
  have HW : Hid (∀ wx, Calls Try.prog 6 #[] wx fun e w' => e = .returned (.bool true) ∧ Below wx.heap.size wx w') := fun wx => works_any wx
  have HC : Hid (Light es ∧ chkM b bt es = 0 → ∀ wx, Below w.heap.size w wx → Calls Try.prog 7 #[.agg #[.int .i64 b, .int .i64 bt, .slice a es.length c], .int .i64 p] wx fun e w' => ∃ ra rc, e = .returned (.tuple #[.agg #[.int .i64 (compM b bt es p).1.1, .int .i64 (compM b bt es p).1.2.1, .slice ra (compM b bt es p).1.2.2.length rc], .int .i64 (compM b bt es p).2]) ∧ EnsV w' (fun _ => True) ra rc (compM b bt es p).1.2.2 ∧ Below wx.heap.size wx w') := fun A wx h => (Compact_any _ b bt a c es p wx (chk_base A.2).1 (by have := (chk_base A.2).2; omega) hp (hE.below h) A.1.small).mono fun e w' ⟨ra, rc, q1, q2, q3⟩ => ⟨ra, rc, q1, q2.all, q3⟩
  have e1 : compM b bt es p = ((p, (termM b bt es p).1, es.drop (p - b).toNat), 0) := by unfold compM; rw [if_pos h1]
  rw [e1] at HC
  have hw := term_where h1
  have hT : InR (termM b bt es p).1 := term_inr hbt hE.inr
  obtain ⟨s1, s2⟩ := short (b := b) (bt := bt) (es := es) (p := p) (q := f) (t := t) (r := r) h1 (by omega)
  have HPb : Hid (Light es ∧ chkM b bt es = 0 → 0 ≤ p ∧ p ≤ 1200000000000) := fun A => by
    have q1 := chk_base A.2
    have q4 := A.1.1
    omega
  have hcl : (es.drop (p - b).toNat).length = es.length - (p - b).toNat := List.length_drop
  have HLc : Hid (Light es ∧ chkM b bt es = 0 → ∀ ca cc wx, Calls Try.prog 8 #[.agg #[.int .i64 p, .int .i64 (termM b bt es p).1, .slice ca (es.drop (p - b).toNat).length cc]] wx fun e w' => e = .returned (.int .i64 (b + es.length)) ∧ Below wx.heap.size wx w') := fun A ca cc wx => by
    have q1 := HPb.out A
    have q2 := A.1.1
    have := Last_any p (termM b bt es p).1 ca (es.drop (p - b).toNat).length cc wx q1.1 (by omega) (by omega)
    rw [show p + ((es.drop (p - b).toNat).length : Int) = b + es.length by omega] at this
    exact this
  have HLl : Hid (Light es ∧ chkM b bt es = 0 → ∀ wx, Calls Try.prog 8 #[.agg #[.int .i64 b, .int .i64 bt, .slice a es.length c]] wx fun e w' => e = .returned (.int .i64 (b + es.length)) ∧ Below wx.heap.size wx w') := fun A wx => Last_any b bt a es.length c wx (chk_base A.2).1 (by have := (chk_base A.2).2; omega) (by have := A.1.1; omega)
  have HTl : Hid (Light es ∧ chkM b bt es = 0 → ∀ wx, Below w.heap.size w wx → Calls Try.prog 9 #[.agg #[.int .i64 b, .int .i64 bt, .slice a es.length c]] wx fun e w' => e = .returned (.int .i64 (termM b bt es (b + es.length)).1) ∧ Below wx.heap.size wx w') := fun A wx h => LastTerm_any _ b bt a c es wx (chk_base A.2).1 (by have := (chk_base A.2).2; omega) (by have := A.1.1; omega) (hE.below h)
  have HTc : Hid (Light es ∧ chkM b bt es = 0 → ∀ ca cc wx, EnsV wx (fun _ => True) ca cc (es.drop (p - b).toNat) → Calls Try.prog 9 #[.agg #[.int .i64 p, .int .i64 (termM b bt es p).1, .slice ca (es.drop (p - b).toNat).length cc]] wx fun e w' => e = .returned (.int .i64 (termM b bt es (b + es.length)).1) ∧ Below wx.heap.size wx w') := fun A ca cc wx h => by
    have q1 := HPb.out A
    have q2 := A.1.1
    have := LastTerm_any _ p (termM b bt es p).1 ca cc _ wx q1.1 (by omega) (by omega) h
    rw [show p + ((es.drop (p - b).toNat).length : Int) = b + es.length by omega, term_short h1 (by omega)] at this
    exact this
  have HPl : Hid (Light es ∧ chkM b bt es = 0 → Light r ∧ 0 ≤ f ∧ f ≤ 1000000 ∧ 0 ≤ t → ∀ wx, Below w.heap.size w wx → Calls Try.prog 10 #[.agg #[.int .i64 b, .int .i64 bt, .slice a es.length c], .int .i64 f, .int .i64 t, .slice a2 r.length c2] wx fun e w' => ∃ ra rc, e = .returned (.tuple #[.agg #[.int .i64 b, .int .i64 bt, .slice ra (putM b bt es f t r).1.length rc], .int .i64 (putM b bt es f t r).2.1, .bool true]) ∧ EnsV w' (fun _ => True) ra rc (putM b bt es f t r).1 ∧ Below wx.heap.size wx w') := fun A B wx h => by
    have := Put_any _ _ b bt a a2 c c2 es r f t wx (chk_base A.2).1 (by have := (chk_base A.2).2; omega) B.2.1 (by omega) ht hbt (hE.below h) A.1.small (hR.below h) B.1.small
    refine this.mono fun e w' ⟨ra, rc, q1, q2, q3⟩ => ?_
    rw [h2] at q1
    exact ⟨ra, rc, q1, q2.all, q3⟩
  have HPc : Hid (Light es ∧ chkM b bt es = 0 → Light r ∧ 0 ≤ f ∧ f ≤ 1000000 ∧ 0 ≤ t → ∀ ca cc wx, Below w.heap.size w wx → EnsV wx (fun _ => True) ca cc (es.drop (p - b).toNat) → Calls Try.prog 10 #[.agg #[.int .i64 p, .int .i64 (termM b bt es p).1, .slice ca (es.drop (p - b).toNat).length cc], .int .i64 f, .int .i64 t, .slice a2 r.length c2] wx fun e w' => ∃ ra rc, e = .returned (.tuple #[.agg #[.int .i64 p, .int .i64 (termM b bt es p).1, .slice ra (putM p (termM b bt es p).1 (es.drop (p - b).toNat) f t r).1.length rc], .int .i64 (putM b bt es f t r).2.1, .bool true]) ∧ EnsV w' (fun _ => True) ra rc (putM p (termM b bt es p).1 (es.drop (p - b).toNat) f t r).1 ∧ Below wx.heap.size wx w') := fun A B ca cc wx h h9 => by
    have q1 := HPb.out A
    have := Put_any _ _ p (termM b bt es p).1 ca a2 cc c2 _ r f t wx q1.1 (by omega) B.2.1 (by omega) ht hT h9 (small_drop A.1.small _) (hR.below h) B.1.small
    refine this.mono fun e w' ⟨ra, rc, q1, q2, q3⟩ => ?_
    rw [s1, h2] at q1
    rw [(s2 h2).1] at q1
    exact ⟨ra, rc, q1, q2.all, q3⟩
  have HCx : Hid (Light es ∧ chkM b bt es = 0 → Light r ∧ 0 ≤ f ∧ f ≤ 1000000 ∧ 0 ≤ t → ∀ xa xc wx, EnsV wx (fun _ => True) xa xc (putM b bt es f t r).1 → Calls Try.prog 7 #[.agg #[.int .i64 b, .int .i64 bt, .slice xa (putM b bt es f t r).1.length xc], .int .i64 p] wx fun e w' => ∃ ra rc, e = .returned (.tuple #[.agg #[.int .i64 p, .int .i64 (termM b bt es p).1, .slice ra (putM p (termM b bt es p).1 (es.drop (p - b).toNat) f t r).1.length rc], .int .i64 0]) ∧ EnsV w' (fun _ => True) ra rc (putM p (termM b bt es p).1 (es.drop (p - b).toNat) f t r).1 ∧ Below wx.heap.size wx w') := fun A B xa xc wx h => by
    have := Compact_any _ b bt xa xc _ p wx (chk_base A.2).1 (by have := (chk_base A.2).2; omega) hp h (small_put A.1 B.1)
    have e2 : compM b bt (putM b bt es f t r).1 p = ((p, (termM b bt es p).1, (putM p (termM b bt es p).1 (es.drop (p - b).toNat) f t r).1), 0) := by
      unfold compM
      rw [if_pos (s2 h2).2.1, (s2 h2).2.2.1, (s2 h2).2.2.2]
    rw [e2] at this
    exact this.mono fun e w' ⟨ra, rc, q1, q2, q3⟩ => ⟨ra, rc, q1, q2.all, q3⟩
  have HSm : Hid (∀ wx ra rc ra' rc', EnsV wx (fun _ => True) ra rc (putM p (termM b bt es p).1 (es.drop (p - b).toNat) f t r).1 → EnsV wx (fun _ => True) ra' rc' (putM p (termM b bt es p).1 (es.drop (p - b).toNat) f t r).1 → Calls Try.prog 11 #[.agg #[.int .i64 p, .int .i64 (termM b bt es p).1, .slice ra (putM p (termM b bt es p).1 (es.drop (p - b).toNat) f t r).1.length rc], .agg #[.int .i64 p, .int .i64 (termM b bt es p).1, .slice ra' (putM p (termM b bt es p).1 (es.drop (p - b).toNat) f t r).1.length rc']] wx fun e w' => e = .returned (.bool true) ∧ Below wx.heap.size wx w') := fun wx ra rc ra' rc' h h2 => by
    have := RSame_any _ _ p (termM b bt es p).1 p (termM b bt es p).1 ra ra' rc rc' _ _ wx h h2
    rw [same_self] at this
    exact this
  clear s1 s2 hT h1 h2 e1 hE hR
  have d1 : decide (f < p) = false := decide_eq_false h0
  generalize (putM p (termM b bt es p).1 (es.drop (p - b).toNat) f t r).2.1 = q8 at *
  generalize (putM p (termM b bt es p).1 (es.drop (p - b).toNat) f t r).1 = ys at *
  generalize (putM b bt es f t r).2.1 = q9 at *
  generalize (putM b bt es f t r).1 = xs at *
  generalize (termM b bt es (b + es.length)).1 = lt at *
  generalize (termM b bt es p).1 = T at *
  generalize es.drop (p - b).toNat = cs at *
  generalize ys.length = ym at *
  generalize xs.length = xm at *
  generalize cs.length = m1 at *
  clear hcl hw
  generalize es.length = n at *
  generalize r.length = n2 at *
  obtain ⟨b1, b2⟩ := hb
  obtain ⟨p1, p2⟩ := hp
  obtain ⟨f1, f2⟩ := hf
  go_enter Try.func3, Try.ntmps3
  go_wp2_with (first
    | (go_at_call 6; refine (HW.out _).mono ?_; rintro e w19 ⟨rfl, HB⟩; have HZ : Hid (Below w.heap.size w w19) := (by first | exact (Bx1.at_ (Bx1.up H2.out HB)).2 | exact (Bx1.at_ (Bx1.up H1.out HB)).2); clear HB)
    | (go_at_call 7; have := H2; refine (HC.out (HAh.out (by trivial)) _ (Bx1.at_ H2.out).2).mono ?_; rintro e w3 ⟨ca, cc, rfl, HE3, HB⟩; have H3 : Hid (Below (w.heap.size + 1) (w.alloc (.cells #[.int .i64 b, .int .i64 bt, .slice a n c] 24)) w3 ∧ EnsV w3 (fun _ => True) ca cc cs) := ⟨Bx1.up H2.out HB, HE3⟩; obtain ⟨⟨kc0, kc1, kc2, kc3⟩, _⟩ := Bx1.at_ H3.out.1; have kcl : w.heap.size < _ := World.block_lt_of_cell? _ _ kc0; have hp8 : 0 ≤ p ∧ p ≤ 1200000000000 := HPb.out (HAh.out (by trivial)); obtain ⟨hp8, hp9⟩ := hp8; clear HB HE3)
    | (go_at_call 5; have := H1; refine (HF.out _ (Bx1.at_ H1.out).2).mono ?_; rintro e w2 ⟨q2, rfl, HA2, HB⟩; have H2 : Hid (Below (w.heap.size + 1) (w.alloc (.cells #[.int .i64 b, .int .i64 bt, .slice a n c] 24)) w2) := Bx1.up H1.out HB; have HBh : Hid (q2 = true → Light r ∧ 0 ≤ f ∧ f ≤ 1000000 ∧ 0 ≤ t) := HA2; obtain ⟨⟨kb0, kb1, kb2, kb3⟩, _⟩ := Bx1.at_ H2.out; have kbl : w.heap.size < _ := World.block_lt_of_cell? _ _ kb0; clear HB HA2; cases q2)
    | (go_at_call 4; refine (HM.out _ (Bx1.at_ (Below.refl _ _)).2).mono ?_; rintro e w1 ⟨q, rfl, HA, HB⟩; have H1 : Hid (Below (w.heap.size + 1) (w.alloc (.cells #[.int .i64 b, .int .i64 bt, .slice a n c] 24)) w1) := Bx1.up (Below.refl _ _) HB; have HAh : Hid (q = true → Light es ∧ chkM b bt es = 0) := HA; obtain ⟨⟨ka0, ka1, ka2, ka3⟩, _⟩ := Bx1.at_ H1.out; have kal : w.heap.size < _ := World.block_lt_of_cell? _ _ ka0; clear HB HA; cases q))
  all_goals first | (go_ret; exact ⟨rfl, HZ.out⟩) | skip
  have HV : Hid (∀ wx, Below (w3.heap.size + 1) (w3.alloc (.cells #[.int .i64 p, .int .i64 T, .slice ca m1 cc] 24)) wx → Below (w.heap.size + 1) (w.alloc (.cells #[.int .i64 b, .int .i64 bt, .slice a n c] 24)) wx ∧ Cell3 wx w3.heap.size (.int .i64 p) (.int .i64 T) (.slice ca m1 cc) ∧ EnsV wx (fun _ => True) ca cc cs) := fun wx h => by
    have h2 : Below (w3.alloc (.cells #[.int .i64 p, .int .i64 T, .slice ca m1 cc] 24)).heap.size (w3.alloc (.cells #[.int .i64 p, .int .i64 T, .slice ca m1 cc] 24)) wx := by rw [size_alloc]; exact h
    exact ⟨Bx1.up (H3.out.1.alloc (by have := World.block_lt_of_cell? _ _ (Bx1.at_ H3.out.1).1.c0; omega) (.cells #[.int .i64 p, .int .i64 T, .slice ca m1 cc] 24)) h2, (Cell3.new w3 _ _ _ 24).below h2, (H3.out.2.alloc _).below h2⟩
  have HS0 : Hid (Below (w3.heap.size + 1) (w3.alloc (.cells #[.int .i64 p, .int .i64 T, .slice ca m1 cc] 24)) (w3.alloc (.cells #[.int .i64 p, .int .i64 T, .slice ca m1 cc] 24)).drew) := (Below.refl _ _).drew
  have hkw : w.heap.size < w3.heap.size := by omega
  go_region_held3 (fun w' => w'.cell? ⟨w.heap.size, 0, none⟩ = some (.int .i64 b) ∧ w'.cell? ⟨w.heap.size, 1, none⟩ = some (.int .i64 bt) ∧ w'.cell? ⟨w.heap.size, 2, none⟩ = some (.slice a n c) ∧ w'.cell? ⟨w3.heap.size, 0, none⟩ = some (.int .i64 p) ∧ w'.cell? ⟨w3.heap.size, 1, none⟩ = some (.int .i64 T) ∧ w'.cell? ⟨w3.heap.size, 2, none⟩ = some (.slice ca m1 cc)) (go_keep) (first
    | (go_at_call 9; have := H6; refine (HTl.out (HAh.out (by trivial)) _ (Bx1.at_ (HV.out _ H6.out).1).2).mono ?_; rintro e w7 ⟨rfl, HB⟩; have H7 : Hid (Below (w3.heap.size + 1) (w3.alloc (.cells #[.int .i64 p, .int .i64 T, .slice ca m1 cc] 24)) w7) := Bx1.up H6.out HB; obtain ⟨⟨kg0, kg1, kg2, kg3⟩, _⟩ := Bx1.at_ (HV.out _ H7.out).1; obtain ⟨kg4, kg5, kg6, kg7⟩ := (HV.out _ H7.out).2.1; have kgl : w3.heap.size < _ := World.block_lt_of_cell? _ _ kg4; have kgk : w.heap.size < _ := World.block_lt_of_cell? _ _ kg0; clear HB)
    | (go_at_call 9; have := H5; refine (HTc.out (HAh.out (by trivial)) _ _ _ (HV.out _ H5.out).2.2).mono ?_; rintro e w6 ⟨rfl, HB⟩; have H6 : Hid (Below (w3.heap.size + 1) (w3.alloc (.cells #[.int .i64 p, .int .i64 T, .slice ca m1 cc] 24)) w6) := Bx1.up H5.out HB; obtain ⟨⟨kf0, kf1, kf2, kf3⟩, _⟩ := Bx1.at_ (HV.out _ H6.out).1; obtain ⟨kf4, kf5, kf6, kf7⟩ := (HV.out _ H6.out).2.1; have kfl : w3.heap.size < _ := World.block_lt_of_cell? _ _ kf4; have kfk : w.heap.size < _ := World.block_lt_of_cell? _ _ kf0; clear HB)
    | (go_at_call 8; have := H4; refine (HLl.out (HAh.out (by trivial)) _).mono ?_; rintro e w5 ⟨rfl, HB⟩; have H5 : Hid (Below (w3.heap.size + 1) (w3.alloc (.cells #[.int .i64 p, .int .i64 T, .slice ca m1 cc] 24)) w5) := Bx1.up H4.out HB; obtain ⟨⟨ke0, ke1, ke2, ke3⟩, _⟩ := Bx1.at_ (HV.out _ H5.out).1; obtain ⟨ke4, ke5, ke6, ke7⟩ := (HV.out _ H5.out).2.1; have kel : w3.heap.size < _ := World.block_lt_of_cell? _ _ ke4; have kek : w.heap.size < _ := World.block_lt_of_cell? _ _ ke0; clear HB)
    | (go_at_call 8; refine (HLc.out (HAh.out (by trivial)) _ _ _).mono ?_; rintro e w4 ⟨rfl, HB⟩; have H4 : Hid (Below (w3.heap.size + 1) (w3.alloc (.cells #[.int .i64 p, .int .i64 T, .slice ca m1 cc] 24)) w4) := Bx1.up HS0.out HB; obtain ⟨⟨kd0, kd1, kd2, kd3⟩, _⟩ := Bx1.at_ (HV.out _ H4.out).1; obtain ⟨kd4, kd5, kd6, kd7⟩ := (HV.out _ H4.out).2.1; have kdl : w3.heap.size < _ := World.block_lt_of_cell? _ _ kd4; have kdk : w.heap.size < _ := World.block_lt_of_cell? _ _ kd0; clear HB))
  go_wp2_with (first
    | (go_at_call 6; refine (HW.out _).mono ?_; rintro e w19 ⟨rfl, HB⟩; have HZ : Hid (Below w.heap.size w w19) := (by first | exact (Bx1.at_ (HV.out _ (Bx1.up H11.out HB)).1).2 | exact (Bx1.at_ (HV.out _ (Bx1.up (H9.out.1.alloc (by have := World.block_lt_of_cell? _ _ (HV.out _ H9.out.1).2.1.c0; omega) (.cells #[.int .i64 p, .int .i64 T, .slice ya ym yc] 24)) HB)).1).2); clear HB)
    | (go_at_call 11; have := H10; refine (HSm.out _ _ _ _ _ (H10.out.2.2.1.alloc _) (H10.out.2.2.2.alloc _)).mono ?_; rintro e w11 ⟨rfl, HB⟩; have H11 : Hid (Below (w3.heap.size + 1) (w3.alloc (.cells #[.int .i64 p, .int .i64 T, .slice ca m1 cc] 24)) w11) := Bx1.up (H10.out.1.alloc (by have := World.block_lt_of_cell? _ _ (HV.out _ H10.out.1).2.1.c0; omega) (.cells #[.int .i64 p, .int .i64 T, .slice za ym zc] 24)) HB; clear HB)
    | (go_at_call 7; have := H9; refine (HCx.out (HAh.out (by trivial)) (HBh.out (by trivial)) _ _ _ (H9.out.2.2.1.alloc _)).mono ?_; rintro e w10 ⟨za, zc, rfl, HE10, HB⟩; have H10 : Hid (Below (w3.heap.size + 1) (w3.alloc (.cells #[.int .i64 p, .int .i64 T, .slice ca m1 cc] 24)) w10 ∧ Cell3 w10 w9.heap.size (.int .i64 p) (.int .i64 T) (.slice ya ym yc) ∧ EnsV w10 (fun _ => True) ya yc ys ∧ EnsV w10 (fun _ => True) za zc ys) := ⟨Bx1.up (H9.out.1.alloc (by have := World.block_lt_of_cell? _ _ (HV.out _ H9.out.1).2.1.c0; omega) (.cells #[.int .i64 p, .int .i64 T, .slice ya ym yc] 24)) HB, (Cell3.new w9 _ _ _ 24).below HB, (H9.out.2.2.2.alloc _).below HB, HE10⟩; obtain ⟨v0, v1, v2, v3⟩ := H10.out.2.1; have vl : w9.heap.size < w10.heap.size := World.block_lt_of_cell? _ _ v0; clear HB HE10)
    | (go_at_call 10; have := H8; refine (HPc.out (HAh.out (by trivial)) (HBh.out (by trivial)) _ _ _ (Bx1.at_ (HV.out _ (H8.out.1.alloc (by have := World.block_lt_of_cell? _ _ (HV.out _ H8.out.1).2.1.c0; omega) (.cells #[.int .i64 b, .int .i64 bt, .slice xa xm xc] 24))).1).2 (HV.out _ (H8.out.1.alloc (by have := World.block_lt_of_cell? _ _ (HV.out _ H8.out.1).2.1.c0; omega) (.cells #[.int .i64 b, .int .i64 bt, .slice xa xm xc] 24))).2.2).mono ?_; rintro e w9 ⟨ya, yc, rfl, HE9, HB⟩; have H9 : Hid (Below (w3.heap.size + 1) (w3.alloc (.cells #[.int .i64 p, .int .i64 T, .slice ca m1 cc] 24)) w9 ∧ Cell3 w9 w8.heap.size (.int .i64 b) (.int .i64 bt) (.slice xa xm xc) ∧ EnsV w9 (fun _ => True) xa xc xs ∧ EnsV w9 (fun _ => True) ya yc ys) := ⟨Bx1.up (H8.out.1.alloc (by have := World.block_lt_of_cell? _ _ (HV.out _ H8.out.1).2.1.c0; omega) (.cells #[.int .i64 b, .int .i64 bt, .slice xa xm xc] 24)) HB, (Cell3.new w8 _ _ _ 24).below HB, (H8.out.2.alloc _).below HB, HE9⟩; obtain ⟨⟨ki0, ki1, ki2, ki3⟩, _⟩ := Bx1.at_ (HV.out _ H9.out.1).1; obtain ⟨ki4, ki5, ki6, ki7⟩ := (HV.out _ H9.out.1).2.1; have kil : w3.heap.size < _ := World.block_lt_of_cell? _ _ ki4; have kik : w.heap.size < _ := World.block_lt_of_cell? _ _ ki0; obtain ⟨x0, x1, x2, x3⟩ := H9.out.2.1; have xl : w8.heap.size < w9.heap.size := World.block_lt_of_cell? _ _ x0; clear HB HE9)
    | (go_at_call 10; refine (HPl.out (HAh.out (by trivial)) (HBh.out (by trivial)) _ (Bx1.at_ (HV.out _ H7.out).1).2).mono ?_; rintro e w8 ⟨xa, xc, rfl, HE8, HB⟩; have H8 : Hid (Below (w3.heap.size + 1) (w3.alloc (.cells #[.int .i64 p, .int .i64 T, .slice ca m1 cc] 24)) w8 ∧ EnsV w8 (fun _ => True) xa xc xs) := ⟨Bx1.up H7.out HB, HE8⟩; obtain ⟨⟨kh0, kh1, kh2, kh3⟩, _⟩ := Bx1.at_ (HV.out _ H8.out.1).1; obtain ⟨kh4, kh5, kh6, kh7⟩ := (HV.out _ H8.out.1).2.1; have khl : w3.heap.size < _ := World.block_lt_of_cell? _ _ kh4; have khk : w.heap.size < _ := World.block_lt_of_cell? _ _ kh0; clear HB HE8))
  go_ret
  exact ⟨rfl, HZ.out⟩
theorem short_walk (b bt : Int) (es : List En) (a : Option Addr) (c : Nat) (p f t : Int) (r : List En) (a2 : Option Addr) (c2 : Nat) (w : World) (hb : InR b) (hbt : InR bt) (hE : EnsV w (fun _ => True) a c es) (hp : InR p) (hf : InR f) (ht : InR t) (hR : EnsV w (fun _ => True) a2 c2 r) : Calls Try.prog 3 #[.agg #[.int .i64 b, .int .i64 bt, .slice a es.length c], .int .i64 p, .int .i64 f, .int .i64 t, .slice a2 r.length c2] w fun e w' => e = .returned (.bool true) ∧ Below w.heap.size w w' := by
  by_cases h0 : f < p
  · exact short_a b bt es a c p f t r a2 c2 w hb hbt hE hp hf ht hR h0
  cases h1 : (termM b bt es p).2 with
  | false => exact short_b b bt es a c p f t r a2 c2 w hb hbt hE hp hf ht hR h0 h1
  | true =>
    cases h2 : (putM b bt es f t r).2.2 with
    | false => exact short_no b bt es a c p f t r a2 c2 w hb hbt hE hp hf ht hR h0 h1 h2
    | true => exact short_yes b bt es a c p f t r a2 c2 w hb hbt hE hp hf ht hR h0 h1 h2
end Go.Proofs.Ytmpmbgjdbahmbab
