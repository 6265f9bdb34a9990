/-
  LogsAlike: its walk.
-/
import Derived.Test.YtmpmbgjdbahmbaaAlA
import Derived.Test.YtmpmbgjdbahmbaaFro
namespace Go.Proofs.Ytmpmbgjdbahmbaa
open Go.RowKit
set_option linter.unusedVariables false

theorem up1 {w wx w' : World} {o : Obj} (h : Below (w.heap.size + 1) (w.alloc o) wx) (h2 : Below wx.heap.size wx w') : Below (w.heap.size + 1) (w.alloc o) w' := Bx1.up h h2
theorem term_inr {b bt : Int} {es : List En} {p : Int} (h : InR bt) (h2 : ∀ i, i < es.length → InR (tOf es i)) : InR (termM b bt es p).1 := by
  unfold termM
  split
  · exact h
  · split
    · exact h2 _ (by omega)
    · exact inR_zero
theorem from_len {b : Int} {es : List En} {p q : Int} : (fromM b es p q).length ≤ es.length := by
  unfold fromM
  split
  · simp
  · rw [List.length_take, List.length_drop]; omega
theorem from_light {b : Int} {es : List En} {p q : Int} (h : Light es) : Light (fromM b es p q) := by
  refine ⟨Nat.le_trans from_len h.1, ?_⟩
  unfold fromM
  split
  · intro j hj; simp at hj
  · intro j hj
    rw [List.length_take, List.length_drop] at hj
    rw [getD_take (by omega), getD_drop]
    exact h.2 _ (by omega)
set_option maxRecDepth 100000 in
set_option maxHeartbeats 3200000 in
theorem alike_yes (b bt : Int) (es : List En) (a : Option Addr) (c : Nat) (b' bt' : Int) (fs : List En) (a' : Option Addr) (c' : Nat) (p q : Int) (w : World) (hb : InR b) (hbt : InR bt) (hE : EnsV w (fun _ => True) a c es) (hb' : InR b') (hbt' : InR bt') (hF : EnsV w (fun _ => True) a' c' fs) (hp : InR p) (hq : InR q) (h0 : ¬ p < b) (h1 : ¬ p < b') (h2 : (termM b' bt' fs p).2 = true) (h3 : (termM b bt es p).2 = true) (h4 : (termM b' bt' fs p).1 = (termM b bt es p).1) : Calls Try.prog 7 #[.agg #[.int .i64 b, .int .i64 bt, .slice a es.length c], .agg #[.int .i64 b', .int .i64 bt', .slice a' fs.length c'], .int .i64 p, .int .i64 q] w fun e w' => e = .returned (.bool true) ∧ Below w.heap.size w w' := by
  have HM : Hid (∀ wx, Below w.heap.size w wx → Calls Try.prog 16 #[.agg #[.int .i64 b, .int .i64 bt, .slice a es.length c]] wx (TellsP (Light es ∧ chkM b bt es = 0) wx)) := fun wx h => may_any _ b bt a c es wx hb hbt (hE.below h)
  have HM' : Hid (∀ wx, Below w.heap.size w wx → Calls Try.prog 16 #[.agg #[.int .i64 b', .int .i64 bt', .slice a' fs.length c']] wx (TellsP (Light fs ∧ chkM b' bt' fs = 0) wx)) := fun wx h => may_any _ b' bt' a' c' fs wx hb' hbt' (hF.below h)
  have HW : Hid (∀ wx, Calls Try.prog 10 #[] wx fun e w' => e = .returned (.bool true) ∧ Below wx.heap.size wx w') := fun wx => works_any wx
  have HT : Hid (Light es ∧ chkM b bt es = 0 → ∀ wx, Below w.heap.size w wx → Calls Try.prog 18 #[.agg #[.int .i64 b, .int .i64 bt, .slice a es.length c], .int .i64 p] wx fun e w' => e = .returned (.tuple #[.int .i64 (termM b bt es p).1, .bool (termM b bt es p).2]) ∧ Below wx.heap.size wx w') := fun A wx h => RTerm_any _ b bt a c es p wx (chk_base A.2).1 (by have := (chk_base A.2).2; omega) (by have := A.1.1; omega) hp (hE.below h)
  have HT' : Hid (Light fs ∧ chkM b' bt' fs = 0 → ∀ wx, Below w.heap.size w wx → Calls Try.prog 18 #[.agg #[.int .i64 b', .int .i64 bt', .slice a' fs.length c'], .int .i64 p] wx fun e w' => e = .returned (.tuple #[.int .i64 (termM b' bt' fs p).1, .bool (termM b' bt' fs p).2]) ∧ Below wx.heap.size wx w') := fun A wx h => RTerm_any _ b' bt' a' c' fs p wx (chk_base A.2).1 (by have := (chk_base A.2).2; omega) (by have := A.1.1; omega) hp (hF.below h)
  rw [h2] at HT'
  rw [h3, ← h4] at HT
  have hti : InR (termM b' bt' fs p).1 := term_inr hbt' hF.inr
  obtain ⟨k1, k2, k3, k4, k5⟩ := alike (b := b) (bt := bt) (es := es) (b2 := b') (bt2 := bt') (fs := fs) (p := p) (most := q) (by omega) (by omega) h3 h2 h4.symm
  have HPb : Hid (Light es ∧ chkM b bt es = 0 → Light fs ∧ chkM b' bt' fs = 0 → 0 ≤ p ∧ p ≤ 1200000000000) := fun A B => by
    have q1 := chk_base A.2
    have q2 := chk_base B.2
    have q3 := (term_where h2).2
    have q4 := B.1.1
    omega
  have HNl : Hid (Light fs ∧ chkM b' bt' fs = 0 → (fromM b' fs (p + 1) q).length ≤ 300) := fun B => Nat.le_trans from_len B.1.1
  have HFr : Hid (Light fs ∧ chkM b' bt' fs = 0 → ∀ wx, Below w.heap.size w wx → Calls Try.prog 23 #[.agg #[.int .i64 b', .int .i64 bt', .slice a' fs.length c'], .int .i64 (p + 1), .int .i64 q] wx fun e w' => ∃ ra rc, e = .returned (.slice ra (fromM b' fs (p + 1) q).length rc) ∧ EnsV w' (fun _ => True) ra rc (fromM b' fs (p + 1) q) ∧ Below wx.heap.size wx w') := fun B wx h => From_any _ b' bt' a' c' fs (p + 1) q wx (chk_base B.2).1 (by have := (chk_base B.2).2; omega) ⟨by have := (chk_base B.2).1; omega, by have := (chk_base B.2).2; have := (term_where h2).2; have := B.1.1; omega⟩ hq (hF.below h) B.1.small
  have HP : Hid (Light es ∧ chkM b bt es = 0 → Light fs ∧ chkM b' bt' fs = 0 → ∀ wx fa fc, Below w.heap.size w wx → EnsV wx (fun _ => True) fa fc (fromM b' fs (p + 1) q) → Calls Try.prog 28 #[.agg #[.int .i64 b, .int .i64 bt, .slice a es.length c], .int .i64 p, .int .i64 (termM b' bt' fs p).1, .slice fa (fromM b' fs (p + 1) q).length fc] wx fun e w' => ∃ ra rc, e = .returned (.tuple #[.agg #[.int .i64 b, .int .i64 bt, .slice ra (putM b bt es p (termM b' bt' fs p).1 (fromM b' fs (p + 1) q)).1.length rc], .int .i64 (p + (fromM b' fs (p + 1) q).length), .bool true]) ∧ EnsV w' (fun _ => True) ra rc (putM b bt es p (termM b' bt' fs p).1 (fromM b' fs (p + 1) q)).1 ∧ Below wx.heap.size wx w') := fun A B wx fa fc h h9 => by
    have := HPb.out A B
    refine (Put_any _ _ b bt a fa c fc es _ p _ wx (chk_base A.2).1 (by have := (chk_base A.2).2; omega) this.1 (by omega) hti hbt (hE.below h) A.1.small h9 (from_light B.1).small).mono fun e w' ⟨ra, rc, q1, q2, q3⟩ => ?_
    rw [k1, k2] at q1
    exact ⟨ra, rc, q1, q2.all, q3⟩
  have HTX : Hid (Light es ∧ chkM b bt es = 0 → Light fs ∧ chkM b' bt' fs = 0 → ∀ ra rc i wx, InR i → EnsV wx (fun _ => True) ra rc (putM b bt es p (termM b' bt' fs p).1 (fromM b' fs (p + 1) q)).1 → Calls Try.prog 18 #[.agg #[.int .i64 b, .int .i64 bt, .slice ra (putM b bt es p (termM b' bt' fs p).1 (fromM b' fs (p + 1) q)).1.length rc], .int .i64 i] wx fun e w' => e = .returned (.tuple #[.int .i64 (termM b bt (putM b bt es p (termM b' bt' fs p).1 (fromM b' fs (p + 1) q)).1 i).1, .bool (termM b bt (putM b bt es p (termM b' bt' fs p).1 (fromM b' fs (p + 1) q)).1 i).2]) ∧ Below wx.heap.size wx w') := fun A B ra rc i wx hi h => RTerm_any _ b bt ra rc _ i wx (chk_base A.2).1 (by have := (chk_base A.2).2; omega) (by have := put_len (b := b) (bt := bt) (es := es) (p := p) (t := (termM b' bt' fs p).1) (r := fromM b' fs (p + 1) q); have := A.1.1; have := (from_light (b := b') (p := p + 1) (q := q) B.1).1; omega) hi h
  have HTM : Hid (Light fs ∧ chkM b' bt' fs = 0 → ∀ i wx, InR i → Below w.heap.size w wx → Calls Try.prog 18 #[.agg #[.int .i64 b', .int .i64 bt', .slice a' fs.length c'], .int .i64 i] wx fun e w' => e = .returned (.tuple #[.int .i64 (termM b' bt' fs i).1, .bool (termM b' bt' fs i).2]) ∧ Below wx.heap.size wx w') := fun B i wx hi h => RTerm_any _ b' bt' a' c' fs i wx (chk_base B.2).1 (by have := (chk_base B.2).2; omega) (by have := B.1.1; omega) hi (hF.below h)
  have HTL : Hid (Light es ∧ chkM b bt es = 0 → ∀ i wx, InR i → Below w.heap.size w wx → Calls Try.prog 18 #[.agg #[.int .i64 b, .int .i64 bt, .slice a es.length c], .int .i64 i] wx fun e w' => e = .returned (.tuple #[.int .i64 (termM b bt es i).1, .bool (termM b bt es i).2]) ∧ Below wx.heap.size wx w') := fun A i wx hi h => RTerm_any _ b bt a c es i wx (chk_base A.2).1 (by have := (chk_base A.2).2; omega) (by have := A.1.1; omega) hi (hE.below h)
  have HK4 : Hid (∀ i, p < i → i ≤ p + (fromM b' fs (p + 1) q).length → (termM b bt (putM b bt es p (termM b' bt' fs p).1 (fromM b' fs (p + 1) q)).1 i).2 = true ∧ (termM b' bt' fs i).2 = true ∧ (termM b bt (putM b bt es p (termM b' bt' fs p).1 (fromM b' fs (p + 1) q)).1 i).1 = (termM b' bt' fs i).1) := k4
  have HK5 : Hid (∀ i, b < i → i ≤ p → (termM b bt (putM b bt es p (termM b' bt' fs p).1 (fromM b' fs (p + 1) q)).1 i).1 = (termM b bt es i).1) := k5
  clear k1 k2 k3 k4 k5 hti h2 h3 h4
  have d1 : decide (p < b) = false := decide_eq_false h0
  have d2 : decide (p < b') = false := decide_eq_false h1
  generalize (putM b bt es p (termM b' bt' fs p).1 (fromM b' fs (p + 1) q)).1 = xs at *
  generalize fromM b' fs (p + 1) q = rr at *
  generalize (termM b' bt' fs p).1 = t at *
  clear hE hF
  generalize xs.length = m at *
  generalize rr.length = N at *
  generalize es.length = n at *
  generalize fs.length = n' at *
  obtain ⟨b1, b2⟩ := hb
  obtain ⟨b3, b4⟩ := hb'
  obtain ⟨p1, p2⟩ := hp
  obtain ⟨q1, q2⟩ := hq
  go_enter Try.func7, Try.ntmps7
  go_wp2_with (first
    | (go_at_call 10; refine (HW.out _).mono ?_; rintro e w9 ⟨rfl, HB⟩; have HZ : Hid (Below w.heap.size w w9) := (by first | exact (Bx2.at_ (w := w) (b := b) (bt := bt) (v := .slice a n c) (b' := b') (bt' := bt') (v' := .slice a' n' c') (two_up H2.out HB)).2 | exact (Bx2.at_ (w := w) (b := b) (bt := bt) (v := .slice a n c) (b' := b') (bt' := bt') (v' := .slice a' n' c') (two_up H1.out HB)).2); clear HB)
    | (go_at_call 28; have := H5; refine (HP.out (HAh.out (by trivial)) (HBh.out (by trivial)) _ _ _ (Bx2.at_ (w := w) (b := b) (bt := bt) (v := .slice a n c) (b' := b') (bt' := bt') (v' := .slice a' n' c') H5.out.1).2 H5.out.2).mono ?_; rintro e w6 ⟨ra, rc, rfl, HE6, HB⟩; have H6 : Hid (Below (w.heap.size + 1 + 1) ((w.alloc (.cells #[.int .i64 b, .int .i64 bt, .slice a n c] 24)).alloc (.cells #[.int .i64 b', .int .i64 bt', .slice a' n' c'] 24)) w6 ∧ EnsV w6 (fun _ => True) ra rc xs) := ⟨two_up H5.out.1 HB, HE6⟩; obtain ⟨⟨⟨kf0, kf1, kf2, kf3⟩, ⟨kf4, kf5, kf6, kf7⟩⟩, _⟩ := Bx2.at_ (w := w) (b := b) (bt := bt) (v := .slice a n c) (b' := b') (bt' := bt') (v' := .slice a' n' c') H6.out.1; have kfl : w.heap.size + 1 < _ := World.block_lt_of_cell? _ _ kf4; clear HB HE6)
    | (go_at_call 23; have := H4; refine (HFr.out (HBh.out (by trivial)) _ (Bx2.at_ (w := w) (b := b) (bt := bt) (v := .slice a n c) (b' := b') (bt' := bt') (v' := .slice a' n' c') H4.out).2).mono ?_; rintro e w5 ⟨fa, fc, rfl, HE5, HB⟩; have H5 : Hid (Below (w.heap.size + 1 + 1) ((w.alloc (.cells #[.int .i64 b, .int .i64 bt, .slice a n c] 24)).alloc (.cells #[.int .i64 b', .int .i64 bt', .slice a' n' c'] 24)) w5 ∧ EnsV w5 (fun _ => True) fa fc rr) := ⟨two_up H4.out HB, HE5⟩; obtain ⟨⟨⟨ke0, ke1, ke2, ke3⟩, ⟨ke4, ke5, ke6, ke7⟩⟩, _⟩ := Bx2.at_ (w := w) (b := b) (bt := bt) (v := .slice a n c) (b' := b') (bt' := bt') (v' := .slice a' n' c') H5.out.1; have kel : w.heap.size + 1 < _ := World.block_lt_of_cell? _ _ ke4; clear HB HE5)
    | (go_at_call 18; have := H3; refine (HT.out (HAh.out (by trivial)) _ (Bx2.at_ (w := w) (b := b) (bt := bt) (v := .slice a n c) (b' := b') (bt' := bt') (v' := .slice a' n' c') H3.out).2).mono ?_; rintro e w4 ⟨rfl, HB⟩; have H4 : Hid (Below (w.heap.size + 1 + 1) ((w.alloc (.cells #[.int .i64 b, .int .i64 bt, .slice a n c] 24)).alloc (.cells #[.int .i64 b', .int .i64 bt', .slice a' n' c'] 24)) w4) := two_up H3.out HB; obtain ⟨⟨⟨kd0, kd1, kd2, kd3⟩, ⟨kd4, kd5, kd6, kd7⟩⟩, _⟩ := Bx2.at_ (w := w) (b := b) (bt := bt) (v := .slice a n c) (b' := b') (bt' := bt') (v' := .slice a' n' c') H4.out; have kdl : w.heap.size + 1 < _ := World.block_lt_of_cell? _ _ kd4; clear HB)
    | (go_at_call 18; have := H2; refine (HT'.out (HBh.out (by trivial)) _ (Bx2.at_ (w := w) (b := b) (bt := bt) (v := .slice a n c) (b' := b') (bt' := bt') (v' := .slice a' n' c') H2.out).2).mono ?_; rintro e w3 ⟨rfl, HB⟩; have H3 : Hid (Below (w.heap.size + 1 + 1) ((w.alloc (.cells #[.int .i64 b, .int .i64 bt, .slice a n c] 24)).alloc (.cells #[.int .i64 b', .int .i64 bt', .slice a' n' c'] 24)) w3) := two_up H2.out HB; obtain ⟨⟨⟨kc0, kc1, kc2, kc3⟩, ⟨kc4, kc5, kc6, kc7⟩⟩, _⟩ := Bx2.at_ (w := w) (b := b) (bt := bt) (v := .slice a n c) (b' := b') (bt' := bt') (v' := .slice a' n' c') H3.out; have kcl : w.heap.size + 1 < _ := World.block_lt_of_cell? _ _ kc4; have hp8 : 0 ≤ p ∧ p ≤ 1200000000000 := HPb.out (HAh.out (by trivial)) (HBh.out (by trivial)); obtain ⟨hp8, hp9⟩ := hp8; have hb8 : 0 ≤ b ∧ b ≤ 1099511627776 := chk_base (HAh.out (by trivial)).2; obtain ⟨hb8, hb9⟩ := hb8; have hN : N ≤ 300 := HNl.out (HBh.out (by trivial)); clear HB)
    | (go_at_call 16; have := H1; refine (HM'.out _ (Bx2.at_ (w := w) (b := b) (bt := bt) (v := .slice a n c) (b' := b') (bt' := bt') (v' := .slice a' n' c') H1.out).2).mono ?_; rintro e w2 ⟨q2, rfl, HA2, HB⟩; have H2 : Hid (Below (w.heap.size + 1 + 1) ((w.alloc (.cells #[.int .i64 b, .int .i64 bt, .slice a n c] 24)).alloc (.cells #[.int .i64 b', .int .i64 bt', .slice a' n' c'] 24)) w2) := two_up H1.out HB; have HBh : Hid (q2 = true → Light fs ∧ chkM b' bt' fs = 0) := HA2; obtain ⟨⟨⟨kb0, kb1, kb2, kb3⟩, ⟨kb4, kb5, kb6, kb7⟩⟩, _⟩ := Bx2.at_ (w := w) (b := b) (bt := bt) (v := .slice a n c) (b' := b') (bt' := bt') (v' := .slice a' n' c') H2.out; have kbl : w.heap.size + 1 < _ := World.block_lt_of_cell? _ _ kb4; clear HB HA2; cases q2)
    | (go_at_call 16; refine (HM.out _ (Bx2.at_ (w := w) (b := b) (bt := bt) (v := .slice a n c) (b' := b') (bt' := bt') (v' := .slice a' n' c') (Below.refl _ _)).2).mono ?_; rintro e w1 ⟨q1, rfl, HA, HB⟩; have H1 : Hid (Below (w.heap.size + 1 + 1) ((w.alloc (.cells #[.int .i64 b, .int .i64 bt, .slice a n c] 24)).alloc (.cells #[.int .i64 b', .int .i64 bt', .slice a' n' c'] 24)) w1) := two_up (Below.refl _ _) HB; have HAh : Hid (q1 = true → Light es ∧ chkM b bt es = 0) := HA; obtain ⟨⟨⟨ka0, ka1, ka2, ka3⟩, ⟨ka4, ka5, ka6, ka7⟩⟩, _⟩ := Bx2.at_ (w := w) (b := b) (bt := bt) (v := .slice a n c) (b' := b') (bt' := bt') (v' := .slice a' n' c') H1.out; have kal : w.heap.size + 1 < _ := World.block_lt_of_cell? _ _ ka4; clear HB HA; cases q1))
  all_goals first | (go_ret; exact ⟨rfl, HZ.out⟩) | skip
  have HV : Hid (∀ wx, Below (w6.heap.size + 1) (w6.alloc (.cells #[.int .i64 b, .int .i64 bt, .slice ra m rc] 24)) wx → Below (w.heap.size + 1 + 1) ((w.alloc (.cells #[.int .i64 b, .int .i64 bt, .slice a n c] 24)).alloc (.cells #[.int .i64 b', .int .i64 bt', .slice a' n' c'] 24)) wx ∧ Cell3 wx w6.heap.size (.int .i64 b) (.int .i64 bt) (.slice ra m rc) ∧ EnsV wx (fun _ => True) ra rc xs) := fun wx h => by
    have h2 : Below (w6.alloc (.cells #[.int .i64 b, .int .i64 bt, .slice ra m rc] 24)).heap.size (w6.alloc (.cells #[.int .i64 b, .int .i64 bt, .slice ra m rc] 24)) wx := by rw [size_alloc]; exact h
    exact ⟨two_up (H6.out.1.alloc (by have := World.block_lt_of_cell? _ _ (Bx2.at_ (w := w) (b := b) (bt := bt) (v := .slice a n c) (b' := b') (bt' := bt') (v' := .slice a' n' c') H6.out.1).1.g.c0; omega) (.cells #[.int .i64 b, .int .i64 bt, .slice ra m rc] 24)) h2, (Cell3.new w6 _ _ _ 24).below h2, (H6.out.2.alloc _).below h2⟩
  have HTx : Hid (∀ i wx, InR i → Below (w6.heap.size + 1) (w6.alloc (.cells #[.int .i64 b, .int .i64 bt, .slice ra m rc] 24)) wx → Calls Try.prog 18 #[.agg #[.int .i64 b, .int .i64 bt, .slice ra m rc], .int .i64 i] wx fun e w' => e = .returned (.tuple #[.int .i64 (termM b bt xs i).1, .bool (termM b bt xs i).2]) ∧ Below (w6.heap.size + 1) (w6.alloc (.cells #[.int .i64 b, .int .i64 bt, .slice ra m rc] 24)) w') := fun i wx hi h => (HTX.out (HAh.out (by trivial)) (HBh.out (by trivial)) ra rc i wx hi (HV.out wx h).2.2).mono fun e w' q2 => ⟨q2.1, up1 h q2.2⟩
  have HTm : Hid (∀ i wx, InR i → Below (w6.heap.size + 1) (w6.alloc (.cells #[.int .i64 b, .int .i64 bt, .slice ra m rc] 24)) wx → Calls Try.prog 18 #[.agg #[.int .i64 b', .int .i64 bt', .slice a' n' c'], .int .i64 i] wx fun e w' => e = .returned (.tuple #[.int .i64 (termM b' bt' fs i).1, .bool (termM b' bt' fs i).2]) ∧ Below (w6.heap.size + 1) (w6.alloc (.cells #[.int .i64 b, .int .i64 bt, .slice ra m rc] 24)) w') := fun i wx hi h => (HTM.out (HBh.out (by trivial)) i wx hi (Bx2.at_ (w := w) (b := b) (bt := bt) (v := .slice a n c) (b' := b') (bt' := bt') (v' := .slice a' n' c') (HV.out wx h).1).2).mono fun e w' q2 => ⟨q2.1, up1 h q2.2⟩
  have HTl : Hid (∀ i wx, InR i → Below (w6.heap.size + 1) (w6.alloc (.cells #[.int .i64 b, .int .i64 bt, .slice ra m rc] 24)) wx → Calls Try.prog 18 #[.agg #[.int .i64 b, .int .i64 bt, .slice a n c], .int .i64 i] wx fun e w' => e = .returned (.tuple #[.int .i64 (termM b bt es i).1, .bool (termM b bt es i).2]) ∧ Below (w6.heap.size + 1) (w6.alloc (.cells #[.int .i64 b, .int .i64 bt, .slice ra m rc] 24)) w') := fun i wx hi h => (HTL.out (HAh.out (by trivial)) i wx hi (Bx2.at_ (w := w) (b := b) (bt := bt) (v := .slice a n c) (b' := b') (bt' := bt') (v' := .slice a' n' c') (HV.out wx h).1).2).mono fun e w' q2 => ⟨q2.1, up1 h q2.2⟩
  clear HTX HTM HTL HP HFr HT HT' HM HM' HPb HNl
  go_loopw [17] (fun y wr => ∃ (j : Nat), j ≤ N ∧ y = .int .i64 (p + 1 + j) ∧ Hid (Below (w6.heap.size + 1) (w6.alloc (.cells #[.int .i64 b, .int .i64 bt, .slice ra m rc] 24)) wr)) (fun y _ => (p + 1 + N - intOf y).toNat)
  case atStart => exact ⟨0, Nat.zero_le _, by simp, Below.refl _ _⟩
  case round =>
    obtain ⟨j, hj, rfl, HR⟩ := hrel
    obtain ⟨⟨⟨ya0, ya1, ya2, ya3⟩, ⟨ya4, ya5, ya6, ya7⟩⟩, _⟩ := Bx2.at_ (w := w) (b := b) (bt := bt) (v := .slice a n c) (b' := b') (bt' := bt') (v' := .slice a' n' c') (HV.out _ HR.out).1; obtain ⟨ya8, ya9, ya10, ya11⟩ := (HV.out _ HR.out).2.1
    obtain ⟨i, hi⟩ : ∃ i : Int, i = p + 1 + (j : Int) := ⟨_, rfl⟩
    rw [← hi]
    by_cases hlt : j < N
    · obtain ⟨e1, e2, e3⟩ := HK4.out i (by omega) (by omega)
      have Hx : Hid (Calls Try.prog 18 #[.agg #[.int .i64 b, .int .i64 bt, .slice ra m rc], .int .i64 i] wr fun e w' => e = .returned (.tuple #[.int .i64 (termM b' bt' fs i).1, .bool true]) ∧ Below (w6.heap.size + 1) (w6.alloc (.cells #[.int .i64 b, .int .i64 bt, .slice ra m rc] 24)) w') := by
        have := HTx.out i wr ⟨by omega, by omega⟩ HR.out
        rw [e1, e3] at this
        exact this
      have Hm : Hid (∀ wx, Below (w6.heap.size + 1) (w6.alloc (.cells #[.int .i64 b, .int .i64 bt, .slice ra m rc] 24)) wx → Calls Try.prog 18 #[.agg #[.int .i64 b', .int .i64 bt', .slice a' n' c'], .int .i64 i] wx fun e w' => e = .returned (.tuple #[.int .i64 (termM b' bt' fs i).1, .bool true]) ∧ Below (w6.heap.size + 1) (w6.alloc (.cells #[.int .i64 b, .int .i64 bt, .slice ra m rc] 24)) w') := fun wx h => by
        have := HTm.out i wx ⟨by omega, by omega⟩ h
        rw [e2] at this
        exact this
      have hi1 : i ≤ p + (N : Int) := by omega
      have hi2 : i ≤ 1300000000000 := by omega
      have hi3 : 0 ≤ i := by omega
      have HI : Hid (i + 1 = p + 1 + ((j + 1 : Nat) : Int)) := by show _ = _; omega
      have HI2 : Hid ((p + 1 + (N : Int) - (i + 1)).toNat < (p + 1 + (N : Int) - i).toNat) := by show _ < _; omega
      clear e1 e2 e3 hi
      generalize (termM b' bt' fs i).1 = tt at *
      go_wp2_with (first
        | (go_at_call 18; have := V1; refine (Hm.out _ V1.out).mono ?_; rintro e w8 ⟨rfl, HB⟩; have V2 : Hid (Below (w6.heap.size + 1) (w6.alloc (.cells #[.int .i64 b, .int .i64 bt, .slice ra m rc] 24)) w8) := HB; clear HB)
        | (go_at_call 18; refine Hx.out.mono ?_; rintro e w7 ⟨rfl, HB⟩; have V1 : Hid (Below (w6.heap.size + 1) (w6.alloc (.cells #[.int .i64 b, .int .i64 bt, .slice ra m rc] 24)) w7) := HB; obtain ⟨⟨⟨yb0, yb1, yb2, yb3⟩, ⟨yb4, yb5, yb6, yb7⟩⟩, _⟩ := Bx2.at_ (w := w) (b := b) (bt := bt) (v := .slice a n c) (b' := b') (bt' := bt') (v' := .slice a' n' c') (HV.out _ V1.out).1; obtain ⟨yb8, yb9, yb10, yb11⟩ := (HV.out _ V1.out).2.1; clear HB))
      go_roundw
      case rel => exact ⟨j + 1, by omega, by rw [HI.out], V2.out⟩
      case measure => simp only [intOf]; exact HI2.out
    · have hi1 : ¬ i ≤ p + (N : Int) := by omega
      have hi4 : decide (i ≤ p + (N : Int)) = false := decide_eq_false hi1
      clear hi
      go_wp2
      go_loopw [22] (fun y wr => ∃ (j : Nat), b + j ≤ p ∧ y = .int .i64 (b + 1 + j) ∧ Hid (Below (w6.heap.size + 1) (w6.alloc (.cells #[.int .i64 b, .int .i64 bt, .slice ra m rc] 24)) wr)) (fun y _ => (p + 1 - intOf y).toNat)
      case atStart => exact ⟨0, by omega, by simp, HR.out⟩
      case round =>
        clear ya0 ya1 ya2 ya3 ya4 ya5 ya6 ya7 ya8 ya9 ya10 ya11
        clear HR
        obtain ⟨j2, hj2, rfl, HR⟩ := hrel
        obtain ⟨⟨⟨yc0, yc1, yc2, yc3⟩, ⟨yc4, yc5, yc6, yc7⟩⟩, _⟩ := Bx2.at_ (w := w) (b := b) (bt := bt) (v := .slice a n c) (b' := b') (bt' := bt') (v' := .slice a' n' c') (HV.out _ HR.out).1; obtain ⟨yc8, yc9, yc10, yc11⟩ := (HV.out _ HR.out).2.1
        obtain ⟨i2, hi2⟩ : ∃ i2 : Int, i2 = b + 1 + (j2 : Int) := ⟨_, rfl⟩
        rw [← hi2]
        by_cases hlt2 : i2 ≤ p
        · have e3 := HK5.out i2 (by omega) hlt2
          have Hx : Hid (Calls Try.prog 18 #[.agg #[.int .i64 b, .int .i64 bt, .slice ra m rc], .int .i64 i2] wr fun e w' => e = .returned (.tuple #[.int .i64 (termM b bt es i2).1, .bool (termM b bt xs i2).2]) ∧ Below (w6.heap.size + 1) (w6.alloc (.cells #[.int .i64 b, .int .i64 bt, .slice ra m rc] 24)) w') := by
            have := HTx.out i2 wr ⟨by omega, by omega⟩ HR.out
            rw [e3] at this
            exact this
          have Hl : Hid (∀ wx, Below (w6.heap.size + 1) (w6.alloc (.cells #[.int .i64 b, .int .i64 bt, .slice ra m rc] 24)) wx → Calls Try.prog 18 #[.agg #[.int .i64 b, .int .i64 bt, .slice a n c], .int .i64 i2] wx fun e w' => e = .returned (.tuple #[.int .i64 (termM b bt es i2).1, .bool (termM b bt es i2).2]) ∧ Below (w6.heap.size + 1) (w6.alloc (.cells #[.int .i64 b, .int .i64 bt, .slice ra m rc] 24)) w') := fun wx h => HTl.out i2 wx ⟨by omega, by omega⟩ h
          have hi3 : 0 ≤ i2 := by omega
          have hi5 : i2 ≤ 1300000000000 := by omega
          have HI : Hid (i2 + 1 = b + 1 + ((j2 + 1 : Nat) : Int) ∧ b + ((j2 + 1 : Nat) : Int) ≤ p) := ⟨by omega, by omega⟩
          have HI2 : Hid ((p + 1 - (i2 + 1)).toNat < (p + 1 - i2).toNat) := by show _ < _; omega
          clear e3 hi2
          generalize (termM b bt es i2).1 = tt at *
          generalize (termM b bt es i2).2 = t2 at *
          generalize (termM b bt xs i2).2 = t3 at *
          go_wp2_with (first
            | (go_at_call 18; have := V1; refine (Hl.out _ V1.out).mono ?_; rintro e w8 ⟨rfl, HB⟩; have V2 : Hid (Below (w6.heap.size + 1) (w6.alloc (.cells #[.int .i64 b, .int .i64 bt, .slice ra m rc] 24)) w8) := HB; clear HB)
            | (go_at_call 18; refine Hx.out.mono ?_; rintro e w7 ⟨rfl, HB⟩; have V1 : Hid (Below (w6.heap.size + 1) (w6.alloc (.cells #[.int .i64 b, .int .i64 bt, .slice ra m rc] 24)) w7) := HB; obtain ⟨⟨⟨yd0, yd1, yd2, yd3⟩, ⟨yd4, yd5, yd6, yd7⟩⟩, _⟩ := Bx2.at_ (w := w) (b := b) (bt := bt) (v := .slice a n c) (b' := b') (bt' := bt') (v' := .slice a' n' c') (HV.out _ V1.out).1; obtain ⟨yd8, yd9, yd10, yd11⟩ := (HV.out _ V1.out).2.1; clear HB))
          go_roundw
          case rel => exact ⟨j2 + 1, HI.out.2, by rw [HI.out.1], V2.out⟩
          case measure => simp only [intOf]; exact HI2.out
        · have hi6 : decide (i2 ≤ p) = false := decide_eq_false hlt2
          clear hi2
          go_wp2_with (go_at_call 10; refine (HW.out _).mono ?_; rintro e w9 ⟨rfl, HB⟩; have HZ : Hid (Below w.heap.size w w9) := (Bx2.at_ (w := w) (b := b) (bt := bt) (v := .slice a n c) (b' := b') (bt' := bt') (v' := .slice a' n' c') (HV.out _ (up1 HR.out HB)).1).2; clear HB)
          go_ret
          exact ⟨rfl, HZ.out⟩
theorem alike_walk (b bt : Int) (es : List En) (a : Option Addr) (c : Nat) (b' bt' : Int) (fs : List En) (a' : Option Addr) (c' : Nat) (p q : Int) (w : World) (hb : InR b) (hbt : InR bt) (hE : EnsV w (fun _ => True) a c es) (hb' : InR b') (hbt' : InR bt') (hF : EnsV w (fun _ => True) a' c' fs) (hp : InR p) (hq : InR q) : Calls Try.prog 7 #[.agg #[.int .i64 b, .int .i64 bt, .slice a es.length c], .agg #[.int .i64 b', .int .i64 bt', .slice a' fs.length c'], .int .i64 p, .int .i64 q] w fun e w' => e = .returned (.bool true) ∧ Below w.heap.size w w' := by
  by_cases h0 : p < b
  · exact alike_a1 b bt es a c b' bt' fs a' c' p q w hb hbt hE hb' hbt' hF hp hq h0
  by_cases h1 : p < b'
  · exact alike_a2 b bt es a c b' bt' fs a' c' p q w hb hbt hE hb' hbt' hF hp hq h0 h1
  cases h2 : (termM b' bt' fs p).2 with
  | false => exact alike_b1 b bt es a c b' bt' fs a' c' p q w hb hbt hE hb' hbt' hF hp hq h0 h1 h2
  | true =>
    cases h3 : (termM b bt es p).2 with
    | false => exact alike_b2 b bt es a c b' bt' fs a' c' p q w hb hbt hE hb' hbt' hF hp hq h0 h1 h2 h3
    | true =>
      by_cases h4 : (termM b' bt' fs p).1 = (termM b bt es p).1
      · exact alike_yes b bt es a c b' bt' fs a' c' p q w hb hbt hE hb' hbt' hF hp hq h0 h1 h2 h3 h4
      · exact alike_b3 b bt es a c b' bt' fs a' c' p q w hb hbt hE hb' hbt' hF hp hq h0 h1 h2 h3 h4
end Go.Proofs.Ytmpmbgjdbahmbaa
