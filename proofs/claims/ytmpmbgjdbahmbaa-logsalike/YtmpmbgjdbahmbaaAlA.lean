/-
  LogsAlike: its walk where nothing is put.
-/
import Derived.Test.YtmpmbgjdbahmbaaLwa
namespace Go.Proofs.Ytmpmbgjdbahmbaa
open Go.RowKit
set_option linter.unusedVariables false

set_option maxRecDepth 100000 in
set_option maxHeartbeats 1600000 in
theorem alike_a1 (b bt : Int) (es : List En) (a : Option Addr) (c : Nat) (b' bt' : Int) (fs : List En) (a' : Option Addr) (c' : Nat) (p q : Int) (w : World) (hb : InR b) (hbt : InR bt) (hE : EnsV w (fun _ => True) a c es) (hb' : InR b') (hbt' : InR bt') (hF : EnsV w (fun _ => True) a' c' fs) (hp : InR p) (hq : InR q) (h0 : p < b) : Calls Try.prog 7 #[.agg #[.int .i64 b, .int .i64 bt, .slice a es.length c], .agg #[.int .i64 b', .int .i64 bt', .slice a' fs.length c'], .int .i64 p, .int .i64 q] w fun e w' => e = .returned (.bool true) ∧ Below w.heap.size w w' := by
  have HM : Hid (∀ wx, Below w.heap.size w wx → Calls Try.prog 16 #[.agg #[.int .i64 b, .int .i64 bt, .slice a es.length c]] wx (TellsP (Light es ∧ chkM b bt es = 0) wx)) := fun wx h => may_any _ b bt a c es wx hb hbt (hE.below h)
  have HM' : Hid (∀ wx, Below w.heap.size w wx → Calls Try.prog 16 #[.agg #[.int .i64 b', .int .i64 bt', .slice a' fs.length c']] wx (TellsP (Light fs ∧ chkM b' bt' fs = 0) wx)) := fun wx h => may_any _ b' bt' a' c' fs wx hb' hbt' (hF.below h)
  have HW : Hid (∀ wx, Calls Try.prog 10 #[] wx fun e w' => e = .returned (.bool true) ∧ Below wx.heap.size wx w') := fun wx => works_any wx
  have d1 : decide (p < b) = true := decide_eq_true h0
  clear hE hF
  generalize es.length = n at *
  generalize fs.length = n' at *
  obtain ⟨b1, b2⟩ := hb
  obtain ⟨b3, b4⟩ := hb'
  obtain ⟨p1, p2⟩ := hp
  go_enter Try.func7, Try.ntmps7
  go_wp2_with (first
    | (go_at_call 10; refine (HW.out _).mono ?_; rintro e w9 ⟨rfl, HB⟩; have HZ : Hid (Below w.heap.size w w9) := (by first | exact (Bx2.at_ (w := w) (b := b) (bt := bt) (v := .slice a n c) (b' := b') (bt' := bt') (v' := .slice a' n' c') (two_up H2.out HB)).2 | exact (Bx2.at_ (w := w) (b := b) (bt := bt) (v := .slice a n c) (b' := b') (bt' := bt') (v' := .slice a' n' c') (two_up H1.out HB)).2); clear HB)
    | (go_at_call 16; have := H1; refine (HM'.out _ (Bx2.at_ (w := w) (b := b) (bt := bt) (v := .slice a n c) (b' := b') (bt' := bt') (v' := .slice a' n' c') H1.out).2).mono ?_; rintro e w2 ⟨q2, rfl, HA2, HB⟩; have H2 : Hid (Below (w.heap.size + 1 + 1) ((w.alloc (.cells #[.int .i64 b, .int .i64 bt, .slice a n c] 24)).alloc (.cells #[.int .i64 b', .int .i64 bt', .slice a' n' c'] 24)) w2) := two_up H1.out HB; have HBh : Hid (q2 = true → Light fs ∧ chkM b' bt' fs = 0) := HA2; obtain ⟨⟨⟨kb0, kb1, kb2, kb3⟩, ⟨kb4, kb5, kb6, kb7⟩⟩, _⟩ := Bx2.at_ (w := w) (b := b) (bt := bt) (v := .slice a n c) (b' := b') (bt' := bt') (v' := .slice a' n' c') H2.out; have kbl : w.heap.size + 1 < _ := World.block_lt_of_cell? _ _ kb4; clear HB HA2; cases q2)
    | (go_at_call 16; refine (HM.out _ (Bx2.at_ (w := w) (b := b) (bt := bt) (v := .slice a n c) (b' := b') (bt' := bt') (v' := .slice a' n' c') (Below.refl _ _)).2).mono ?_; rintro e w1 ⟨q1, rfl, HA, HB⟩; have H1 : Hid (Below (w.heap.size + 1 + 1) ((w.alloc (.cells #[.int .i64 b, .int .i64 bt, .slice a n c] 24)).alloc (.cells #[.int .i64 b', .int .i64 bt', .slice a' n' c'] 24)) w1) := two_up (Below.refl _ _) HB; have HAh : Hid (q1 = true → Light es ∧ chkM b bt es = 0) := HA; obtain ⟨⟨⟨ka0, ka1, ka2, ka3⟩, ⟨ka4, ka5, ka6, ka7⟩⟩, _⟩ := Bx2.at_ (w := w) (b := b) (bt := bt) (v := .slice a n c) (b' := b') (bt' := bt') (v' := .slice a' n' c') H1.out; have kal : w.heap.size + 1 < _ := World.block_lt_of_cell? _ _ ka4; clear HB HA; cases q1))
  all_goals (
    go_ret
    exact ⟨rfl, HZ.out⟩)
set_option maxRecDepth 100000 in
set_option maxHeartbeats 1600000 in
theorem alike_a2 (b bt : Int) (es : List En) (a : Option Addr) (c : Nat) (b' bt' : Int) (fs : List En) (a' : Option Addr) (c' : Nat) (p q : Int) (w : World) (hb : InR b) (hbt : InR bt) (hE : EnsV w (fun _ => True) a c es) (hb' : InR b') (hbt' : InR bt') (hF : EnsV w (fun _ => True) a' c' fs) (hp : InR p) (hq : InR q) (h0 : ¬ p < b) (h1 : p < b') : Calls Try.prog 7 #[.agg #[.int .i64 b, .int .i64 bt, .slice a es.length c], .agg #[.int .i64 b', .int .i64 bt', .slice a' fs.length c'], .int .i64 p, .int .i64 q] w fun e w' => e = .returned (.bool true) ∧ Below w.heap.size w w' := by
  have HM : Hid (∀ wx, Below w.heap.size w wx → Calls Try.prog 16 #[.agg #[.int .i64 b, .int .i64 bt, .slice a es.length c]] wx (TellsP (Light es ∧ chkM b bt es = 0) wx)) := fun wx h => may_any _ b bt a c es wx hb hbt (hE.below h)
  have HM' : Hid (∀ wx, Below w.heap.size w wx → Calls Try.prog 16 #[.agg #[.int .i64 b', .int .i64 bt', .slice a' fs.length c']] wx (TellsP (Light fs ∧ chkM b' bt' fs = 0) wx)) := fun wx h => may_any _ b' bt' a' c' fs wx hb' hbt' (hF.below h)
  have HW : Hid (∀ wx, Calls Try.prog 10 #[] wx fun e w' => e = .returned (.bool true) ∧ Below wx.heap.size wx w') := fun wx => works_any wx
  have d1 : decide (p < b) = false := decide_eq_false h0
  have d2 : decide (p < b') = true := decide_eq_true h1
  clear hE hF
  generalize es.length = n at *
  generalize fs.length = n' at *
  obtain ⟨b1, b2⟩ := hb
  obtain ⟨b3, b4⟩ := hb'
  obtain ⟨p1, p2⟩ := hp
  go_enter Try.func7, Try.ntmps7
  go_wp2_with (first
    | (go_at_call 10; refine (HW.out _).mono ?_; rintro e w9 ⟨rfl, HB⟩; have HZ : Hid (Below w.heap.size w w9) := (by first | exact (Bx2.at_ (w := w) (b := b) (bt := bt) (v := .slice a n c) (b' := b') (bt' := bt') (v' := .slice a' n' c') (two_up H2.out HB)).2 | exact (Bx2.at_ (w := w) (b := b) (bt := bt) (v := .slice a n c) (b' := b') (bt' := bt') (v' := .slice a' n' c') (two_up H1.out HB)).2); clear HB)
    | (go_at_call 16; have := H1; refine (HM'.out _ (Bx2.at_ (w := w) (b := b) (bt := bt) (v := .slice a n c) (b' := b') (bt' := bt') (v' := .slice a' n' c') H1.out).2).mono ?_; rintro e w2 ⟨q2, rfl, HA2, HB⟩; have H2 : Hid (Below (w.heap.size + 1 + 1) ((w.alloc (.cells #[.int .i64 b, .int .i64 bt, .slice a n c] 24)).alloc (.cells #[.int .i64 b', .int .i64 bt', .slice a' n' c'] 24)) w2) := two_up H1.out HB; have HBh : Hid (q2 = true → Light fs ∧ chkM b' bt' fs = 0) := HA2; obtain ⟨⟨⟨kb0, kb1, kb2, kb3⟩, ⟨kb4, kb5, kb6, kb7⟩⟩, _⟩ := Bx2.at_ (w := w) (b := b) (bt := bt) (v := .slice a n c) (b' := b') (bt' := bt') (v' := .slice a' n' c') H2.out; have kbl : w.heap.size + 1 < _ := World.block_lt_of_cell? _ _ kb4; clear HB HA2; cases q2)
    | (go_at_call 16; refine (HM.out _ (Bx2.at_ (w := w) (b := b) (bt := bt) (v := .slice a n c) (b' := b') (bt' := bt') (v' := .slice a' n' c') (Below.refl _ _)).2).mono ?_; rintro e w1 ⟨q1, rfl, HA, HB⟩; have H1 : Hid (Below (w.heap.size + 1 + 1) ((w.alloc (.cells #[.int .i64 b, .int .i64 bt, .slice a n c] 24)).alloc (.cells #[.int .i64 b', .int .i64 bt', .slice a' n' c'] 24)) w1) := two_up (Below.refl _ _) HB; have HAh : Hid (q1 = true → Light es ∧ chkM b bt es = 0) := HA; obtain ⟨⟨⟨ka0, ka1, ka2, ka3⟩, ⟨ka4, ka5, ka6, ka7⟩⟩, _⟩ := Bx2.at_ (w := w) (b := b) (bt := bt) (v := .slice a n c) (b' := b') (bt' := bt') (v' := .slice a' n' c') H1.out; have kal : w.heap.size + 1 < _ := World.block_lt_of_cell? _ _ ka4; clear HB HA; cases q1))
  all_goals (
    go_ret
    exact ⟨rfl, HZ.out⟩)
set_option maxRecDepth 100000 in
set_option maxHeartbeats 1600000 in
theorem alike_b1 (b bt : Int) (es : List En) (a : Option Addr) (c : Nat) (b' bt' : Int) (fs : List En) (a' : Option Addr) (c' : Nat) (p q : Int) (w : World) (hb : InR b) (hbt : InR bt) (hE : EnsV w (fun _ => True) a c es) (hb' : InR b') (hbt' : InR bt') (hF : EnsV w (fun _ => True) a' c' fs) (hp : InR p) (hq : InR q) (h0 : ¬ p < b) (h1 : ¬ p < b') (h2 : (termM b' bt' fs p).2 = false) : Calls Try.prog 7 #[.agg #[.int .i64 b, .int .i64 bt, .slice a es.length c], .agg #[.int .i64 b', .int .i64 bt', .slice a' fs.length c'], .int .i64 p, .int .i64 q] w fun e w' => e = .returned (.bool true) ∧ Below w.heap.size w w' := by
  have HM : Hid (∀ wx, Below w.heap.size w wx → Calls Try.prog 16 #[.agg #[.int .i64 b, .int .i64 bt, .slice a es.length c]] wx (TellsP (Light es ∧ chkM b bt es = 0) wx)) := fun wx h => may_any _ b bt a c es wx hb hbt (hE.below h)
  have HM' : Hid (∀ wx, Below w.heap.size w wx → Calls Try.prog 16 #[.agg #[.int .i64 b', .int .i64 bt', .slice a' fs.length c']] wx (TellsP (Light fs ∧ chkM b' bt' fs = 0) wx)) := fun wx h => may_any _ b' bt' a' c' fs wx hb' hbt' (hF.below h)
  have HW : Hid (∀ wx, Calls Try.prog 10 #[] wx fun e w' => e = .returned (.bool true) ∧ Below wx.heap.size wx w') := fun wx => works_any wx
  have HT : Hid (Light es ∧ chkM b bt es = 0 → ∀ wx, Below w.heap.size w wx → Calls Try.prog 18 #[.agg #[.int .i64 b, .int .i64 bt, .slice a es.length c], .int .i64 p] wx fun e w' => e = .returned (.tuple #[.int .i64 (termM b bt es p).1, .bool (termM b bt es p).2]) ∧ Below wx.heap.size wx w') := fun A wx h => RTerm_any _ b bt a c es p wx (chk_base A.2).1 (by have := (chk_base A.2).2; omega) (by have := A.1.1; omega) hp (hE.below h)
  have HT' : Hid (Light fs ∧ chkM b' bt' fs = 0 → ∀ wx, Below w.heap.size w wx → Calls Try.prog 18 #[.agg #[.int .i64 b', .int .i64 bt', .slice a' fs.length c'], .int .i64 p] wx fun e w' => e = .returned (.tuple #[.int .i64 (termM b' bt' fs p).1, .bool (termM b' bt' fs p).2]) ∧ Below wx.heap.size wx w') := fun A wx h => RTerm_any _ b' bt' a' c' fs p wx (chk_base A.2).1 (by have := (chk_base A.2).2; omega) (by have := A.1.1; omega) hp (hF.below h)
  have d1 : decide (p < b) = false := decide_eq_false h0
  have d2 : decide (p < b') = false := decide_eq_false h1
  rw [h2] at HT'
  generalize (termM b bt es p).1 = u at *
  generalize (termM b' bt' fs p).1 = t at *
  generalize (termM b bt es p).2 = y at *
  clear h2
  clear hE hF
  generalize es.length = n at *
  generalize fs.length = n' at *
  obtain ⟨b1, b2⟩ := hb
  obtain ⟨b3, b4⟩ := hb'
  obtain ⟨p1, p2⟩ := hp
  go_enter Try.func7, Try.ntmps7
  go_wp2_with (first
    | (go_at_call 10; refine (HW.out _).mono ?_; rintro e w9 ⟨rfl, HB⟩; have HZ : Hid (Below w.heap.size w w9) := (by first | exact (Bx2.at_ (w := w) (b := b) (bt := bt) (v := .slice a n c) (b' := b') (bt' := bt') (v' := .slice a' n' c') (two_up H4.out HB)).2 | exact (Bx2.at_ (w := w) (b := b) (bt := bt) (v := .slice a n c) (b' := b') (bt' := bt') (v' := .slice a' n' c') (two_up H2.out HB)).2 | exact (Bx2.at_ (w := w) (b := b) (bt := bt) (v := .slice a n c) (b' := b') (bt' := bt') (v' := .slice a' n' c') (two_up H1.out HB)).2); clear HB)
    | (go_at_call 18; have := H3; refine (HT.out (HAh.out (by trivial)) _ (Bx2.at_ (w := w) (b := b) (bt := bt) (v := .slice a n c) (b' := b') (bt' := bt') (v' := .slice a' n' c') H3.out).2).mono ?_; rintro e w4 ⟨rfl, HB⟩; have H4 : Hid (Below (w.heap.size + 1 + 1) ((w.alloc (.cells #[.int .i64 b, .int .i64 bt, .slice a n c] 24)).alloc (.cells #[.int .i64 b', .int .i64 bt', .slice a' n' c'] 24)) w4) := two_up H3.out HB; obtain ⟨⟨⟨kd0, kd1, kd2, kd3⟩, ⟨kd4, kd5, kd6, kd7⟩⟩, _⟩ := Bx2.at_ (w := w) (b := b) (bt := bt) (v := .slice a n c) (b' := b') (bt' := bt') (v' := .slice a' n' c') H4.out; have kdl : w.heap.size + 1 < _ := World.block_lt_of_cell? _ _ kd4; clear HB)
    | (go_at_call 18; have := H2; refine (HT'.out (HBh.out (by trivial)) _ (Bx2.at_ (w := w) (b := b) (bt := bt) (v := .slice a n c) (b' := b') (bt' := bt') (v' := .slice a' n' c') H2.out).2).mono ?_; rintro e w3 ⟨rfl, HB⟩; have H3 : Hid (Below (w.heap.size + 1 + 1) ((w.alloc (.cells #[.int .i64 b, .int .i64 bt, .slice a n c] 24)).alloc (.cells #[.int .i64 b', .int .i64 bt', .slice a' n' c'] 24)) w3) := two_up H2.out HB; obtain ⟨⟨⟨kc0, kc1, kc2, kc3⟩, ⟨kc4, kc5, kc6, kc7⟩⟩, _⟩ := Bx2.at_ (w := w) (b := b) (bt := bt) (v := .slice a n c) (b' := b') (bt' := bt') (v' := .slice a' n' c') H3.out; have kcl : w.heap.size + 1 < _ := World.block_lt_of_cell? _ _ kc4; clear HB)
    | (go_at_call 16; have := H1; refine (HM'.out _ (Bx2.at_ (w := w) (b := b) (bt := bt) (v := .slice a n c) (b' := b') (bt' := bt') (v' := .slice a' n' c') H1.out).2).mono ?_; rintro e w2 ⟨q2, rfl, HA2, HB⟩; have H2 : Hid (Below (w.heap.size + 1 + 1) ((w.alloc (.cells #[.int .i64 b, .int .i64 bt, .slice a n c] 24)).alloc (.cells #[.int .i64 b', .int .i64 bt', .slice a' n' c'] 24)) w2) := two_up H1.out HB; have HBh : Hid (q2 = true → Light fs ∧ chkM b' bt' fs = 0) := HA2; obtain ⟨⟨⟨kb0, kb1, kb2, kb3⟩, ⟨kb4, kb5, kb6, kb7⟩⟩, _⟩ := Bx2.at_ (w := w) (b := b) (bt := bt) (v := .slice a n c) (b' := b') (bt' := bt') (v' := .slice a' n' c') H2.out; have kbl : w.heap.size + 1 < _ := World.block_lt_of_cell? _ _ kb4; clear HB HA2; cases q2)
    | (go_at_call 16; refine (HM.out _ (Bx2.at_ (w := w) (b := b) (bt := bt) (v := .slice a n c) (b' := b') (bt' := bt') (v' := .slice a' n' c') (Below.refl _ _)).2).mono ?_; rintro e w1 ⟨q1, rfl, HA, HB⟩; have H1 : Hid (Below (w.heap.size + 1 + 1) ((w.alloc (.cells #[.int .i64 b, .int .i64 bt, .slice a n c] 24)).alloc (.cells #[.int .i64 b', .int .i64 bt', .slice a' n' c'] 24)) w1) := two_up (Below.refl _ _) HB; have HAh : Hid (q1 = true → Light es ∧ chkM b bt es = 0) := HA; obtain ⟨⟨⟨ka0, ka1, ka2, ka3⟩, ⟨ka4, ka5, ka6, ka7⟩⟩, _⟩ := Bx2.at_ (w := w) (b := b) (bt := bt) (v := .slice a n c) (b' := b') (bt' := bt') (v' := .slice a' n' c') H1.out; have kal : w.heap.size + 1 < _ := World.block_lt_of_cell? _ _ ka4; clear HB HA; cases q1))
  all_goals (
    go_ret
    exact ⟨rfl, HZ.out⟩)
set_option maxRecDepth 100000 in
set_option maxHeartbeats 1600000 in
theorem alike_b2 (b bt : Int) (es : List En) (a : Option Addr) (c : Nat) (b' bt' : Int) (fs : List En) (a' : Option Addr) (c' : Nat) (p q : Int) (w : World) (hb : InR b) (hbt : InR bt) (hE : EnsV w (fun _ => True) a c es) (hb' : InR b') (hbt' : InR bt') (hF : EnsV w (fun _ => True) a' c' fs) (hp : InR p) (hq : InR q) (h0 : ¬ p < b) (h1 : ¬ p < b') (h2 : (termM b' bt' fs p).2 = true) (h3 : (termM b bt es p).2 = false) : Calls Try.prog 7 #[.agg #[.int .i64 b, .int .i64 bt, .slice a es.length c], .agg #[.int .i64 b', .int .i64 bt', .slice a' fs.length c'], .int .i64 p, .int .i64 q] w fun e w' => e = .returned (.bool true) ∧ Below w.heap.size w w' := by
  have HM : Hid (∀ wx, Below w.heap.size w wx → Calls Try.prog 16 #[.agg #[.int .i64 b, .int .i64 bt, .slice a es.length c]] wx (TellsP (Light es ∧ chkM b bt es = 0) wx)) := fun wx h => may_any _ b bt a c es wx hb hbt (hE.below h)
  have HM' : Hid (∀ wx, Below w.heap.size w wx → Calls Try.prog 16 #[.agg #[.int .i64 b', .int .i64 bt', .slice a' fs.length c']] wx (TellsP (Light fs ∧ chkM b' bt' fs = 0) wx)) := fun wx h => may_any _ b' bt' a' c' fs wx hb' hbt' (hF.below h)
  have HW : Hid (∀ wx, Calls Try.prog 10 #[] wx fun e w' => e = .returned (.bool true) ∧ Below wx.heap.size wx w') := fun wx => works_any wx
  have HT : Hid (Light es ∧ chkM b bt es = 0 → ∀ wx, Below w.heap.size w wx → Calls Try.prog 18 #[.agg #[.int .i64 b, .int .i64 bt, .slice a es.length c], .int .i64 p] wx fun e w' => e = .returned (.tuple #[.int .i64 (termM b bt es p).1, .bool (termM b bt es p).2]) ∧ Below wx.heap.size wx w') := fun A wx h => RTerm_any _ b bt a c es p wx (chk_base A.2).1 (by have := (chk_base A.2).2; omega) (by have := A.1.1; omega) hp (hE.below h)
  have HT' : Hid (Light fs ∧ chkM b' bt' fs = 0 → ∀ wx, Below w.heap.size w wx → Calls Try.prog 18 #[.agg #[.int .i64 b', .int .i64 bt', .slice a' fs.length c'], .int .i64 p] wx fun e w' => e = .returned (.tuple #[.int .i64 (termM b' bt' fs p).1, .bool (termM b' bt' fs p).2]) ∧ Below wx.heap.size wx w') := fun A wx h => RTerm_any _ b' bt' a' c' fs p wx (chk_base A.2).1 (by have := (chk_base A.2).2; omega) (by have := A.1.1; omega) hp (hF.below h)
  have d1 : decide (p < b) = false := decide_eq_false h0
  have d2 : decide (p < b') = false := decide_eq_false h1
  rw [h2] at HT'
  rw [h3] at HT
  generalize (termM b bt es p).1 = u at *
  generalize (termM b' bt' fs p).1 = t at *
  clear h2 h3
  clear hE hF
  generalize es.length = n at *
  generalize fs.length = n' at *
  obtain ⟨b1, b2⟩ := hb
  obtain ⟨b3, b4⟩ := hb'
  obtain ⟨p1, p2⟩ := hp
  go_enter Try.func7, Try.ntmps7
  go_wp2_with (first
    | (go_at_call 10; refine (HW.out _).mono ?_; rintro e w9 ⟨rfl, HB⟩; have HZ : Hid (Below w.heap.size w w9) := (by first | exact (Bx2.at_ (w := w) (b := b) (bt := bt) (v := .slice a n c) (b' := b') (bt' := bt') (v' := .slice a' n' c') (two_up H4.out HB)).2 | exact (Bx2.at_ (w := w) (b := b) (bt := bt) (v := .slice a n c) (b' := b') (bt' := bt') (v' := .slice a' n' c') (two_up H2.out HB)).2 | exact (Bx2.at_ (w := w) (b := b) (bt := bt) (v := .slice a n c) (b' := b') (bt' := bt') (v' := .slice a' n' c') (two_up H1.out HB)).2); clear HB)
    | (go_at_call 18; have := H3; refine (HT.out (HAh.out (by trivial)) _ (Bx2.at_ (w := w) (b := b) (bt := bt) (v := .slice a n c) (b' := b') (bt' := bt') (v' := .slice a' n' c') H3.out).2).mono ?_; rintro e w4 ⟨rfl, HB⟩; have H4 : Hid (Below (w.heap.size + 1 + 1) ((w.alloc (.cells #[.int .i64 b, .int .i64 bt, .slice a n c] 24)).alloc (.cells #[.int .i64 b', .int .i64 bt', .slice a' n' c'] 24)) w4) := two_up H3.out HB; obtain ⟨⟨⟨kd0, kd1, kd2, kd3⟩, ⟨kd4, kd5, kd6, kd7⟩⟩, _⟩ := Bx2.at_ (w := w) (b := b) (bt := bt) (v := .slice a n c) (b' := b') (bt' := bt') (v' := .slice a' n' c') H4.out; have kdl : w.heap.size + 1 < _ := World.block_lt_of_cell? _ _ kd4; clear HB)
    | (go_at_call 18; have := H2; refine (HT'.out (HBh.out (by trivial)) _ (Bx2.at_ (w := w) (b := b) (bt := bt) (v := .slice a n c) (b' := b') (bt' := bt') (v' := .slice a' n' c') H2.out).2).mono ?_; rintro e w3 ⟨rfl, HB⟩; have H3 : Hid (Below (w.heap.size + 1 + 1) ((w.alloc (.cells #[.int .i64 b, .int .i64 bt, .slice a n c] 24)).alloc (.cells #[.int .i64 b', .int .i64 bt', .slice a' n' c'] 24)) w3) := two_up H2.out HB; obtain ⟨⟨⟨kc0, kc1, kc2, kc3⟩, ⟨kc4, kc5, kc6, kc7⟩⟩, _⟩ := Bx2.at_ (w := w) (b := b) (bt := bt) (v := .slice a n c) (b' := b') (bt' := bt') (v' := .slice a' n' c') H3.out; have kcl : w.heap.size + 1 < _ := World.block_lt_of_cell? _ _ kc4; clear HB)
    | (go_at_call 16; have := H1; refine (HM'.out _ (Bx2.at_ (w := w) (b := b) (bt := bt) (v := .slice a n c) (b' := b') (bt' := bt') (v' := .slice a' n' c') H1.out).2).mono ?_; rintro e w2 ⟨q2, rfl, HA2, HB⟩; have H2 : Hid (Below (w.heap.size + 1 + 1) ((w.alloc (.cells #[.int .i64 b, .int .i64 bt, .slice a n c] 24)).alloc (.cells #[.int .i64 b', .int .i64 bt', .slice a' n' c'] 24)) w2) := two_up H1.out HB; have HBh : Hid (q2 = true → Light fs ∧ chkM b' bt' fs = 0) := HA2; obtain ⟨⟨⟨kb0, kb1, kb2, kb3⟩, ⟨kb4, kb5, kb6, kb7⟩⟩, _⟩ := Bx2.at_ (w := w) (b := b) (bt := bt) (v := .slice a n c) (b' := b') (bt' := bt') (v' := .slice a' n' c') H2.out; have kbl : w.heap.size + 1 < _ := World.block_lt_of_cell? _ _ kb4; clear HB HA2; cases q2)
    | (go_at_call 16; refine (HM.out _ (Bx2.at_ (w := w) (b := b) (bt := bt) (v := .slice a n c) (b' := b') (bt' := bt') (v' := .slice a' n' c') (Below.refl _ _)).2).mono ?_; rintro e w1 ⟨q1, rfl, HA, HB⟩; have H1 : Hid (Below (w.heap.size + 1 + 1) ((w.alloc (.cells #[.int .i64 b, .int .i64 bt, .slice a n c] 24)).alloc (.cells #[.int .i64 b', .int .i64 bt', .slice a' n' c'] 24)) w1) := two_up (Below.refl _ _) HB; have HAh : Hid (q1 = true → Light es ∧ chkM b bt es = 0) := HA; obtain ⟨⟨⟨ka0, ka1, ka2, ka3⟩, ⟨ka4, ka5, ka6, ka7⟩⟩, _⟩ := Bx2.at_ (w := w) (b := b) (bt := bt) (v := .slice a n c) (b' := b') (bt' := bt') (v' := .slice a' n' c') H1.out; have kal : w.heap.size + 1 < _ := World.block_lt_of_cell? _ _ ka4; clear HB HA; cases q1))
  all_goals (
    go_ret
    exact ⟨rfl, HZ.out⟩)
set_option maxRecDepth 100000 in
set_option maxHeartbeats 1600000 in
theorem alike_b3 (b bt : Int) (es : List En) (a : Option Addr) (c : Nat) (b' bt' : Int) (fs : List En) (a' : Option Addr) (c' : Nat) (p q : Int) (w : World) (hb : InR b) (hbt : InR bt) (hE : EnsV w (fun _ => True) a c es) (hb' : InR b') (hbt' : InR bt') (hF : EnsV w (fun _ => True) a' c' fs) (hp : InR p) (hq : InR q) (h0 : ¬ p < b) (h1 : ¬ p < b') (h2 : (termM b' bt' fs p).2 = true) (h3 : (termM b bt es p).2 = true) (h4 : ¬ (termM b' bt' fs p).1 = (termM b bt es p).1) : Calls Try.prog 7 #[.agg #[.int .i64 b, .int .i64 bt, .slice a es.length c], .agg #[.int .i64 b', .int .i64 bt', .slice a' fs.length c'], .int .i64 p, .int .i64 q] w fun e w' => e = .returned (.bool true) ∧ Below w.heap.size w w' := by
  have HM : Hid (∀ wx, Below w.heap.size w wx → Calls Try.prog 16 #[.agg #[.int .i64 b, .int .i64 bt, .slice a es.length c]] wx (TellsP (Light es ∧ chkM b bt es = 0) wx)) := fun wx h => may_any _ b bt a c es wx hb hbt (hE.below h)
  have HM' : Hid (∀ wx, Below w.heap.size w wx → Calls Try.prog 16 #[.agg #[.int .i64 b', .int .i64 bt', .slice a' fs.length c']] wx (TellsP (Light fs ∧ chkM b' bt' fs = 0) wx)) := fun wx h => may_any _ b' bt' a' c' fs wx hb' hbt' (hF.below h)
  have HW : Hid (∀ wx, Calls Try.prog 10 #[] wx fun e w' => e = .returned (.bool true) ∧ Below wx.heap.size wx w') := fun wx => works_any wx
  have HT : Hid (Light es ∧ chkM b bt es = 0 → ∀ wx, Below w.heap.size w wx → Calls Try.prog 18 #[.agg #[.int .i64 b, .int .i64 bt, .slice a es.length c], .int .i64 p] wx fun e w' => e = .returned (.tuple #[.int .i64 (termM b bt es p).1, .bool (termM b bt es p).2]) ∧ Below wx.heap.size wx w') := fun A wx h => RTerm_any _ b bt a c es p wx (chk_base A.2).1 (by have := (chk_base A.2).2; omega) (by have := A.1.1; omega) hp (hE.below h)
  have HT' : Hid (Light fs ∧ chkM b' bt' fs = 0 → ∀ wx, Below w.heap.size w wx → Calls Try.prog 18 #[.agg #[.int .i64 b', .int .i64 bt', .slice a' fs.length c'], .int .i64 p] wx fun e w' => e = .returned (.tuple #[.int .i64 (termM b' bt' fs p).1, .bool (termM b' bt' fs p).2]) ∧ Below wx.heap.size wx w') := fun A wx h => RTerm_any _ b' bt' a' c' fs p wx (chk_base A.2).1 (by have := (chk_base A.2).2; omega) (by have := A.1.1; omega) hp (hF.below h)
  have d1 : decide (p < b) = false := decide_eq_false h0
  have d2 : decide (p < b') = false := decide_eq_false h1
  rw [h2] at HT'
  rw [h3] at HT
  generalize (termM b bt es p).1 = u at *
  generalize (termM b' bt' fs p).1 = t at *
  have d3 : (t == u) = false := beq_eq_false_iff_ne.2 h4
  clear h2 h3
  clear hE hF
  generalize es.length = n at *
  generalize fs.length = n' at *
  obtain ⟨b1, b2⟩ := hb
  obtain ⟨b3, b4⟩ := hb'
  obtain ⟨p1, p2⟩ := hp
  go_enter Try.func7, Try.ntmps7
  go_wp2_with (first
    | (go_at_call 10; refine (HW.out _).mono ?_; rintro e w9 ⟨rfl, HB⟩; have HZ : Hid (Below w.heap.size w w9) := (by first | exact (Bx2.at_ (w := w) (b := b) (bt := bt) (v := .slice a n c) (b' := b') (bt' := bt') (v' := .slice a' n' c') (two_up H4.out HB)).2 | exact (Bx2.at_ (w := w) (b := b) (bt := bt) (v := .slice a n c) (b' := b') (bt' := bt') (v' := .slice a' n' c') (two_up H2.out HB)).2 | exact (Bx2.at_ (w := w) (b := b) (bt := bt) (v := .slice a n c) (b' := b') (bt' := bt') (v' := .slice a' n' c') (two_up H1.out HB)).2); clear HB)
    | (go_at_call 18; have := H3; refine (HT.out (HAh.out (by trivial)) _ (Bx2.at_ (w := w) (b := b) (bt := bt) (v := .slice a n c) (b' := b') (bt' := bt') (v' := .slice a' n' c') H3.out).2).mono ?_; rintro e w4 ⟨rfl, HB⟩; have H4 : Hid (Below (w.heap.size + 1 + 1) ((w.alloc (.cells #[.int .i64 b, .int .i64 bt, .slice a n c] 24)).alloc (.cells #[.int .i64 b', .int .i64 bt', .slice a' n' c'] 24)) w4) := two_up H3.out HB; obtain ⟨⟨⟨kd0, kd1, kd2, kd3⟩, ⟨kd4, kd5, kd6, kd7⟩⟩, _⟩ := Bx2.at_ (w := w) (b := b) (bt := bt) (v := .slice a n c) (b' := b') (bt' := bt') (v' := .slice a' n' c') H4.out; have kdl : w.heap.size + 1 < _ := World.block_lt_of_cell? _ _ kd4; clear HB)
    | (go_at_call 18; have := H2; refine (HT'.out (HBh.out (by trivial)) _ (Bx2.at_ (w := w) (b := b) (bt := bt) (v := .slice a n c) (b' := b') (bt' := bt') (v' := .slice a' n' c') H2.out).2).mono ?_; rintro e w3 ⟨rfl, HB⟩; have H3 : Hid (Below (w.heap.size + 1 + 1) ((w.alloc (.cells #[.int .i64 b, .int .i64 bt, .slice a n c] 24)).alloc (.cells #[.int .i64 b', .int .i64 bt', .slice a' n' c'] 24)) w3) := two_up H2.out HB; obtain ⟨⟨⟨kc0, kc1, kc2, kc3⟩, ⟨kc4, kc5, kc6, kc7⟩⟩, _⟩ := Bx2.at_ (w := w) (b := b) (bt := bt) (v := .slice a n c) (b' := b') (bt' := bt') (v' := .slice a' n' c') H3.out; have kcl : w.heap.size + 1 < _ := World.block_lt_of_cell? _ _ kc4; clear HB)
    | (go_at_call 16; have := H1; refine (HM'.out _ (Bx2.at_ (w := w) (b := b) (bt := bt) (v := .slice a n c) (b' := b') (bt' := bt') (v' := .slice a' n' c') H1.out).2).mono ?_; rintro e w2 ⟨q2, rfl, HA2, HB⟩; have H2 : Hid (Below (w.heap.size + 1 + 1) ((w.alloc (.cells #[.int .i64 b, .int .i64 bt, .slice a n c] 24)).alloc (.cells #[.int .i64 b', .int .i64 bt', .slice a' n' c'] 24)) w2) := two_up H1.out HB; have HBh : Hid (q2 = true → Light fs ∧ chkM b' bt' fs = 0) := HA2; obtain ⟨⟨⟨kb0, kb1, kb2, kb3⟩, ⟨kb4, kb5, kb6, kb7⟩⟩, _⟩ := Bx2.at_ (w := w) (b := b) (bt := bt) (v := .slice a n c) (b' := b') (bt' := bt') (v' := .slice a' n' c') H2.out; have kbl : w.heap.size + 1 < _ := World.block_lt_of_cell? _ _ kb4; clear HB HA2; cases q2)
    | (go_at_call 16; refine (HM.out _ (Bx2.at_ (w := w) (b := b) (bt := bt) (v := .slice a n c) (b' := b') (bt' := bt') (v' := .slice a' n' c') (Below.refl _ _)).2).mono ?_; rintro e w1 ⟨q1, rfl, HA, HB⟩; have H1 : Hid (Below (w.heap.size + 1 + 1) ((w.alloc (.cells #[.int .i64 b, .int .i64 bt, .slice a n c] 24)).alloc (.cells #[.int .i64 b', .int .i64 bt', .slice a' n' c'] 24)) w1) := two_up (Below.refl _ _) HB; have HAh : Hid (q1 = true → Light es ∧ chkM b bt es = 0) := HA; obtain ⟨⟨⟨ka0, ka1, ka2, ka3⟩, ⟨ka4, ka5, ka6, ka7⟩⟩, _⟩ := Bx2.at_ (w := w) (b := b) (bt := bt) (v := .slice a n c) (b' := b') (bt' := bt') (v' := .slice a' n' c') H1.out; have kal : w.heap.size + 1 < _ := World.block_lt_of_cell? _ _ ka4; clear HB HA; cases q1))
  all_goals (
    go_ret
    exact ⟨rfl, HZ.out⟩)
end Go.Proofs.Ytmpmbgjdbahmbaa
