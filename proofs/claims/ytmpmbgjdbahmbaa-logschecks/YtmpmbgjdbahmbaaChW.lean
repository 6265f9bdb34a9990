/-
  LogsChecks: its walk.
-/
import Derived.Test.YtmpmbgjdbahmbaaLwa
import Derived.Test.YtmpmbgjdbahmbaaSne
namespace Go.Proofs.Ytmpmbgjdbahmbaa
open Go.RowKit
set_option linter.unusedVariables false

theorem Same_any (b bt b' bt' : Int) (a a2 : Option Addr) (c c2 : Nat) (l m : List En) (w : World) (hv : EnsV w (fun _ => True) a c l) (hu : EnsV w (fun _ => True) a2 c2 m) : Calls Try.prog 13 #[.agg #[.int .i64 b, .int .i64 bt, .slice a l.length c], .agg #[.int .i64 b', .int .i64 bt', .slice a2 m.length c2]] w fun e w' => e = .returned (.bool (sameM b bt l b' bt' m)) ∧ Below w.heap.size w w' := by
  by_cases e1 : b = b' ∧ bt = bt'
  · obtain ⟨rfl, rfl⟩ := e1
    exact Same_eq _ _ b bt a a2 c c2 l m w hv hu
  · have e2 : sameM b bt l b' bt' m = false := by
      cases h : sameM b bt l b' bt' m with
      | false => rfl
      | true => exact absurd ⟨(same_iff.1 h).1, (same_iff.1 h).2.1⟩ e1
    rw [e2]
    exact Same_ne b bt b' bt' a a2 c c2 _ _ w e1
set_option maxRecDepth 100000 in
set_option maxHeartbeats 1600000 in
theorem checks_walk (b bt : Int) (es : List En) (a : Option Addr) (c : Nat) (b' bt' : Int) (fs : List En) (a' : Option Addr) (c' : Nat) (w : World) (hb : InR b) (hbt : InR bt) (hE : EnsV w (fun _ => True) a c es) (hb' : InR b') (hbt' : InR bt') (hF : EnsV w (fun _ => True) a' c' fs) : Calls Try.prog 3 #[.agg #[.int .i64 b, .int .i64 bt, .slice a es.length c], .agg #[.int .i64 b', .int .i64 bt', .slice a' fs.length c']] w fun e w' => e = .returned (.bool true) ∧ Below w.heap.size w w' := by
  have HW1 : Hid (∀ o o2, Calls Try.prog 9 #[.slice a es.length c, .int .i64 300] ((w.alloc o).alloc o2) fun e w' => ∃ k : Int, e = .returned (.int .i64 k) ∧ (k ≤ 300 → Light es) ∧ w' = (w.alloc o).alloc o2) := fun o o2 => Weight_any _ a c es _ (hE.below (below2 w o o2))
  have HW2 : Hid (∀ o o2, Calls Try.prog 9 #[.slice a' fs.length c', .int .i64 300] ((w.alloc o).alloc o2) fun e w' => ∃ k : Int, e = .returned (.int .i64 k) ∧ (k ≤ 300 → Light fs) ∧ w' = (w.alloc o).alloc o2) := fun o o2 => Weight_any _ a' c' fs _ (hF.below (below2 w o o2))
  have HW : Hid (∀ wx, Calls Try.prog 10 #[] wx fun e w' => e = .returned (.bool true) ∧ Below wx.heap.size wx w') := fun wx => works_any wx
  have HCk : Hid (∀ wx, Below w.heap.size w wx → Calls Try.prog 11 #[.agg #[.int .i64 b, .int .i64 bt, .slice a es.length c]] wx fun e w' => e = .returned (.int .i64 (chkM b bt es)) ∧ Below wx.heap.size wx w') := fun wx h => Check_any _ b bt a c es wx hb hbt (hE.below h)
  have HRk : Hid (∀ wx, Below w.heap.size w wx → Calls Try.prog 12 #[.agg #[.int .i64 b, .int .i64 bt, .slice a es.length c]] wx fun e w' => e = .returned (.int .i64 (chkM b bt es)) ∧ Below wx.heap.size wx w') := fun wx h => RCheck_any _ b bt a c es wx hb hbt (hE.below h)
  have HSa : Hid (∀ wx, Below w.heap.size w wx → Calls Try.prog 13 #[.agg #[.int .i64 b, .int .i64 bt, .slice a es.length c], .agg #[.int .i64 b', .int .i64 bt', .slice a' fs.length c']] wx fun e w' => e = .returned (.bool (sameM b bt es b' bt' fs)) ∧ Below wx.heap.size wx w') := fun wx h => Same_any b bt b' bt' a a' c c' es fs wx (hE.below h) (hF.below h)
  have HSr : Hid (∀ wx, Below w.heap.size w wx → Calls Try.prog 14 #[.agg #[.int .i64 b, .int .i64 bt, .slice a es.length c], .agg #[.int .i64 b', .int .i64 bt', .slice a' fs.length c']] wx fun e w' => e = .returned (.bool (sameM b bt es b' bt' fs)) ∧ Below wx.heap.size wx w') := fun wx h => RSame_any _ _ b bt b' bt' a a' c c' es fs wx (hE.below h) (hF.below h)
  have HCo : Hid (Light es → ∀ wx, Below w.heap.size w wx → Calls Try.prog 15 #[.agg #[.int .i64 b, .int .i64 bt, .slice a es.length c]] wx fun e w' => ∃ ra rc, e = .returned (.agg #[.int .i64 b, .int .i64 bt, .slice ra es.length rc]) ∧ EnsV w' (fun _ => True) ra rc es ∧ Below wx.heap.size wx w') := fun L wx h => (Copy_any _ b bt a c es wx (hE.below h) L.small).mono fun e w' ⟨ra, rc, q1, q2, q3⟩ => ⟨ra, rc, q1, q2.all, q3⟩
  have HS2 : Hid (∀ wx ra rc, Below w.heap.size w wx → EnsV wx (fun _ => True) ra rc es → Calls Try.prog 14 #[.agg #[.int .i64 b, .int .i64 bt, .slice ra es.length rc], .agg #[.int .i64 b, .int .i64 bt, .slice a es.length c]] wx fun e w' => e = .returned (.bool true) ∧ Below wx.heap.size wx w') := fun wx ra rc h h2 => by
    have := RSame_any _ _ b bt b bt ra a rc c _ es wx h2 (hE.below h)
    rw [same_self] at this
    exact this
  generalize sameM b bt es b' bt' fs = sm at *
  generalize chkM b bt es = ck at *
  generalize Light es = LL at *
  generalize Light fs = LF at *
  clear hE hF hb hbt hb' hbt'
  generalize es.length = n at *
  generalize fs.length = n' at *
  go_enter Try.func3, Try.ntmps3
  go_wp2_with (first
    | (go_at_call 10; refine (HW.out _).mono ?_; rintro e w9 ⟨rfl, HB⟩; have HZ : Hid (Below w.heap.size w w9) := b2 HB; clear HB)
    | (go_at_call 9; have := HLk; refine (HW2.out _ _).mono ?_; rintro e w2 ⟨k2, rfl, HL2, hw1⟩; have hw2 := hw1.symm; clear hw1; subst hw2; have HLk2 : Hid (k2 ≤ 300 → LF) := HL2; clear HL2; rcases Int.lt_or_le 300 k2 with hk2 | hk2)
    | (go_at_call 9; refine (HW1.out _ _).mono ?_; rintro e w1 ⟨k1, rfl, HL1, hw1⟩; have hw2 := hw1.symm; clear hw1; subst hw2; have HLk : Hid (k1 ≤ 300 → LL) := HL1; clear HL1; rcases Int.lt_or_le 300 k1 with hk1 | hk1))
  all_goals first | (go_ret; exact ⟨rfl, HZ.out⟩) | skip
  have H0 : Hid (Below (w.heap.size + 1 + 1) ((w.alloc (.cells #[.int .i64 b, .int .i64 bt, .slice a n c] 24)).alloc (.cells #[.int .i64 b', .int .i64 bt', .slice a' n' c'] 24)) ((w.alloc (.cells #[.int .i64 b, .int .i64 bt, .slice a n c] 24)).alloc (.cells #[.int .i64 b', .int .i64 bt', .slice a' n' c'] 24)).drew) := (Below.refl _ _).drew
  go_region_held3 (fun w' => w'.cell? ⟨w.heap.size, 0, none⟩ = some (.int .i64 b) ∧ w'.cell? ⟨w.heap.size, 1, none⟩ = some (.int .i64 bt) ∧ w'.cell? ⟨w.heap.size, 2, none⟩ = some (.slice a n c) ∧ w'.cell? ⟨w.heap.size + 1, 0, none⟩ = some (.int .i64 b') ∧ w'.cell? ⟨w.heap.size + 1, 1, none⟩ = some (.int .i64 bt') ∧ w'.cell? ⟨w.heap.size + 1, 2, none⟩ = some (.slice a' n' c')) (go_keep) (first
    | (go_at_call 10; have := H6; refine (HW.out _).mono ?_; rintro e w7 ⟨rfl, HB⟩; have H7 : Hid (Below (w.heap.size + 1 + 1) ((w.alloc (.cells #[.int .i64 b, .int .i64 bt, .slice a n c] 24)).alloc (.cells #[.int .i64 b', .int .i64 bt', .slice a' n' c'] 24)) w7) := two_up H6.out HB; obtain ⟨⟨⟨kg0, kg1, kg2, kg3⟩, ⟨kg4, kg5, kg6, kg7⟩⟩, _⟩ := Bx2.at_ (w := w) (b := b) (bt := bt) (v := .slice a n c) (b' := b') (bt' := bt') (v' := .slice a' n' c') H7.out; clear HB)
    | (go_at_call 14; have := H5; refine (HS2.out _ _ _ (Bx2.at_ (w := w) (b := b) (bt := bt) (v := .slice a n c) (b' := b') (bt' := bt') (v' := .slice a' n' c') H5.out.1).2 H5.out.2).mono ?_; rintro e w6 ⟨rfl, HB⟩; have H6 : Hid (Below (w.heap.size + 1 + 1) ((w.alloc (.cells #[.int .i64 b, .int .i64 bt, .slice a n c] 24)).alloc (.cells #[.int .i64 b', .int .i64 bt', .slice a' n' c'] 24)) w6) := two_up H5.out.1 HB; obtain ⟨⟨⟨kf0, kf1, kf2, kf3⟩, ⟨kf4, kf5, kf6, kf7⟩⟩, _⟩ := Bx2.at_ (w := w) (b := b) (bt := bt) (v := .slice a n c) (b' := b') (bt' := bt') (v' := .slice a' n' c') H6.out; clear HB)
    | (go_at_call 15; have := H4; refine (HCo.out (HLk.out hk1) _ (Bx2.at_ (w := w) (b := b) (bt := bt) (v := .slice a n c) (b' := b') (bt' := bt') (v' := .slice a' n' c') H4.out).2).mono ?_; rintro e w5 ⟨ra, rc, rfl, HE5, HB⟩; have H5 : Hid (Below (w.heap.size + 1 + 1) ((w.alloc (.cells #[.int .i64 b, .int .i64 bt, .slice a n c] 24)).alloc (.cells #[.int .i64 b', .int .i64 bt', .slice a' n' c'] 24)) w5 ∧ EnsV w5 (fun _ => True) ra rc es) := ⟨two_up H4.out HB, HE5⟩; obtain ⟨⟨⟨ke0, ke1, ke2, ke3⟩, ⟨ke4, ke5, ke6, ke7⟩⟩, _⟩ := Bx2.at_ (w := w) (b := b) (bt := bt) (v := .slice a n c) (b' := b') (bt' := bt') (v' := .slice a' n' c') H5.out.1; clear HB HE5)
    | (go_at_call 14; have := H3; refine (HSr.out _ (Bx2.at_ (w := w) (b := b) (bt := bt) (v := .slice a n c) (b' := b') (bt' := bt') (v' := .slice a' n' c') H3.out).2).mono ?_; rintro e w4 ⟨rfl, HB⟩; have H4 : Hid (Below (w.heap.size + 1 + 1) ((w.alloc (.cells #[.int .i64 b, .int .i64 bt, .slice a n c] 24)).alloc (.cells #[.int .i64 b', .int .i64 bt', .slice a' n' c'] 24)) w4) := two_up H3.out HB; obtain ⟨⟨⟨kd0, kd1, kd2, kd3⟩, ⟨kd4, kd5, kd6, kd7⟩⟩, _⟩ := Bx2.at_ (w := w) (b := b) (bt := bt) (v := .slice a n c) (b' := b') (bt' := bt') (v' := .slice a' n' c') H4.out; clear HB)
    | (go_at_call 13; have := H2; refine (HSa.out _ (Bx2.at_ (w := w) (b := b) (bt := bt) (v := .slice a n c) (b' := b') (bt' := bt') (v' := .slice a' n' c') H2.out).2).mono ?_; rintro e w3 ⟨rfl, HB⟩; have H3 : Hid (Below (w.heap.size + 1 + 1) ((w.alloc (.cells #[.int .i64 b, .int .i64 bt, .slice a n c] 24)).alloc (.cells #[.int .i64 b', .int .i64 bt', .slice a' n' c'] 24)) w3) := two_up H2.out HB; obtain ⟨⟨⟨kc0, kc1, kc2, kc3⟩, ⟨kc4, kc5, kc6, kc7⟩⟩, _⟩ := Bx2.at_ (w := w) (b := b) (bt := bt) (v := .slice a n c) (b' := b') (bt' := bt') (v' := .slice a' n' c') H3.out; clear HB)
    | (go_at_call 12; have := H1; refine (HRk.out _ (Bx2.at_ (w := w) (b := b) (bt := bt) (v := .slice a n c) (b' := b') (bt' := bt') (v' := .slice a' n' c') H1.out).2).mono ?_; rintro e w2 ⟨rfl, HB⟩; have H2 : Hid (Below (w.heap.size + 1 + 1) ((w.alloc (.cells #[.int .i64 b, .int .i64 bt, .slice a n c] 24)).alloc (.cells #[.int .i64 b', .int .i64 bt', .slice a' n' c'] 24)) w2) := two_up H1.out HB; obtain ⟨⟨⟨kb0, kb1, kb2, kb3⟩, ⟨kb4, kb5, kb6, kb7⟩⟩, _⟩ := Bx2.at_ (w := w) (b := b) (bt := bt) (v := .slice a n c) (b' := b') (bt' := bt') (v' := .slice a' n' c') H2.out; clear HB)
    | (go_at_call 11; have := H0; refine (HCk.out _ (Bx2.at_ (w := w) (b := b) (bt := bt) (v := .slice a n c) (b' := b') (bt' := bt') (v' := .slice a' n' c') H0.out).2).mono ?_; rintro e w1 ⟨rfl, HB⟩; have H1 : Hid (Below (w.heap.size + 1 + 1) ((w.alloc (.cells #[.int .i64 b, .int .i64 bt, .slice a n c] 24)).alloc (.cells #[.int .i64 b', .int .i64 bt', .slice a' n' c'] 24)) w1) := two_up H0.out HB; obtain ⟨⟨⟨ka0, ka1, ka2, ka3⟩, ⟨ka4, ka5, ka6, ka7⟩⟩, _⟩ := Bx2.at_ (w := w) (b := b) (bt := bt) (v := .slice a n c) (b' := b') (bt' := bt') (v' := .slice a' n' c') H1.out; clear HB))
  go_wp2
  go_ret
  exact ⟨rfl, (Bx2.at_ (w := w) (b := b) (bt := bt) (v := .slice a n c) (b' := b') (bt' := bt') (v' := .slice a' n' c') H7.out).2⟩
end Go.Proofs.Ytmpmbgjdbahmbaa
