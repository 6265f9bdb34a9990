/-
  LogsPuts: its walk.
-/
import Derived.Test.YtmpmbgjdbahmbaaLwa
import Derived.Test.YtmpmbgjdbahmbaaRpt
namespace Go.Proofs.Ytmpmbgjdbahmbaa
open Go.RowKit
set_option linter.unusedVariables false

set_option maxRecDepth 100000 in
set_option maxHeartbeats 1600000 in
theorem puts_walk (b bt : Int) (es : List En) (a : Option Addr) (c : Nat) (p t : Int) (r : List En) (a2 : Option Addr) (c2 : Nat) (w : World) (hb : InR b) (hbt : InR bt) (hE : EnsV w (fun _ => True) a c es) (hp : InR p) (ht : InR t) (hR : EnsV w (fun _ => True) a2 c2 r) : Calls Try.prog 5 #[.agg #[.int .i64 b, .int .i64 bt, .slice a es.length c], .int .i64 p, .int .i64 t, .slice a2 r.length c2] w fun e w' => e = .returned (.bool true) ∧ Below w.heap.size w w' := by
  have h5 := hR.cap1
  have h6 := hR.cap2
  have HM : Hid (∀ wx, Below w.heap.size w wx → Calls Try.prog 16 #[.agg #[.int .i64 b, .int .i64 bt, .slice a es.length c]] wx (TellsP (Light es ∧ chkM b bt es = 0) wx)) := fun wx h => may_any _ b bt a c es wx hb hbt (hE.below h)
  have HF : Hid (∀ wx, Below w.heap.size w wx → Calls Try.prog 27 #[.int .i64 p, .int .i64 t, .slice a2 r.length c2] wx (TellsP (Light r ∧ 0 ≤ p ∧ p ≤ 1000000 ∧ 0 ≤ t) wx)) := fun wx h => fits_any _ p t a2 c2 r wx hp ht (hR.below h)
  have HW : Hid (∀ wx, Calls Try.prog 10 #[] wx fun e w' => e = .returned (.bool true) ∧ Below wx.heap.size wx w') := fun wx => works_any wx
  have HY : Hid (∀ (A : Light es ∧ chkM b bt es = 0) (B : Light r ∧ 0 ≤ p ∧ p ≤ 1000000 ∧ 0 ≤ t), Yes b bt es p t r) := fun A B => ⟨A.1, A.2, B.1, B.2.1, B.2.2.1, B.2.2.2⟩
  have HP : Hid (∀ wx, Below w.heap.size w wx → Yes b bt es p t r → Calls Try.prog 28 #[.agg #[.int .i64 b, .int .i64 bt, .slice a es.length c], .int .i64 p, .int .i64 t, .slice a2 r.length c2] wx fun e w' => ∃ ra rc, e = .returned (.tuple #[.agg #[.int .i64 b, .int .i64 bt, .slice ra (putM b bt es p t r).1.length rc], .int .i64 (putM b bt es p t r).2.1, .bool (putM b bt es p t r).2.2]) ∧ EnsV w' (fun _ => True) ra rc (putM b bt es p t r).1 ∧ Below wx.heap.size wx w') := fun wx h y => (Put_any _ _ b bt a a2 c c2 es r p t wx (chk_base y.c).1 (by have := (chk_base y.c).2; omega) y.p1 (by have := y.p2; omega) ht hbt (hE.below h) y.l.small (hR.below h) y.r.small).mono fun e w' ⟨ra, rc, q1, q2, q3⟩ => ⟨ra, rc, q1, q2.all, q3⟩
  have HRp : Hid (∀ wx, Below w.heap.size w wx → Yes b bt es p t r → Calls Try.prog 29 #[.agg #[.int .i64 b, .int .i64 bt, .slice a es.length c], .int .i64 p, .int .i64 t, .slice a2 r.length c2] wx fun e w' => ∃ ra rc, e = .returned (.tuple #[.agg #[.int .i64 b, .int .i64 bt, .slice ra (putM b bt es p t r).1.length rc], .int .i64 (putM b bt es p t r).2.1, .bool (putM b bt es p t r).2.2]) ∧ EnsV w' (fun _ => True) ra rc (putM b bt es p t r).1 ∧ Below wx.heap.size wx w') := fun wx h y => (RPut_any b bt a a2 c c2 es r p t wx (chk_base y.c).1 (chk_base y.c).2 y.p1 (by have := y.p2; omega) ht hbt (hE.below h) y.l.1 (hR.below h) y.r.1)
  have HS : Hid (∀ wx ra rc ra' rc', EnsV wx (fun _ => True) ra rc (putM b bt es p t r).1 → EnsV wx (fun _ => True) ra' rc' (putM b bt es p t r).1 → Calls Try.prog 14 #[.agg #[.int .i64 b, .int .i64 bt, .slice ra (putM b bt es p t r).1.length rc], .agg #[.int .i64 b, .int .i64 bt, .slice ra' (putM b bt es p t r).1.length rc']] wx fun e w' => e = .returned (.bool true) ∧ Below wx.heap.size wx w') := fun wx ra rc ra' rc' h h2 => by
    have := RSame_any _ _ b bt b bt ra ra' rc rc' _ _ wx h h2
    rw [same_self] at this
    exact this
  generalize (putM b bt es p t r).2.1 = q0 at *
  generalize (putM b bt es p t r).2.2 = y0 at *
  generalize (putM b bt es p t r).1 = xs at *
  clear hE hR
  generalize xs.length = m at *
  generalize es.length = n at *
  generalize r.length = n2 at *
  go_enter Try.func5, Try.ntmps5
  go_wp2_with (first
    | (go_at_call 10; refine (HW.out _).mono ?_; rintro e w9 ⟨rfl, HB⟩; have HZ : Hid (Below w.heap.size w w9) := (by first | exact (Bx1.at_ (Bx1.up H5.out HB)).2 | exact (Bx1.at_ (Bx1.up H2.out HB)).2 | exact (Bx1.at_ (Bx1.up H1.out HB)).2); clear HB)
    | (go_at_call 14; have := H4; refine (HS.out _ _ _ _ _ (H4.out.2.2.1.alloc _) (H4.out.2.2.2.alloc _)).mono ?_; rintro e w5 ⟨rfl, HB⟩; have H5 : Hid (Below (w.heap.size + 1) (w.alloc (.cells #[.int .i64 b, .int .i64 bt, .slice a n c] 24)) w5) := Bx1.up (H4.out.1.alloc (by have := World.block_lt_of_cell? _ _ (Bx1.at_ H4.out.1).1.c0; omega) (.cells #[.int .i64 b, .int .i64 bt, .slice ra2 m rc2] 24)) HB; clear HB)
    | (go_at_call 29; have := H3; refine (HRp.out _ (Bx1.at_ (H3.out.1.alloc (by have := World.block_lt_of_cell? _ _ (Bx1.at_ H3.out.1).1.c0; omega) (.cells #[.int .i64 b, .int .i64 bt, .slice ra m rc] 24))).2 (HY.out (HAh.out (by trivial)) (HBh.out (by trivial)))).mono ?_; rintro e w4 ⟨ra2, rc2, rfl, HE4, HB⟩; have H4 : Hid (Below (w.heap.size + 1) (w.alloc (.cells #[.int .i64 b, .int .i64 bt, .slice a n c] 24)) w4 ∧ Cell3 w4 w3.heap.size (.int .i64 b) (.int .i64 bt) (.slice ra m rc) ∧ EnsV w4 (fun _ => True) ra rc xs ∧ EnsV w4 (fun _ => True) ra2 rc2 xs) := ⟨Bx1.up (H3.out.1.alloc (by have := World.block_lt_of_cell? _ _ (Bx1.at_ H3.out.1).1.c0; omega) (.cells #[.int .i64 b, .int .i64 bt, .slice ra m rc] 24)) HB, (Cell3.new w3 _ _ _ 24).below HB, (H3.out.2.alloc _).below HB, HE4⟩; obtain ⟨⟨kd0, kd1, kd2, kd3⟩, _⟩ := Bx1.at_ H4.out.1; have kdl : w.heap.size < _ := World.block_lt_of_cell? _ _ kd0; obtain ⟨x0, x1, x2, x3⟩ := H4.out.2.1; have xl : w3.heap.size < w4.heap.size := World.block_lt_of_cell? _ _ x0; clear HB HE4)
    | (go_at_call 28; have := H2; refine (HP.out _ (Bx1.at_ H2.out).2 (HY.out (HAh.out (by trivial)) (HBh.out (by trivial)))).mono ?_; rintro e w3 ⟨ra, rc, rfl, HE3, HB⟩; have H3 : Hid (Below (w.heap.size + 1) (w.alloc (.cells #[.int .i64 b, .int .i64 bt, .slice a n c] 24)) w3 ∧ EnsV w3 (fun _ => True) ra rc xs) := ⟨Bx1.up H2.out HB, HE3⟩; obtain ⟨⟨kc0, kc1, kc2, kc3⟩, _⟩ := Bx1.at_ H3.out.1; have kcl : w.heap.size < _ := World.block_lt_of_cell? _ _ kc0; clear HB HE3)
    | (go_at_call 27; have := H1; refine (HF.out _ (Bx1.at_ H1.out).2).mono ?_; rintro e w2 ⟨q2, rfl, HA2, HB⟩; have H2 : Hid (Below (w.heap.size + 1) (w.alloc (.cells #[.int .i64 b, .int .i64 bt, .slice a n c] 24)) w2) := Bx1.up H1.out HB; have HBh : Hid (q2 = true → Light r ∧ 0 ≤ p ∧ p ≤ 1000000 ∧ 0 ≤ t) := HA2; obtain ⟨⟨kb0, kb1, kb2, kb3⟩, _⟩ := Bx1.at_ H2.out; have kbl : w.heap.size < _ := World.block_lt_of_cell? _ _ kb0; clear HB HA2; cases q2)
    | (go_at_call 16; refine (HM.out _ (Bx1.at_ (Below.refl _ _)).2).mono ?_; rintro e w1 ⟨q, rfl, HA, HB⟩; have H1 : Hid (Below (w.heap.size + 1) (w.alloc (.cells #[.int .i64 b, .int .i64 bt, .slice a n c] 24)) w1) := Bx1.up (Below.refl _ _) HB; have HAh : Hid (q = true → Light es ∧ chkM b bt es = 0) := HA; obtain ⟨⟨ka0, ka1, ka2, ka3⟩, _⟩ := Bx1.at_ H1.out; have kal : w.heap.size < _ := World.block_lt_of_cell? _ _ ka0; clear HB HA; cases q))
  all_goals (
    go_ret
    exact ⟨rfl, HZ.out⟩)
end Go.Proofs.Ytmpmbgjdbahmbaa
