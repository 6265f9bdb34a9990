/-
  LogsTwice: its walk.
-/
import Derived.Test.YtmpmbgjdbahmbaaLwa
namespace Go.Proofs.Ytmpmbgjdbahmbaa
open Go.RowKit
set_option linter.unusedVariables false

set_option maxRecDepth 100000 in
set_option maxHeartbeats 1600000 in
theorem twice_no (b bt : Int) (es : List En) (a : Option Addr) (c : Nat) (p t : Int) (r : List En) (a2 : Option Addr) (c2 : Nat) (so : Int) (w : World) (hb : InR b) (hbt : InR bt) (hE : EnsV w (fun _ => True) a c es) (hp : InR p) (ht : InR t) (hR : EnsV w (fun _ => True) a2 c2 r) (hso : InR so) (hx : (putM b bt es p t r).2.2 = false) : Calls Try.prog 8 #[.agg #[.int .i64 b, .int .i64 bt, .slice a es.length c], .int .i64 p, .int .i64 t, .slice a2 r.length c2, .int .i64 so] w fun e w' => e = .returned (.bool true) ∧ Below w.heap.size w w' := by
  have h5 := hR.cap1
  have h6 := hR.cap2
  have HM : Hid (∀ wx, Below w.heap.size w wx → Calls Try.prog 16 #[.agg #[.int .i64 b, .int .i64 bt, .slice a es.length c]] wx (TellsP (Light es ∧ chkM b bt es = 0) wx)) := fun wx h => may_any _ b bt a c es wx hb hbt (hE.below h)
  have HF : Hid (∀ wx, Below w.heap.size w wx → Calls Try.prog 27 #[.int .i64 p, .int .i64 t, .slice a2 r.length c2] wx (TellsP (Light r ∧ 0 ≤ p ∧ p ≤ 1000000 ∧ 0 ≤ t) wx)) := fun wx h => fits_any _ p t a2 c2 r wx hp ht (hR.below h)
  have HW : Hid (∀ wx, Calls Try.prog 10 #[] wx fun e w' => e = .returned (.bool true) ∧ Below wx.heap.size wx w') := fun wx => works_any wx
  have HY : Hid (∀ (A : Light es ∧ chkM b bt es = 0) (B : Light r ∧ 0 ≤ p ∧ p ≤ 1000000 ∧ 0 ≤ t), Yes b bt es p t r) := fun A B => ⟨A.1, A.2, B.1, B.2.1, B.2.2.1, B.2.2.2⟩
  have HP : Hid (∀ wx, Below w.heap.size w wx → Yes b bt es p t r → Calls Try.prog 28 #[.agg #[.int .i64 b, .int .i64 bt, .slice a es.length c], .int .i64 p, .int .i64 t, .slice a2 r.length c2] wx fun e w' => ∃ ra rc, e = .returned (.tuple #[.agg #[.int .i64 b, .int .i64 bt, .slice ra (putM b bt es p t r).1.length rc], .int .i64 (putM b bt es p t r).2.1, .bool (putM b bt es p t r).2.2]) ∧ EnsV w' (fun _ => True) ra rc (putM b bt es p t r).1 ∧ Below wx.heap.size wx w') := fun wx h y => (Put_any _ _ b bt a a2 c c2 es r p t wx (chk_base y.c).1 (by have := (chk_base y.c).2; omega) y.p1 (by have := y.p2; omega) ht hbt (hE.below h) y.l.small (hR.below h) y.r.small).mono fun e w' ⟨ra, rc, q1, q2, q3⟩ => ⟨ra, rc, q1, q2.all, q3⟩
  obtain ⟨e1, e2, e3⟩ := put_no hx
  have HS : Hid (∀ wx ra rc, Below w.heap.size w wx → EnsV wx (fun _ => True) ra rc (putM b bt es p t r).1 → Calls Try.prog 14 #[.agg #[.int .i64 b, .int .i64 bt, .slice ra (putM b bt es p t r).1.length rc], .agg #[.int .i64 b, .int .i64 bt, .slice a es.length c]] wx fun e w' => e = .returned (.bool true) ∧ Below wx.heap.size wx w') := fun wx ra rc h h2 => by
    have := RSame_any _ _ b bt b bt ra a rc c _ es wx h2 (hE.below h)
    rw [e1, same_self] at this
    rw [e1]
    exact this
  have HL : Hid (Yes b bt es p t r → ∀ wx, Calls Try.prog 19 #[.agg #[.int .i64 b, .int .i64 bt, .slice a es.length c]] wx fun e w' => e = .returned (.int .i64 (b + es.length)) ∧ Below wx.heap.size wx w') := fun y wx => RLast_any b bt a es.length c wx (chk_base y.c).1 (by have := (chk_base y.c).2; omega) (by have := y.l.1; omega)
  rw [hx] at HP
  generalize (putM b bt es p t r).2.1 = q0 at *
  generalize (putM b bt es p t r).1 = xs at *
  clear hE hR e1 hx
  generalize xs.length = m at *
  generalize es.length = n at *
  generalize r.length = n2 at *
  go_enter Try.func8, Try.ntmps8
  go_wp2_with (first
    | (go_at_call 10; refine (HW.out _).mono ?_; rintro e w9 ⟨rfl, HB⟩; have HZ : Hid (Below w.heap.size w w9) := (by first | exact (Bx1.at_ (Bx1.up H5.out HB)).2 | exact (Bx1.at_ (Bx1.up H2.out HB)).2 | exact (Bx1.at_ (Bx1.up H1.out HB)).2); clear HB)
    | (go_at_call 19; have := H4; refine (HL.out (HY.out (HAh.out (by trivial)) (HBh.out (by trivial))) _).mono ?_; rintro e w5 ⟨rfl, HB⟩; have H5 : Hid (Below (w.heap.size + 1) (w.alloc (.cells #[.int .i64 b, .int .i64 bt, .slice a n c] 24)) w5) := Bx1.up H4.out HB; clear HB)
    | (go_at_call 14; have := H3; refine (HS.out _ _ _ (Bx1.at_ (H3.out.1.alloc (by have := World.block_lt_of_cell? _ _ (Bx1.at_ H3.out.1).1.c0; omega) (.cells #[.int .i64 b, .int .i64 bt, .slice ra m rc] 24))).2 (H3.out.2.alloc _)).mono ?_; rintro e w4 ⟨rfl, HB⟩; have H4 : Hid (Below (w.heap.size + 1) (w.alloc (.cells #[.int .i64 b, .int .i64 bt, .slice a n c] 24)) w4) := Bx1.up (H3.out.1.alloc (by have := World.block_lt_of_cell? _ _ (Bx1.at_ H3.out.1).1.c0; omega) (.cells #[.int .i64 b, .int .i64 bt, .slice ra m rc] 24)) HB; obtain ⟨⟨kd0, kd1, kd2, kd3⟩, _⟩ := Bx1.at_ H4.out; have kdl : w.heap.size < _ := World.block_lt_of_cell? _ _ kd0; clear HB)
    | (go_at_call 28; have := H2; refine (HP.out _ (Bx1.at_ H2.out).2 (HY.out (HAh.out (by trivial)) (HBh.out (by trivial)))).mono ?_; rintro e w3 ⟨ra, rc, rfl, HE3, HB⟩; have H3 : Hid (Below (w.heap.size + 1) (w.alloc (.cells #[.int .i64 b, .int .i64 bt, .slice a n c] 24)) w3 ∧ EnsV w3 (fun _ => True) ra rc xs) := ⟨Bx1.up H2.out HB, HE3⟩; obtain ⟨⟨kc0, kc1, kc2, kc3⟩, _⟩ := Bx1.at_ H3.out.1; have kcl : w.heap.size < _ := World.block_lt_of_cell? _ _ kc0; clear HB HE3)
    | (go_at_call 27; have := H1; refine (HF.out _ (Bx1.at_ H1.out).2).mono ?_; rintro e w2 ⟨q2, rfl, HA2, HB⟩; have H2 : Hid (Below (w.heap.size + 1) (w.alloc (.cells #[.int .i64 b, .int .i64 bt, .slice a n c] 24)) w2) := Bx1.up H1.out HB; have HBh : Hid (q2 = true → Light r ∧ 0 ≤ p ∧ p ≤ 1000000 ∧ 0 ≤ t) := HA2; obtain ⟨⟨kb0, kb1, kb2, kb3⟩, _⟩ := Bx1.at_ H2.out; have kbl : w.heap.size < _ := World.block_lt_of_cell? _ _ kb0; clear HB HA2; cases q2)
    | (go_at_call 16; refine (HM.out _ (Bx1.at_ (Below.refl _ _)).2).mono ?_; rintro e w1 ⟨q, rfl, HA, HB⟩; have H1 : Hid (Below (w.heap.size + 1) (w.alloc (.cells #[.int .i64 b, .int .i64 bt, .slice a n c] 24)) w1) := Bx1.up (Below.refl _ _) HB; have HAh : Hid (q = true → Light es ∧ chkM b bt es = 0) := HA; obtain ⟨⟨ka0, ka1, ka2, ka3⟩, _⟩ := Bx1.at_ H1.out; have kal : w.heap.size < _ := World.block_lt_of_cell? _ _ ka0; clear HB HA; cases q))
  all_goals (
    go_ret
    exact ⟨rfl, HZ.out⟩)
theorem zA {w w5 : World} {o : Obj} {a : Option Addr} {c : Nat} {xs : List En} {v0 v1 v2 : Value} (hE : EnsV w5 (fun g => ((w.alloc o).alloc (.cells #[v0, v1, v2] 24)).drew.heap.size ≤ g) a c xs) (hB : Below ((w.alloc o).alloc (.cells #[v0, v1, v2] 24)).drew.heap.size ((w.alloc o).alloc (.cells #[v0, v1, v2] 24)).drew w5) : EnsV w5 (fun g => w.heap.size + 1 < g) a c xs ∧ Below (w.heap.size + 1) (w.alloc o) w5 ∧ Cell3 w5 (w.heap.size + 1) v0 v1 v2 := by
  have e2 : ((w.alloc o).alloc (.cells #[v0, v1, v2] 24)).drew.heap.size = w.heap.size + 1 + 1 := two_size w o _
  have hC := ((Cell3.second w o v0 v1 v2 24).below (Below.refl _ _).drew).below hB
  refine ⟨hE.sub fun g hg _ => by rw [e2] at hg; omega, ?_, hC⟩
  exact ((((Below.refl _ _).alloc (Nat.le_of_eq (size_alloc w o).symm) _)).drew).trans (hB.mono (by rw [e2]; omega))
theorem zB {w w5 : World} {o : Obj} {a : Option Addr} {c : Nat} {xs : List En} (hE : EnsV w5 (fun g => ((w.alloc o).drew).heap.size ≤ g) a c xs) (hB : Below ((w.alloc o).drew).heap.size ((w.alloc o).drew) w5) : EnsV w5 (fun g => w.heap.size + 1 ≤ g) a c xs ∧ Below (w.heap.size + 1) (w.alloc o) w5 := by
  have e : ((w.alloc o).drew).heap.size = w.heap.size + 1 := size_alloc w o
  exact ⟨hE.sub fun g hg _ => by rw [e] at hg; exact hg, ((Below.refl _ _).drew).trans (hB.mono (by rw [e]; exact Nat.le_refl _))⟩
set_option maxRecDepth 100000 in
set_option maxHeartbeats 3200000 in
theorem twice_yes (b bt : Int) (es : List En) (a : Option Addr) (c : Nat) (p t : Int) (r : List En) (a2 : Option Addr) (c2 : Nat) (so : Int) (w : World) (hb : InR b) (hbt : InR bt) (hE : EnsV w (fun _ => True) a c es) (hp : InR p) (ht : InR t) (hR : EnsV w (fun _ => True) a2 c2 r) (hso : InR so) (hx : (putM b bt es p t r).2.2 = true) : Calls Try.prog 8 #[.agg #[.int .i64 b, .int .i64 bt, .slice a es.length c], .int .i64 p, .int .i64 t, .slice a2 r.length c2, .int .i64 so] w fun e w' => e = .returned (.bool true) ∧ Below w.heap.size w w' := by
  have h5 := hR.cap1
  have h6 := hR.cap2
  have HM : Hid (∀ wx, Below w.heap.size w wx → Calls Try.prog 16 #[.agg #[.int .i64 b, .int .i64 bt, .slice a es.length c]] wx (TellsP (Light es ∧ chkM b bt es = 0) wx)) := fun wx h => may_any _ b bt a c es wx hb hbt (hE.below h)
  have HF : Hid (∀ wx, Below w.heap.size w wx → Calls Try.prog 27 #[.int .i64 p, .int .i64 t, .slice a2 r.length c2] wx (TellsP (Light r ∧ 0 ≤ p ∧ p ≤ 1000000 ∧ 0 ≤ t) wx)) := fun wx h => fits_any _ p t a2 c2 r wx hp ht (hR.below h)
  have HW : Hid (∀ wx, Calls Try.prog 10 #[] wx fun e w' => e = .returned (.bool true) ∧ Below wx.heap.size wx w') := fun wx => works_any wx
  have HY : Hid (∀ (A : Light es ∧ chkM b bt es = 0) (B : Light r ∧ 0 ≤ p ∧ p ≤ 1000000 ∧ 0 ≤ t), Yes b bt es p t r) := fun A B => ⟨A.1, A.2, B.1, B.2.1, B.2.2.1, B.2.2.2⟩
  have HP : Hid (∀ wx, Below w.heap.size w wx → Yes b bt es p t r → Calls Try.prog 28 #[.agg #[.int .i64 b, .int .i64 bt, .slice a es.length c], .int .i64 p, .int .i64 t, .slice a2 r.length c2] wx fun e w' => ∃ ra rc, e = .returned (.tuple #[.agg #[.int .i64 b, .int .i64 bt, .slice ra (putM b bt es p t r).1.length rc], .int .i64 (putM b bt es p t r).2.1, .bool (putM b bt es p t r).2.2]) ∧ EnsV w' (fun _ => True) ra rc (putM b bt es p t r).1 ∧ Below wx.heap.size wx w') := fun wx h y => (Put_any _ _ b bt a a2 c c2 es r p t wx (chk_base y.c).1 (by have := (chk_base y.c).2; omega) y.p1 (by have := y.p2; omega) ht hbt (hE.below h) y.l.small (hR.below h) y.r.small).mono fun e w' ⟨ra, rc, q1, q2, q3⟩ => ⟨ra, rc, q1, q2.all, q3⟩
  obtain ⟨so1, so2⟩ := hso
  obtain ⟨zz, hzz⟩ : ∃ zz, IntKind.u64.wrap so = zz := ⟨_, rfl⟩
  have hz1 : 0 ≤ zz ∧ zz < 18446744073709551616 := by rw [← hzz, IntKind.wrap_u64]; omega
  obtain ⟨z1, z2⟩ := hz1
  obtain ⟨kk, hkk⟩ : ∃ kk : Nat, zz % ((r.length : Int) + 1) = (kk : Int) := ⟨(zz % ((r.length : Int) + 1)).toNat, by have := Int.emod_nonneg zz (show ((r.length : Int) + 1) ≠ 0 by omega); omega⟩
  have hkl : kk ≤ r.length := by have := Int.emod_lt_of_pos zz (show 0 < ((r.length : Int) + 1) by omega); omega
  have HS : Hid (∀ wx ra rc ra' rc', EnsV wx (fun _ => True) ra rc (putM b bt es p t r).1 → EnsV wx (fun _ => True) ra' rc' (putM b bt es p t r).1 → Calls Try.prog 14 #[.agg #[.int .i64 b, .int .i64 bt, .slice ra (putM b bt es p t r).1.length rc], .agg #[.int .i64 b, .int .i64 bt, .slice ra' (putM b bt es p t r).1.length rc']] wx fun e w' => e = .returned (.bool true) ∧ Below wx.heap.size wx w') := fun wx ra rc ra' rc' h h2 => by
    have := RSame_any _ _ b bt b bt ra ra' rc rc' _ _ wx h h2
    rw [same_self] at this
    exact this
  have HPk : Hid (∀ k, k ≤ r.length → Yes b bt es p t r → ∀ wx ra rc, Below w.heap.size w wx → EnsV wx (fun _ => True) ra rc (putM b bt es p t r).1 → Calls Try.prog 28 #[.agg #[.int .i64 b, .int .i64 bt, .slice ra (putM b bt es p t r).1.length rc], .int .i64 p, .int .i64 t, .slice a2 k c2] wx fun e w' => ∃ ra' rc' q', e = .returned (.tuple #[.agg #[.int .i64 b, .int .i64 bt, .slice ra' (putM b bt es p t r).1.length rc'], .int .i64 q', .bool true]) ∧ EnsV w' (fun g => wx.heap.size ≤ g) ra' rc' (putM b bt es p t r).1 ∧ Below wx.heap.size wx w') := fun k hk y wx ra rc h h2 => by
    have hl : (r.take k).length = k := by rw [List.length_take]; omega
    have q1 := Put_any _ _ b bt ra a2 rc c2 _ (r.take k) p t wx (chk_base y.c).1 (by have := (chk_base y.c).2; omega) y.p1 (by have := y.p2; omega) ht hbt h2 (small_put y.l y.r) ((hR.below h).take hk) (small_take y.r.small k)
    obtain ⟨t1, t2⟩ := put_twice hx k
    rw [hl] at q1
    refine q1.mono fun e w' ⟨ra', rc', v1, v2, v3⟩ => ?_
    rw [t1] at v1 v2
    rw [t2] at v1
    exact ⟨ra', rc', _, v1, v2, v3⟩
  have HP3 : Hid (Yes b bt es p t r → ∀ wx ra rc, Below w.heap.size w wx → EnsV wx (fun _ => True) ra rc (putM b bt es p t r).1 → Calls Try.prog 28 #[.agg #[.int .i64 b, .int .i64 bt, .slice ra (putM b bt es p t r).1.length rc], .int .i64 p, .int .i64 t, .slice a2 kk c2] wx fun e w' => ∃ ra' rc' q', e = .returned (.tuple #[.agg #[.int .i64 b, .int .i64 bt, .slice ra' (putM b bt es p t r).1.length rc'], .int .i64 q', .bool true]) ∧ EnsV w' (fun g => wx.heap.size ≤ g) ra' rc' (putM b bt es p t r).1 ∧ Below wx.heap.size wx w') := HPk.out kk hkl
  have HP2 : Hid (Yes b bt es p t r → ∀ wx ra rc, Below w.heap.size w wx → EnsV wx (fun _ => True) ra rc (putM b bt es p t r).1 → Calls Try.prog 28 #[.agg #[.int .i64 b, .int .i64 bt, .slice ra (putM b bt es p t r).1.length rc], .int .i64 p, .int .i64 t, .slice a2 r.length c2] wx fun e w' => ∃ ra' rc' q', e = .returned (.tuple #[.agg #[.int .i64 b, .int .i64 bt, .slice ra' (putM b bt es p t r).1.length rc'], .int .i64 q', .bool true]) ∧ EnsV w' (fun _ => True) ra' rc' (putM b bt es p t r).1 ∧ Below wx.heap.size wx w') := fun y wx ra rc h h2 => (HPk.out r.length (Nat.le_refl _) y wx ra rc h h2).mono fun e w' ⟨ra', rc', q', v1, v2, v3⟩ => ⟨ra', rc', q', v1, v2.all, v3⟩
  rw [hx] at HP
  have HRl : Hid (Yes b bt es p t r → r.length ≤ 300) := fun y => y.r.1
  have hid : Option.map (fun x => x) a2 = a2 := by cases a2 <;> rfl
  generalize (putM b bt es p t r).2.1 = q0 at *
  generalize (putM b bt es p t r).1 = xs at *
  clear hE hR hx HPk
  generalize xs.length = m at *
  generalize es.length = n at *
  generalize r.length = n2 at *
  go_enter Try.func8, Try.ntmps8
  go_wp2_with (first
    | (go_at_call 10; refine (HW.out _).mono ?_; rintro e w9 ⟨rfl, HB⟩; have HZ : Hid (Below w.heap.size w w9) := (by first | exact (Bx1.at_ (Bx1.up H2.out HB)).2 | exact (Bx1.at_ (Bx1.up H1.out HB)).2); clear HB)
    | (go_at_call 28; have := H3; refine (HP2.out (HY.out (HAh.out (by trivial)) (HBh.out (by trivial))) _ _ _ (Bx1.at_ (H3.out.1.alloc (by have := World.block_lt_of_cell? _ _ (Bx1.at_ H3.out.1).1.c0; omega) (.cells #[.int .i64 b, .int .i64 bt, .slice ra m rc] 24))).2 (H3.out.2.alloc _)).mono ?_; rintro e w4 ⟨ra2, rc2, q4, rfl, HE4, HB⟩; have H4 : Hid (Below (w.heap.size + 1) (w.alloc (.cells #[.int .i64 b, .int .i64 bt, .slice a n c] 24)) w4 ∧ Cell3 w4 w3.heap.size (.int .i64 b) (.int .i64 bt) (.slice ra m rc) ∧ EnsV w4 (fun _ => True) ra rc xs ∧ EnsV w4 (fun _ => True) ra2 rc2 xs) := ⟨Bx1.up (H3.out.1.alloc (by have := World.block_lt_of_cell? _ _ (Bx1.at_ H3.out.1).1.c0; omega) (.cells #[.int .i64 b, .int .i64 bt, .slice ra m rc] 24)) HB, (Cell3.new w3 _ _ _ 24).below HB, (H3.out.2.alloc _).below HB, HE4⟩; obtain ⟨⟨kd0, kd1, kd2, kd3⟩, _⟩ := Bx1.at_ H4.out.1; have kdl : w.heap.size < _ := World.block_lt_of_cell? _ _ kd0; obtain ⟨x0, x1, x2, x3⟩ := H4.out.2.1; have xl : w3.heap.size < w4.heap.size := World.block_lt_of_cell? _ _ x0; clear HB HE4)
    | (go_at_call 28; have := H2; refine (HP.out _ (Bx1.at_ H2.out).2 (HY.out (HAh.out (by trivial)) (HBh.out (by trivial)))).mono ?_; rintro e w3 ⟨ra, rc, rfl, HE3, HB⟩; have H3 : Hid (Below (w.heap.size + 1) (w.alloc (.cells #[.int .i64 b, .int .i64 bt, .slice a n c] 24)) w3 ∧ EnsV w3 (fun _ => True) ra rc xs) := ⟨Bx1.up H2.out HB, HE3⟩; obtain ⟨⟨kc0, kc1, kc2, kc3⟩, _⟩ := Bx1.at_ H3.out.1; have kcl : w.heap.size < _ := World.block_lt_of_cell? _ _ kc0; clear HB HE3; have hn2 : n2 ≤ 300 := HRl.out (HY.out (HAh.out (by trivial)) (HBh.out (by trivial))))
    | (go_at_call 27; have := H1; refine (HF.out _ (Bx1.at_ H1.out).2).mono ?_; rintro e w2 ⟨q2, rfl, HA2, HB⟩; have H2 : Hid (Below (w.heap.size + 1) (w.alloc (.cells #[.int .i64 b, .int .i64 bt, .slice a n c] 24)) w2) := Bx1.up H1.out HB; have HBh : Hid (q2 = true → Light r ∧ 0 ≤ p ∧ p ≤ 1000000 ∧ 0 ≤ t) := HA2; obtain ⟨⟨kb0, kb1, kb2, kb3⟩, _⟩ := Bx1.at_ H2.out; have kbl : w.heap.size < _ := World.block_lt_of_cell? _ _ kb0; clear HB HA2; cases q2)
    | (go_at_call 16; refine (HM.out _ (Bx1.at_ (Below.refl _ _)).2).mono ?_; rintro e w1 ⟨q, rfl, HA, HB⟩; have H1 : Hid (Below (w.heap.size + 1) (w.alloc (.cells #[.int .i64 b, .int .i64 bt, .slice a n c] 24)) w1) := Bx1.up (Below.refl _ _) HB; have HAh : Hid (q = true → Light es ∧ chkM b bt es = 0) := HA; obtain ⟨⟨ka0, ka1, ka2, ka3⟩, _⟩ := Bx1.at_ H1.out; have kal : w.heap.size < _ := World.block_lt_of_cell? _ _ ka0; clear HB HA; cases q))
  all_goals first | (go_ret; exact ⟨rfl, HZ.out⟩) | skip
  have HV : Hid (∀ wx, Below (w4.heap.size + 1) (w4.alloc (.cells #[.int .i64 b, .int .i64 bt, .slice ra2 m rc2] 24)) wx → Below (w.heap.size + 1) (w.alloc (.cells #[.int .i64 b, .int .i64 bt, .slice a n c] 24)) wx ∧ Cell3 wx w3.heap.size (.int .i64 b) (.int .i64 bt) (.slice ra m rc) ∧ Cell3 wx w4.heap.size (.int .i64 b) (.int .i64 bt) (.slice ra2 m rc2) ∧ EnsV wx (fun _ => True) ra rc xs ∧ EnsV wx (fun _ => True) ra2 rc2 xs) := fun wx h => by
    have h2 : Below (w4.alloc (.cells #[.int .i64 b, .int .i64 bt, .slice ra2 m rc2] 24)).heap.size (w4.alloc (.cells #[.int .i64 b, .int .i64 bt, .slice ra2 m rc2] 24)) wx := by rw [size_alloc]; exact h
    have h3 := H4.out.2.2.1.alloc (.cells #[.int .i64 b, .int .i64 bt, .slice ra2 m rc2] 24)
    exact ⟨Bx1.up (H4.out.1.alloc (by have := World.block_lt_of_cell? _ _ (Bx1.at_ H4.out.1).1.c0; omega) (.cells #[.int .i64 b, .int .i64 bt, .slice ra2 m rc2] 24)) h2, (H4.out.2.1.below ((Below.refl _ _).alloc (Nat.le_refl _) _)).below h2, (Cell3.new w4 _ _ _ 24).below h2, (H4.out.2.2.1.alloc _).below h2, (H4.out.2.2.2.alloc _).below h2⟩
  have hb1 : (0 : Int) ≤ (kk : Int) := by omega
  have ne1 : w4.heap.size + 1 ≠ w3.heap.size := by omega
  have ne2 : w3.heap.size ≠ w4.heap.size + 1 := by omega
  have hb2 : (kk : Int) ≤ (c2 : Int) := by omega
  go_region_held3 (fun w' => w'.cell? ⟨w3.heap.size, 0, none⟩ = some (.int .i64 b) ∧ w'.cell? ⟨w3.heap.size, 1, none⟩ = some (.int .i64 bt) ∧ w'.cell? ⟨w3.heap.size, 2, none⟩ = some (.slice ra m rc)) (go_keep) (first
    | (go_at_call 28; refine (HP3.out (HY.out (HAh.out (by trivial)) (HBh.out (by trivial))) _ _ _ (Bx1.at_ (HV.out _ (by first | exact (Below.refl _ _).drew | exact ((Below.refl _ _).alloc (Nat.le_of_eq (size_alloc _ _).symm) _).drew)).1).2 (HV.out _ (by first | exact (Below.refl _ _).drew | exact ((Below.refl _ _).alloc (Nat.le_of_eq (size_alloc _ _).symm) _).drew)).2.2.2.1).mono ?_; rintro e w5 ⟨ra3, rc3, q5, rfl, HE5, HB⟩; first
          | (have H5 : Hid (EnsV w5 (fun g => w4.heap.size + 1 < g) ra3 rc3 xs ∧ Below (w4.heap.size + 1) (w4.alloc (.cells #[.int .i64 b, .int .i64 bt, .slice ra2 m rc2] 24)) w5 ∧ Cell3 w5 (w4.heap.size + 1) (.int .i64 0) (.int .i64 0) (.slice none 0 0)) := zA HE5 HB; have MA : Hid True := trivial; obtain ⟨v0, v1, v2, v3⟩ := (HV.out _ H5.out.2.1).2.1; obtain ⟨u0, u1, u2, u3⟩ := H5.out.2.2; clear HE5 HB)
          | (have H5 : Hid (EnsV w5 (fun g => w4.heap.size + 1 ≤ g) ra3 rc3 xs ∧ Below (w4.heap.size + 1) (w4.alloc (.cells #[.int .i64 b, .int .i64 bt, .slice ra2 m rc2] 24)) w5) := zB HE5 HB; have MB : Hid True := trivial; obtain ⟨v0, v1, v2, v3⟩ := (HV.out _ H5.out.2).2.1; have vl : w3.heap.size < w5.heap.size := World.block_lt_of_cell? _ _ v0; have ne3 : w5.heap.size ≠ w3.heap.size := (by omega); have ne4 : w3.heap.size ≠ w5.heap.size := (by omega); clear HE5 HB)))
  all_goals (
    first
      | (have := MA; have HZZ : Hid ((Below (w.heap.size + 1) (w.alloc (.cells #[.int .i64 b, .int .i64 bt, .slice a n c] 24)) (((w5.setCell ⟨w4.heap.size + 1, 0, none⟩ (.int .i64 b)).setCell ⟨w4.heap.size + 1, 1, none⟩ (.int .i64 bt)).setCell ⟨w4.heap.size + 1, 2, none⟩ (.slice ra3 m rc3)) ∧ Cell3 (((w5.setCell ⟨w4.heap.size + 1, 0, none⟩ (.int .i64 b)).setCell ⟨w4.heap.size + 1, 1, none⟩ (.int .i64 bt)).setCell ⟨w4.heap.size + 1, 2, none⟩ (.slice ra3 m rc3)) w3.heap.size (.int .i64 b) (.int .i64 bt) (.slice ra m rc) ∧ Cell3 (((w5.setCell ⟨w4.heap.size + 1, 0, none⟩ (.int .i64 b)).setCell ⟨w4.heap.size + 1, 1, none⟩ (.int .i64 bt)).setCell ⟨w4.heap.size + 1, 2, none⟩ (.slice ra3 m rc3)) w4.heap.size (.int .i64 b) (.int .i64 bt) (.slice ra2 m rc2) ∧ EnsV (((w5.setCell ⟨w4.heap.size + 1, 0, none⟩ (.int .i64 b)).setCell ⟨w4.heap.size + 1, 1, none⟩ (.int .i64 bt)).setCell ⟨w4.heap.size + 1, 2, none⟩ (.slice ra3 m rc3)) (fun _ => True) ra rc xs ∧ EnsV (((w5.setCell ⟨w4.heap.size + 1, 0, none⟩ (.int .i64 b)).setCell ⟨w4.heap.size + 1, 1, none⟩ (.int .i64 bt)).setCell ⟨w4.heap.size + 1, 2, none⟩ (.slice ra3 m rc3)) (fun _ => True) ra2 rc2 xs) ∧ Cell3 (((w5.setCell ⟨w4.heap.size + 1, 0, none⟩ (.int .i64 b)).setCell ⟨w4.heap.size + 1, 1, none⟩ (.int .i64 bt)).setCell ⟨w4.heap.size + 1, 2, none⟩ (.slice ra3 m rc3)) (w4.heap.size + 1) (.int .i64 b) (.int .i64 bt) (.slice ra3 m rc3) ∧ EnsV (((w5.setCell ⟨w4.heap.size + 1, 0, none⟩ (.int .i64 b)).setCell ⟨w4.heap.size + 1, 1, none⟩ (.int .i64 bt)).setCell ⟨w4.heap.size + 1, 2, none⟩ (.slice ra3 m rc3)) (fun _ => True) ra3 rc3 xs) := ⟨HV.out _ (boxed_below H5.out.2.1 (Nat.le_refl _)), boxed (w0 := w) H5.out.2.2, boxed_ens H5.out.1 (fun g hg => ⟨by omega, trivial⟩)⟩; obtain ⟨W, hW⟩ : ∃ W, (((w5.setCell ⟨w4.heap.size + 1, 0, none⟩ (.int .i64 b)).setCell ⟨w4.heap.size + 1, 1, none⟩ (.int .i64 bt)).setCell ⟨w4.heap.size + 1, 2, none⟩ (.slice ra3 m rc3)) = W := ⟨_, rfl⟩; rw [hW] at HZZ ⊢; obtain ⟨zb, hzb⟩ : ∃ zb, w4.heap.size + 1 = zb := ⟨_, rfl⟩; rw [hzb] at HZZ ⊢; clear hW hzb)
      | (have := MB; have HZZ : Hid ((Below (w.heap.size + 1) (w.alloc (.cells #[.int .i64 b, .int .i64 bt, .slice a n c] 24)) (w5.alloc (.cells #[.int .i64 b, .int .i64 bt, .slice ra3 m rc3] 24)) ∧ Cell3 (w5.alloc (.cells #[.int .i64 b, .int .i64 bt, .slice ra3 m rc3] 24)) w3.heap.size (.int .i64 b) (.int .i64 bt) (.slice ra m rc) ∧ Cell3 (w5.alloc (.cells #[.int .i64 b, .int .i64 bt, .slice ra3 m rc3] 24)) w4.heap.size (.int .i64 b) (.int .i64 bt) (.slice ra2 m rc2) ∧ EnsV (w5.alloc (.cells #[.int .i64 b, .int .i64 bt, .slice ra3 m rc3] 24)) (fun _ => True) ra rc xs ∧ EnsV (w5.alloc (.cells #[.int .i64 b, .int .i64 bt, .slice ra3 m rc3] 24)) (fun _ => True) ra2 rc2 xs) ∧ Cell3 (w5.alloc (.cells #[.int .i64 b, .int .i64 bt, .slice ra3 m rc3] 24)) w5.heap.size (.int .i64 b) (.int .i64 bt) (.slice ra3 m rc3) ∧ EnsV (w5.alloc (.cells #[.int .i64 b, .int .i64 bt, .slice ra3 m rc3] 24)) (fun _ => True) ra3 rc3 xs) := ⟨HV.out _ (H5.out.2.alloc (by have := H5.out.2.size; rw [size_alloc] at this; exact this) _), Cell3.new w5 _ _ _ 24, (H5.out.1.all).alloc _⟩; obtain ⟨W, hW⟩ : ∃ W, (w5.alloc (.cells #[.int .i64 b, .int .i64 bt, .slice ra3 m rc3] 24)) = W := ⟨_, rfl⟩; rw [hW] at HZZ ⊢; obtain ⟨zb, hzb⟩ : ∃ zb, w5.heap.size = zb := ⟨_, rfl⟩; rw [hzb] at HZZ ⊢; clear hW hzb)
    clear H5 v0 v1 v2 v3
    obtain ⟨y0, y1, y2, y3⟩ := HZZ.out.1.2.1
    obtain ⟨y4, y5, y6, y7⟩ := HZZ.out.1.2.2.1
    obtain ⟨y8, y9, y10, y11⟩ := HZZ.out.2.1
    go_wp2_with (first
      | (go_at_call 10; refine (HW.out _).mono ?_; rintro e w9 ⟨rfl, HB⟩; have HZ : Hid (Below w.heap.size w w9) := (by first | exact (Bx1.at_ (Bx1.up Z2.out HB)).2); clear HB)
      | (go_at_call 14; first | (have := Z1; refine (HS.out _ _ _ _ _ Z1.out.1 Z1.out.2.1).mono ?_; rintro e w7 ⟨rfl, HB⟩; have Z2 : Hid (Below (w.heap.size + 1) (w.alloc (.cells #[.int .i64 b, .int .i64 bt, .slice a n c] 24)) w7) := Bx1.up Z1.out.2.2 HB; clear HB) | (refine (HS.out _ _ _ _ _ HZZ.out.1.2.2.2.1 HZZ.out.1.2.2.2.2).mono ?_; rintro e w6 ⟨rfl, HB⟩; have Z1 : Hid (EnsV w6 (fun _ => True) ra rc xs ∧ EnsV w6 (fun _ => True) ra3 rc3 xs ∧ Below (w.heap.size + 1) (w.alloc (.cells #[.int .i64 b, .int .i64 bt, .slice a n c] 24)) w6) := ⟨HZZ.out.1.2.2.2.1.below HB, HZZ.out.2.2.below HB, Bx1.up HZZ.out.1.1 HB⟩; obtain ⟨t0, t1, t2, t3⟩ := HZZ.out.1.2.1.below HB; obtain ⟨t4, t5, t6, t7⟩ := HZZ.out.2.1.below HB; clear HB)))
    go_ret
    exact ⟨rfl, HZ.out⟩)
theorem twice_walk (b bt : Int) (es : List En) (a : Option Addr) (c : Nat) (p t : Int) (r : List En) (a2 : Option Addr) (c2 : Nat) (so : Int) (w : World) (hb : InR b) (hbt : InR bt) (hE : EnsV w (fun _ => True) a c es) (hp : InR p) (ht : InR t) (hR : EnsV w (fun _ => True) a2 c2 r) (hso : InR so) : Calls Try.prog 8 #[.agg #[.int .i64 b, .int .i64 bt, .slice a es.length c], .int .i64 p, .int .i64 t, .slice a2 r.length c2, .int .i64 so] w fun e w' => e = .returned (.bool true) ∧ Below w.heap.size w w' := by
  cases hx : (putM b bt es p t r).2.2 with
  | false => exact twice_no b bt es a c p t r a2 c2 so w hb hbt hE hp ht hR hso hx
  | true => exact twice_yes b bt es a c p t r a2 c2 so w hb hbt hE hp ht hR hso hx
end Go.Proofs.Ytmpmbgjdbahmbaa
