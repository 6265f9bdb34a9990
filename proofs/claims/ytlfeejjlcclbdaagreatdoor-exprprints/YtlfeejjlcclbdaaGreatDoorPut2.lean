/-
  put: contracts.
-/
import Derived.Test.YtlfeejjlcclbdaaGreatDoorPut
import Derived.Test.YtlfeejjlcclbdaaGreatDoorSide
namespace Go.Proofs.YtlfeejjlcclbdaaGreatDoor
open Go.RowKit
set_option linter.unusedVariables false


def PutOk (d : Nat) : Prop := ∀ (t : Tr), checkM d t = 0 → ∀ (B : Nat) (l : Bs) (vb v : Value) (w : World), Pre w B vb v l t → l.length + (textT t).length ≤ 1099511627776 → Calls Tryz.prog 13 #[vb, v] w (PutP B w vb (l ++ textT t))
theorem side_of {d : Nat} (h : PutOk d) (t : Tr) (hc : checkM d t = 0) (B row : Nat) (l : Bs) (vb v : Value) (w : World) (hp : Pre w B vb v l t) (hl : l.length + (wrapT row t.kind (textT t)).length ≤ 1099511627776) :
    Calls Tryz.prog 24 #[vb, v, .int .i64 row] w (PutP B w vb (l ++ wrapT row t.kind (textT t))) := by
  obtain ⟨a, cap, rfl⟩ := hp.tre.four
  unfold wrapT at hl ⊢
  by_cases hr : row ≤ rowK t.kind
  · rw [if_pos hr] at hl ⊢
    exact side_plain B row t.kind t.n (ba t.name) a t.kids.length cap l (textT t) t vb w hr (fun w vb l hp hl => h t hc B l vb _ w hp hl) hp hl
  · rw [if_neg hr] at hl ⊢
    exact side_wrap B row t.kind t.n (ba t.name) a t.kids.length cap l (textT t) t vb w hr (fun w vb l hp hl => h t hc B l vb _ w hp hl) hp (by simpa using hl)
set_option maxRecDepth 100000 in
set_option maxHeartbeats 400000 in
theorem put_num (B u : Nat) (hu : u < 9223372036854775808) (s : ByteArray) (a : Option Addr) (ln c : Nat) (l : Bs) (t : Tr) (vb : Value) (w : World) (HW : Hid (Pre w B vb (.agg #[.int .i64 1, .int .i64 u, .string s, .slice a ln c]) l t)) (hl : l.length + (Lib.itoa u).length ≤ 1099511627776) :
    Calls Tryz.prog 13 #[vb, .agg #[.int .i64 1, .int .i64 u, .string s, .slice a ln c]] w (PutP B w vb (l ++ Lib.itoa u)) := by
  have HC : Hid (∀ w, Pre w B vb (.agg #[.int .i64 1, .int .i64 u, .string s, .slice a ln c]) l t → Calls Tryz.prog 23 #[vb, .int .i64 u, .int .i64 10] w (PutP B w vb (l ++ Lib.itoa u))) := fun w h => num_any B u hu l vb w h.own h.low (by omega) h.tab.here
  clear hl
  generalize l ++ Lib.itoa u = m at *
  go_enter Tryz.func13, Tryz.ntmps13
  go_wp2_with (go_at_call 23; refine (HC.out _ (HW.out.alloc _)).mono ?_; rintro e w1 ⟨v1, rfl, h1, h2⟩; have H1 : Hid (Ob w1 B v1 m ∧ Gro vb w w1 v1) := ⟨h1, ((Gro.refl vb w).alloc _).trans h2⟩; clear h1 h2)
  go_ret
  exact ⟨v1, rfl, H1.out⟩
set_option maxRecDepth 100000 in
set_option maxHeartbeats 400000 in
theorem put_yes (B : Nat) (n : Int) (s : ByteArray) (a : Option Addr) (ln c : Nat) (l : Bs) (t : Tr) (vb : Value) (w : World) (HW : Hid (Pre w B vb (.agg #[.int .i64 3, .int .i64 n, .string s, .slice a ln c]) l t)) (hl : l.length ≤ 1099511627776) :
    Calls Tryz.prog 13 #[vb, .agg #[.int .i64 3, .int .i64 n, .string s, .slice a ln c]] w (PutP B w vb (l ++ yesB)) := by
  have hl2 : l.length + yesB.length ≤ 140737488355328 := by
    have h3 : yesB.length ≤ 3 := by decide
    omega
  go_enter Tryz.func13, Tryz.ntmps13
  go_wp2_with (at_builtin; refine wpList_str_ob rfl (.tmp 23) (.const (.string ⟨#[121, 101, 115]⟩)) rfl B vb l yesB rfl (HW.out.own.alloc _) rfl hl2 (Nat.le_trans HW.out.low (le_alloc _ _)) ?_; intro v1 w1 h1 h2; have H1 : Hid (Ob w1 B v1 (l ++ yesB) ∧ Gro vb w w1 v1) := ⟨h1, ((Gro.refl vb w).alloc _).trans h2⟩; clear h1 h2)
  go_ret
  exact ⟨v1, rfl, H1.out⟩
set_option maxRecDepth 100000 in
set_option maxHeartbeats 400000 in
theorem put_no (B : Nat) (n : Int) (s : ByteArray) (a : Option Addr) (ln c : Nat) (l : Bs) (t : Tr) (vb : Value) (w : World) (HW : Hid (Pre w B vb (.agg #[.int .i64 4, .int .i64 n, .string s, .slice a ln c]) l t)) (hl : l.length ≤ 1099511627776) :
    Calls Tryz.prog 13 #[vb, .agg #[.int .i64 4, .int .i64 n, .string s, .slice a ln c]] w (PutP B w vb (l ++ noB)) := by
  have hl2 : l.length + noB.length ≤ 140737488355328 := by
    have h3 : noB.length ≤ 3 := by decide
    omega
  go_enter Tryz.func13, Tryz.ntmps13
  go_wp2_with (at_builtin; refine wpList_str_ob rfl (.tmp 27) (.const (.string ⟨#[110, 111]⟩)) rfl B vb l noB rfl (HW.out.own.alloc _) rfl hl2 (Nat.le_trans HW.out.low (le_alloc _ _)) ?_; intro v1 w1 h1 h2; have H1 : Hid (Ob w1 B v1 (l ++ noB) ∧ Gro vb w w1 v1) := ⟨h1, ((Gro.refl vb w).alloc _).trans h2⟩; clear h1 h2)
  go_ret
  exact ⟨v1, rfl, H1.out⟩
set_option maxRecDepth 100000 in
set_option maxHeartbeats 400000 in
theorem put_var (B : Nat) (n : Int) (m : Bs) (a : Option Addr) (ln c : Nat) (l : Bs) (t : Tr) (vb : Value) (w : World) (HW : Hid (Pre w B vb (.agg #[.int .i64 2, .int .i64 n, .string (ba m), .slice a ln c]) l t)) (hl : l.length + m.length ≤ 1099511627776) :
    Calls Tryz.prog 13 #[vb, .agg #[.int .i64 2, .int .i64 n, .string (ba m), .slice a ln c]] w (PutP B w vb (l ++ m)) := by
  have hl2 : l.length + m.length ≤ 140737488355328 := by omega
  go_enter Tryz.func13, Tryz.ntmps13
  go_wp2_with (at_builtin; refine wpList_str_ob rfl (.tmp 17) (.tmp 19) rfl B vb l m rfl (HW.out.own.alloc _) rfl hl2 (Nat.le_trans HW.out.low (le_alloc _ _)) ?_; intro v1 w1 h1 h2; have H1 : Hid (Ob w1 B v1 (l ++ m) ∧ Gro vb w w1 v1) := ⟨h1, ((Gro.refl vb w).alloc _).trans h2⟩; clear h1 h2)
  go_ret
  exact ⟨v1, rfl, H1.out⟩
set_option maxRecDepth 100000 in
set_option maxHeartbeats 1000000 in
theorem put_neg (B : Nat) (n : Int) (s : ByteArray) (b o c : Nat) (l m : Bs) (t x : Tr) (ka : Option Addr) (kc : Nat) (vb : Value) (w : World) (hc : 1 ≤ c)
    (HW : Hid (Pre w B vb (.agg #[.int .i64 5, .int .i64 n, .string s, .slice (some ⟨b, o, none⟩) 1 c]) l t)) (hb : b < B) (HK : Hid (KidAt w (fun g => g < B) (some ⟨b, o, none⟩) 0 x b o ka kc)) (hl : l.length + (m.length + 1) ≤ 1099511627776)
    (HS : Hid (∀ w vb l, Pre w B vb (.agg #[.int .i64 x.kind, .int .i64 x.n, .string (ba x.name), .slice ka x.kids.length kc]) l x → l.length + m.length ≤ 1099511627776 → Calls Tryz.prog 24 #[vb, .agg #[.int .i64 x.kind, .int .i64 x.n, .string (ba x.name), .slice ka x.kids.length kc], .int .i64 6] w (PutP B w vb (l ++ m)))) :
    Calls Tryz.prog 13 #[vb, .agg #[.int .i64 5, .int .i64 n, .string s, .slice (some ⟨b, o, none⟩) 1 c]] w (PutP B w vb (l ++ (45 :: m))) := by
  have H0 : Hid (Pre (w.alloc (.cells #[.int .i64 5, .int .i64 n, .string s, .slice (some ⟨b, o, none⟩) 1 c] 24)) B vb (.agg #[.int .i64 5, .int .i64 n, .string s, .slice (some ⟨b, o, none⟩) 1 c]) l t ∧ Box (w.alloc (.cells #[.int .i64 5, .int .i64 n, .string s, .slice (some ⟨b, o, none⟩) 1 c] 24)) w.heap.size (.int .i64 5) (.int .i64 n) (.string s) (.slice (some ⟨b, o, none⟩) 1 c) ∧ some w.heap.size ≠ vb.ownBlock ∧ Gro vb w (w.alloc (.cells #[.int .i64 5, .int .i64 n, .string s, .slice (some ⟨b, o, none⟩) 1 c] 24)) vb ∧ KidAt (w.alloc (.cells #[.int .i64 5, .int .i64 n, .string s, .slice (some ⟨b, o, none⟩) 1 c] 24)) (fun g => g < B) (some ⟨b, o, none⟩) 0 x b o ka kc) :=
    ⟨HW.out.alloc _, Box.new _ _ _ _ _, own_ne HW.out.own, (Gro.refl vb w).alloc _, HK.out.belowB hb ((Below.refl _ _).alloc HW.out.low _)⟩
  go_enter Tryz.func13, Tryz.ntmps13
  go_wp2_with fail
  generalize w.alloc (.cells #[.int .i64 5, .int .i64 n, .string s, .slice (some ⟨b, o, none⟩) 1 c] 24) = w0 at *
  generalize hb0 : w.heap.size = b0 at *
  obtain ⟨b1, b2, b3, b4, b5⟩ := H0.out.2.1.cells
  have hbl : b < w0.heap.size := Nat.lt_of_lt_of_le hb H0.out.1.low
  have hb0' : b0 < w0.heap.size := H0.out.2.1.lt
  have HX : Hid (∀ w' v', Gro vb w0 w' v' → w'.cell? ⟨b0, 0, none⟩ = some (.int .i64 5) ∧ w'.cell? ⟨b0, 3, none⟩ = some (.slice (some ⟨b, o, none⟩) 1 c) ∧ w'.cell? ⟨b, o, none⟩ = some (.int .i64 x.kind) ∧ w'.cell? ⟨b, o + 1, none⟩ = some (.int .i64 x.n) ∧ w'.cell? ⟨b, o + 2, none⟩ = some (.string (ba x.name)) ∧ w'.cell? ⟨b, o + 3, none⟩ = some (.slice ka x.kids.length kc)) := fun w' v' hg => by
    have h1 := (H0.out.2.1.gro hg H0.out.2.2.1).cells
    have h2 := H0.out.2.2.2.2.belowB hb (H0.out.1.own.bel H0.out.1.low hg)
    have e0 := h2.c0; have e1 := h2.c1; have e2 := h2.c2; have e3 := h2.c3
    rw [Nat.zero_mul, Nat.add_zero] at e0 e1 e2 e3
    exact ⟨h1.c0, h1.c3, e0, e1, e2, e3⟩
  obtain ⟨_, _, c0, c1, c2, c3⟩ := HX.out _ _ (Gro.refl vb w0)
  have HT : Hid (∀ w' v', Gro vb w0 w' v' → Tre w' (fun g => g < B) (.agg #[.int .i64 x.kind, .int .i64 x.n, .string (ba x.name), .slice ka x.kids.length kc]) x) := fun w' v' hg => H0.out.2.2.2.2.tre.belowB (H0.out.1.own.bel H0.out.1.low hg)
  have HM0 : Hid True := trivial
  have hL1 : l.length + [(45 : UInt8)].length ≤ 140737488355328 := by simp; omega
  have hL2 : (l ++ [(45 : UInt8)]).length + m.length ≤ 1099511627776 := by simp; omega
  generalize x.kind = xk at *
  generalize x.n = xn at *
  generalize ba x.name = xs at *
  generalize x.kids.length = xl at *
  go_region_held3 (fun w' => w'.cell? ⟨b0, 0, none⟩ = some (.int .i64 5) ∧ w'.cell? ⟨b0, 3, none⟩ = some (.slice (some ⟨b, o, none⟩) 1 c) ∧ w'.cell? ⟨b, o, none⟩ = some (.int .i64 xk) ∧ w'.cell? ⟨b, o + 1, none⟩ = some (.int .i64 xn) ∧ w'.cell? ⟨b, o + 2, none⟩ = some (.string xs) ∧ w'.cell? ⟨b, o + 3, none⟩ = some (.slice ka xl kc)) (go_keep) (first
    | (go_at_call 24; have := HA; refine (HS.out _ v1 (l ++ [45]) HA.out.1 hL2).mono ?_; rintro e w2 ⟨v2, rfl, h1, h2⟩; have HF : Hid (Ob w2 B v2 (l ++ [45] ++ m) ∧ Gro vb w0 w2 v2) := ⟨h1, HA.out.2.trans h2⟩; obtain ⟨y0, y1, y2, y3, y4, y5⟩ := HX.out _ _ HF.out.2; clear h1 h2 HA)
    | (have := HM0; refine step_add_ob rfl (.tmp 32) (.tmp 37) rfl B vb l [45] rfl (H0.out.1.own.alloc _).drew w0.heap.size 1 rfl (Byte1.new w0 45).drew.news hL1 (Nat.le_trans H0.out.1.low (le_alloc _ _)) ?_; intro v1 w1 h1 h2; have hg : Gro vb w0 w1 v1 := ((Gro.refl vb w0).alloc _).drew.trans h2; have HA : Hid (Pre w1 B v1 (.agg #[.int .i64 xk, .int .i64 xn, .string xs, .slice ka xl kc]) (l ++ [45]) x ∧ Gro vb w0 w1 v1) := ⟨⟨HT.out _ _ hg, h1, Nat.le_trans H0.out.1.low hg.size, H0.out.1.tab.on (H0.out.1.own.bel H0.out.1.low hg)⟩, hg⟩; obtain ⟨z0, z1, z2, z3, z4, z5⟩ := HX.out _ _ HA.out.2; clear h1 h2 hg HM0))
  all_goals go_wp2
  all_goals go_ret
  all_goals
    have e1 : l ++ (45 :: m) = l ++ [45] ++ m := by simp
    rw [e1]
    exact ⟨v2, rfl, HF.out.1, H0.out.2.2.2.1.trans HF.out.2⟩
set_option maxRecDepth 100000 in
set_option maxHeartbeats 1000000 in
theorem put_not (B : Nat) (n : Int) (s : ByteArray) (b o c : Nat) (l m : Bs) (t x : Tr) (ka : Option Addr) (kc : Nat) (vb : Value) (w : World) (hc : 1 ≤ c)
    (HW : Hid (Pre w B vb (.agg #[.int .i64 6, .int .i64 n, .string s, .slice (some ⟨b, o, none⟩) 1 c]) l t)) (hb : b < B) (HK : Hid (KidAt w (fun g => g < B) (some ⟨b, o, none⟩) 0 x b o ka kc)) (hl : l.length + (m.length + 1) ≤ 1099511627776)
    (HS : Hid (∀ w vb l, Pre w B vb (.agg #[.int .i64 x.kind, .int .i64 x.n, .string (ba x.name), .slice ka x.kids.length kc]) l x → l.length + m.length ≤ 1099511627776 → Calls Tryz.prog 24 #[vb, .agg #[.int .i64 x.kind, .int .i64 x.n, .string (ba x.name), .slice ka x.kids.length kc], .int .i64 6] w (PutP B w vb (l ++ m)))) :
    Calls Tryz.prog 13 #[vb, .agg #[.int .i64 6, .int .i64 n, .string s, .slice (some ⟨b, o, none⟩) 1 c]] w (PutP B w vb (l ++ (33 :: m))) := by
  have H0 : Hid (Pre (w.alloc (.cells #[.int .i64 6, .int .i64 n, .string s, .slice (some ⟨b, o, none⟩) 1 c] 24)) B vb (.agg #[.int .i64 6, .int .i64 n, .string s, .slice (some ⟨b, o, none⟩) 1 c]) l t ∧ Box (w.alloc (.cells #[.int .i64 6, .int .i64 n, .string s, .slice (some ⟨b, o, none⟩) 1 c] 24)) w.heap.size (.int .i64 6) (.int .i64 n) (.string s) (.slice (some ⟨b, o, none⟩) 1 c) ∧ some w.heap.size ≠ vb.ownBlock ∧ Gro vb w (w.alloc (.cells #[.int .i64 6, .int .i64 n, .string s, .slice (some ⟨b, o, none⟩) 1 c] 24)) vb ∧ KidAt (w.alloc (.cells #[.int .i64 6, .int .i64 n, .string s, .slice (some ⟨b, o, none⟩) 1 c] 24)) (fun g => g < B) (some ⟨b, o, none⟩) 0 x b o ka kc) :=
    ⟨HW.out.alloc _, Box.new _ _ _ _ _, own_ne HW.out.own, (Gro.refl vb w).alloc _, HK.out.belowB hb ((Below.refl _ _).alloc HW.out.low _)⟩
  go_enter Tryz.func13, Tryz.ntmps13
  go_wp2_with fail
  generalize w.alloc (.cells #[.int .i64 6, .int .i64 n, .string s, .slice (some ⟨b, o, none⟩) 1 c] 24) = w0 at *
  generalize hb0 : w.heap.size = b0 at *
  obtain ⟨b1, b2, b3, b4, b5⟩ := H0.out.2.1.cells
  have hbl : b < w0.heap.size := Nat.lt_of_lt_of_le hb H0.out.1.low
  have hb0' : b0 < w0.heap.size := H0.out.2.1.lt
  have HX : Hid (∀ w' v', Gro vb w0 w' v' → w'.cell? ⟨b0, 0, none⟩ = some (.int .i64 6) ∧ w'.cell? ⟨b0, 3, none⟩ = some (.slice (some ⟨b, o, none⟩) 1 c) ∧ w'.cell? ⟨b, o, none⟩ = some (.int .i64 x.kind) ∧ w'.cell? ⟨b, o + 1, none⟩ = some (.int .i64 x.n) ∧ w'.cell? ⟨b, o + 2, none⟩ = some (.string (ba x.name)) ∧ w'.cell? ⟨b, o + 3, none⟩ = some (.slice ka x.kids.length kc)) := fun w' v' hg => by
    have h1 := (H0.out.2.1.gro hg H0.out.2.2.1).cells
    have h2 := H0.out.2.2.2.2.belowB hb (H0.out.1.own.bel H0.out.1.low hg)
    have e0 := h2.c0; have e1 := h2.c1; have e2 := h2.c2; have e3 := h2.c3
    rw [Nat.zero_mul, Nat.add_zero] at e0 e1 e2 e3
    exact ⟨h1.c0, h1.c3, e0, e1, e2, e3⟩
  obtain ⟨_, _, c0, c1, c2, c3⟩ := HX.out _ _ (Gro.refl vb w0)
  have HT : Hid (∀ w' v', Gro vb w0 w' v' → Tre w' (fun g => g < B) (.agg #[.int .i64 x.kind, .int .i64 x.n, .string (ba x.name), .slice ka x.kids.length kc]) x) := fun w' v' hg => H0.out.2.2.2.2.tre.belowB (H0.out.1.own.bel H0.out.1.low hg)
  have HM0 : Hid True := trivial
  have hL1 : l.length + [(33 : UInt8)].length ≤ 140737488355328 := by simp; omega
  have hL2 : (l ++ [(33 : UInt8)]).length + m.length ≤ 1099511627776 := by simp; omega
  generalize x.kind = xk at *
  generalize x.n = xn at *
  generalize ba x.name = xs at *
  generalize x.kids.length = xl at *
  go_region_held3 (fun w' => w'.cell? ⟨b0, 0, none⟩ = some (.int .i64 6) ∧ w'.cell? ⟨b0, 3, none⟩ = some (.slice (some ⟨b, o, none⟩) 1 c) ∧ w'.cell? ⟨b, o, none⟩ = some (.int .i64 xk) ∧ w'.cell? ⟨b, o + 1, none⟩ = some (.int .i64 xn) ∧ w'.cell? ⟨b, o + 2, none⟩ = some (.string xs) ∧ w'.cell? ⟨b, o + 3, none⟩ = some (.slice ka xl kc)) (go_keep) (first
    | (go_at_call 24; have := HA; refine (HS.out _ v1 (l ++ [33]) HA.out.1 hL2).mono ?_; rintro e w2 ⟨v2, rfl, h1, h2⟩; have HF : Hid (Ob w2 B v2 (l ++ [33] ++ m) ∧ Gro vb w0 w2 v2) := ⟨h1, HA.out.2.trans h2⟩; obtain ⟨y0, y1, y2, y3, y4, y5⟩ := HX.out _ _ HF.out.2; clear h1 h2 HA)
    | (have := HM0; refine step_add_ob rfl (.tmp 32) (.tmp 37) rfl B vb l [33] rfl (H0.out.1.own.alloc _).drew w0.heap.size 1 rfl (Byte1.new w0 33).drew.news hL1 (Nat.le_trans H0.out.1.low (le_alloc _ _)) ?_; intro v1 w1 h1 h2; have hg : Gro vb w0 w1 v1 := ((Gro.refl vb w0).alloc _).drew.trans h2; have HA : Hid (Pre w1 B v1 (.agg #[.int .i64 xk, .int .i64 xn, .string xs, .slice ka xl kc]) (l ++ [33]) x ∧ Gro vb w0 w1 v1) := ⟨⟨HT.out _ _ hg, h1, Nat.le_trans H0.out.1.low hg.size, H0.out.1.tab.on (H0.out.1.own.bel H0.out.1.low hg)⟩, hg⟩; obtain ⟨z0, z1, z2, z3, z4, z5⟩ := HX.out _ _ HA.out.2; clear h1 h2 hg HM0))
  all_goals go_wp2
  all_goals go_ret
  all_goals
    have e1 : l ++ (33 :: m) = l ++ [33] ++ m := by simp
    rw [e1]
    exact ⟨v2, rfl, HF.out.1, H0.out.2.2.2.1.trans HF.out.2⟩
theorem news3 (w : World) (x : UInt8) : ∀ j u, (Lib.byteCells [32, x, 32])[j]? = some u → (w.alloc (.cells #[.int .u8 32, .int .u8 x.toNat, .int .u8 32] 5)).cell? ⟨w.heap.size, j, none⟩ = some u := by
  intro j u hj
  rw [cell_of_row _ _ _ _ 5 (0, 0) (heap_alloc_new w _)]
  rw [← hj]
  simp [Lib.byteCells]
theorem sign_7 (w : World) : (Instr.index 9 (.string ⟨#[45, 33, 43, 45, 42, 47, 61, 60, 38, 124]⟩) (.int .i64 (7 - 5))).run Tryz.prog w = .ok (.int .u8 (signB 7).toNat) w := by kernel_rfl
theorem sign_8 (w : World) : (Instr.index 9 (.string ⟨#[45, 33, 43, 45, 42, 47, 61, 60, 38, 124]⟩) (.int .i64 (8 - 5))).run Tryz.prog w = .ok (.int .u8 (signB 8).toNat) w := by kernel_rfl
theorem sign_9 (w : World) : (Instr.index 9 (.string ⟨#[45, 33, 43, 45, 42, 47, 61, 60, 38, 124]⟩) (.int .i64 (9 - 5))).run Tryz.prog w = .ok (.int .u8 (signB 9).toNat) w := by kernel_rfl
theorem sign_10 (w : World) : (Instr.index 9 (.string ⟨#[45, 33, 43, 45, 42, 47, 61, 60, 38, 124]⟩) (.int .i64 (10 - 5))).run Tryz.prog w = .ok (.int .u8 (signB 10).toNat) w := by kernel_rfl
theorem sign_11 (w : World) : (Instr.index 9 (.string ⟨#[45, 33, 43, 45, 42, 47, 61, 60, 38, 124]⟩) (.int .i64 (11 - 5))).run Tryz.prog w = .ok (.int .u8 (signB 11).toNat) w := by kernel_rfl
theorem sign_12 (w : World) : (Instr.index 9 (.string ⟨#[45, 33, 43, 45, 42, 47, 61, 60, 38, 124]⟩) (.int .i64 (12 - 5))).run Tryz.prog w = .ok (.int .u8 (signB 12).toNat) w := by kernel_rfl
theorem sign_13 (w : World) : (Instr.index 9 (.string ⟨#[45, 33, 43, 45, 42, 47, 61, 60, 38, 124]⟩) (.int .i64 (13 - 5))).run Tryz.prog w = .ok (.int .u8 (signB 13).toNat) w := by kernel_rfl
theorem sign_14 (w : World) : (Instr.index 9 (.string ⟨#[45, 33, 43, 45, 42, 47, 61, 60, 38, 124]⟩) (.int .i64 (14 - 5))).run Tryz.prog w = .ok (.int .u8 (signB 14).toNat) w := by kernel_rfl
theorem sign_index (k : Int) (h1 : 7 ≤ k) (h2 : k ≤ 14) (w : World) : (Instr.index 9 (.string ⟨#[45, 33, 43, 45, 42, 47, 61, 60, 38, 124]⟩) (.int .i64 (k - 5))).run Tryz.prog w = .ok (.int .u8 (signB k).toNat) w := by
  have hk : k = 7 ∨ k = 8 ∨ k = 9 ∨ k = 10 ∨ k = 11 ∨ k = 12 ∨ k = 13 ∨ k = 14 := by omega
  clear h1 h2
  rcases hk with h | h | h | h | h | h | h | h
  · rw [h]; exact sign_7 w
  · rw [h]; exact sign_8 w
  · rw [h]; exact sign_9 w
  · rw [h]; exact sign_10 w
  · rw [h]; exact sign_11 w
  · rw [h]; exact sign_12 w
  · rw [h]; exact sign_13 w
  · rw [h]; exact sign_14 w
set_option maxRecDepth 100000 in
set_option maxHeartbeats 1000000 in
theorem put_bin (B : Nat) (k n : Int) (h7 : 7 ≤ k) (h14 : k ≤ 14) (s : ByteArray) (b o c : Nat) (l m m2 : Bs) (t x y : Tr) (ka : Option Addr) (kc : Nat) (ja : Option Addr) (jc : Nat) (vb : Value) (w : World) (hc : 2 ≤ c)
    (HW : Hid (Pre w B vb (.agg #[.int .i64 k, .int .i64 n, .string s, .slice (some ⟨b, o, none⟩) 2 c]) l t)) (hb : b < B) (HK : Hid (KidAt w (fun g => g < B) (some ⟨b, o, none⟩) 0 x b o ka kc)) (HJ : Hid (KidAt w (fun g => g < B) (some ⟨b, o, none⟩) 1 y b o ja jc)) (hl : l.length + (m.length + 3 + m2.length) ≤ 1099511627776)
    (HS : Hid (∀ w vb l, Pre w B vb (.agg #[.int .i64 x.kind, .int .i64 x.n, .string (ba x.name), .slice ka x.kids.length kc]) l x → l.length + m.length ≤ 1099511627776 → Calls Tryz.prog 24 #[vb, .agg #[.int .i64 x.kind, .int .i64 x.n, .string (ba x.name), .slice ka x.kids.length kc], .int .i64 (leftK k)] w (PutP B w vb (l ++ m))))
    (HS2 : Hid (∀ w vb l, Pre w B vb (.agg #[.int .i64 y.kind, .int .i64 y.n, .string (ba y.name), .slice ja y.kids.length jc]) l y → l.length + m2.length ≤ 1099511627776 → Calls Tryz.prog 24 #[vb, .agg #[.int .i64 y.kind, .int .i64 y.n, .string (ba y.name), .slice ja y.kids.length jc], .int .i64 ((rowK k : Int) + 1)] w (PutP B w vb (l ++ m2)))) :
    Calls Tryz.prog 13 #[vb, .agg #[.int .i64 k, .int .i64 n, .string s, .slice (some ⟨b, o, none⟩) 2 c]] w (PutP B w vb (l ++ (m ++ [32, signB k, 32] ++ m2))) := by
  have HC : Hid (∀ w, Calls Tryz.prog 25 #[.int .i64 k] w fun e w' => e = .returned (.int .i64 (rowK k)) ∧ w' = w) := fun w => row_any k w
  have H0 : Hid (Pre (w.alloc (.cells #[.int .i64 k, .int .i64 n, .string s, .slice (some ⟨b, o, none⟩) 2 c] 24)) B vb (.agg #[.int .i64 k, .int .i64 n, .string s, .slice (some ⟨b, o, none⟩) 2 c]) l t ∧ Box (w.alloc (.cells #[.int .i64 k, .int .i64 n, .string s, .slice (some ⟨b, o, none⟩) 2 c] 24)) w.heap.size (.int .i64 k) (.int .i64 n) (.string s) (.slice (some ⟨b, o, none⟩) 2 c) ∧ some w.heap.size ≠ vb.ownBlock ∧ Gro vb w (w.alloc (.cells #[.int .i64 k, .int .i64 n, .string s, .slice (some ⟨b, o, none⟩) 2 c] 24)) vb ∧ KidAt (w.alloc (.cells #[.int .i64 k, .int .i64 n, .string s, .slice (some ⟨b, o, none⟩) 2 c] 24)) (fun g => g < B) (some ⟨b, o, none⟩) 0 x b o ka kc ∧ KidAt (w.alloc (.cells #[.int .i64 k, .int .i64 n, .string s, .slice (some ⟨b, o, none⟩) 2 c] 24)) (fun g => g < B) (some ⟨b, o, none⟩) 1 y b o ja jc) :=
    ⟨HW.out.alloc _, Box.new _ _ _ _ _, own_ne HW.out.own, (Gro.refl vb w).alloc _, HK.out.belowB hb ((Below.refl _ _).alloc HW.out.low _), HJ.out.belowB hb ((Below.refl _ _).alloc HW.out.low _)⟩
  have hix := sign_index k h7 h14
  have hrk := rowK_le k.toNat (by omega) (by omega) (by omega)
  have hkn : ((k.toNat : Nat) : Int) = k := by omega
  rw [hkn] at hrk
  clear hkn
  have HX : Hid (∀ w' v', Gro vb (w.alloc (.cells #[.int .i64 k, .int .i64 n, .string s, .slice (some ⟨b, o, none⟩) 2 c] 24)) w' v' → w'.cell? ⟨w.heap.size, 0, none⟩ = some (.int .i64 k) ∧ w'.cell? ⟨w.heap.size, 3, none⟩ = some (.slice (some ⟨b, o, none⟩) 2 c) ∧ w'.cell? ⟨b, o, none⟩ = some (.int .i64 x.kind) ∧ w'.cell? ⟨b, o + 1, none⟩ = some (.int .i64 x.n) ∧ w'.cell? ⟨b, o + 2, none⟩ = some (.string (ba x.name)) ∧ w'.cell? ⟨b, o + 3, none⟩ = some (.slice ka x.kids.length kc)
      ∧ w'.cell? ⟨b, o + 4, none⟩ = some (.int .i64 y.kind) ∧ w'.cell? ⟨b, o + 4 + 1, none⟩ = some (.int .i64 y.n) ∧ w'.cell? ⟨b, o + 4 + 2, none⟩ = some (.string (ba y.name)) ∧ w'.cell? ⟨b, o + 4 + 3, none⟩ = some (.slice ja y.kids.length jc)) := fun w' v' hg => by
    have h1 := (H0.out.2.1.gro hg H0.out.2.2.1).cells
    have h2 := H0.out.2.2.2.2.1.belowB hb (H0.out.1.own.bel H0.out.1.low hg)
    have h3 := H0.out.2.2.2.2.2.belowB hb (H0.out.1.own.bel H0.out.1.low hg)
    have e0 := h2.c0; have e1 := h2.c1; have e2 := h2.c2; have e3 := h2.c3
    rw [Nat.zero_mul, Nat.add_zero] at e0 e1 e2 e3
    have f0 := h3.c0; have f1 := h3.c1; have f2 := h3.c2; have f3 := h3.c3
    rw [Nat.one_mul] at f0 f1 f2 f3
    exact ⟨h1.c0, h1.c3, e0, e1, e2, e3, f0, f1, f2, f3⟩
  have HT : Hid (∀ w' v' m, Ob w' B v' m → Gro vb (w.alloc (.cells #[.int .i64 k, .int .i64 n, .string s, .slice (some ⟨b, o, none⟩) 2 c] 24)) w' v' → Pre w' B v' (.agg #[.int .i64 x.kind, .int .i64 x.n, .string (ba x.name), .slice ka x.kids.length kc]) m x ∧ Pre w' B v' (.agg #[.int .i64 y.kind, .int .i64 y.n, .string (ba y.name), .slice ja y.kids.length jc]) m y ∧ B ≤ w'.heap.size) := fun w' v' m ho hg => by
    have hB := H0.out.1.own.bel H0.out.1.low hg
    have hs := Nat.le_trans H0.out.1.low hg.size
    exact ⟨⟨H0.out.2.2.2.2.1.tre.belowB hB, ho, hs, H0.out.1.tab.on hB⟩, ⟨H0.out.2.2.2.2.2.tre.belowB hB, ho, hs, H0.out.1.tab.on hB⟩, hs⟩
  obtain ⟨b1, b2, c0, c1, c2, c3, d0, d1, d2, d3⟩ := HX.out _ _ (Gro.refl vb _)
  have HP0 : Hid (Pre (w.alloc (.cells #[.int .i64 k, .int .i64 n, .string s, .slice (some ⟨b, o, none⟩) 2 c] 24)) B vb (.agg #[.int .i64 x.kind, .int .i64 x.n, .string (ba x.name), .slice ka x.kids.length kc]) l x) := (HT.out _ _ l H0.out.1.own (Gro.refl vb _)).1
  have hL1 : l.length + m.length ≤ 1099511627776 := by omega
  have hL2 : (l ++ m).length + [(32 : UInt8), signB k, 32].length ≤ 140737488355328 := by simp; omega
  have hL3 : (l ++ m ++ [(32 : UInt8), signB k, 32]).length + m2.length ≤ 1099511627776 := by simp; omega
  have HG0 : Hid (Gro vb w (w.alloc (.cells #[.int .i64 k, .int .i64 n, .string s, .slice (some ⟨b, o, none⟩) 2 c] 24)) vb) := H0.out.2.2.2.1
  have hleft : leftK k = if rowK k = 3 then 4 else rowK k := rfl
  generalize x.kind = xk at *
  generalize x.n = xn at *
  generalize ba x.name = xs at *
  generalize x.kids.length = xl at *
  generalize y.kind = yk at *
  generalize y.n = yn at *
  generalize ba y.name = ys at *
  generalize y.kids.length = yl at *
  generalize leftK k = lk at *
  generalize rowK k = rk at *
  generalize hsg : signB k = sg at *
  by_cases hr3 : rk = 3
  · rw [if_pos hr3] at hleft
    subst hr3; subst hleft
    go_enter Tryz.func13, Tryz.ntmps13
    go_wp2_with (first
      | (go_at_call 24; have := HR2; refine (HS2.out _ v3 (l ++ m ++ [32, sg, 32]) HR2.out.2 hL3).mono ?_; rintro e w4 ⟨v4, rfl, h1, h2⟩; have HF : Hid (Ob w4 B v4 (l ++ m ++ [32, sg, 32] ++ m2) ∧ Gro vb w w4 v4) := ⟨h1, HG0.out.trans (HR2.out.1.2.trans h2)⟩; clear h1 h2 HR2)
      | (go_at_call 24; have := HP0; refine (HS.out _ vb l HP0.out hL1).mono ?_; rintro e w2 ⟨v2, rfl, h1, h2⟩; have HR1 : Hid (Ob w2 B v2 (l ++ m) ∧ Gro vb (w.alloc (.cells #[.int .i64 k, .int .i64 n, .string s, .slice (some ⟨b, o, none⟩) 2 c] 24)) w2 v2) := ⟨h1, h2⟩; obtain ⟨z0, z1, z2, z3, z4, z5, z6, z7, z8, z9⟩ := HX.out _ _ h2; have hw2 : w.heap.size < w2.heap.size := World.block_lt_of_cell? w2 _ z0; clear h1 h2 HP0)
      | (at_builtin; have := HR1; refine wpList_add_ob rfl (.tmp 59) (.tmp 64) rfl B v2 (l ++ m) [32, sg, 32] rfl (HR1.out.1.alloc _) w2.heap.size 3 rfl (news3 w2 sg) hL2 (Nat.le_trans (HT.out _ _ _ HR1.out.1 HR1.out.2).2.2 (le_alloc _ _)) ?_; intro v3 w3 h1 h2; have hg : Gro vb (w.alloc (.cells #[.int .i64 k, .int .i64 n, .string s, .slice (some ⟨b, o, none⟩) 2 c] 24)) w3 v3 := (HR1.out.2.alloc _).trans h2; have HR2 : Hid ((Ob w3 B v3 (l ++ m ++ [32, sg, 32]) ∧ Gro vb (w.alloc (.cells #[.int .i64 k, .int .i64 n, .string s, .slice (some ⟨b, o, none⟩) 2 c] 24)) w3 v3) ∧ Pre w3 B v3 (.agg #[.int .i64 yk, .int .i64 yn, .string ys, .slice ja yl jc]) (l ++ m ++ [32, sg, 32]) y) := ⟨⟨h1, hg⟩, (HT.out _ _ _ h1 hg).2.1⟩; obtain ⟨t0, t1, t2, t3, t4, t5, t6, t7, t8, t9⟩ := HX.out _ _ hg; clear h1 h2 hg HR1)
      | (go_at_call 25; refine (HC.out _).mono ?_; rintro e w4 ⟨rfl, h4⟩; rw [h4]; clear h4))
    go_ret
    have e1 : l ++ (m ++ [32, sg, 32] ++ m2) = l ++ m ++ [32, sg, 32] ++ m2 := by simp
    rw [e1]
    exact ⟨v4, rfl, HF.out⟩
  · rw [if_neg hr3] at hleft
    subst hleft
    have hr4 : ((lk : Int) == 3) = false := by simp; omega
    go_enter Tryz.func13, Tryz.ntmps13
    go_wp2_with (first
      | (go_at_call 24; have := HR2; refine (HS2.out _ v3 (l ++ m ++ [32, sg, 32]) HR2.out.2 hL3).mono ?_; rintro e w4 ⟨v4, rfl, h1, h2⟩; have HF : Hid (Ob w4 B v4 (l ++ m ++ [32, sg, 32] ++ m2) ∧ Gro vb w w4 v4) := ⟨h1, HG0.out.trans (HR2.out.1.2.trans h2)⟩; clear h1 h2 HR2)
      | (go_at_call 24; have := HP0; refine (HS.out _ vb l HP0.out hL1).mono ?_; rintro e w2 ⟨v2, rfl, h1, h2⟩; have HR1 : Hid (Ob w2 B v2 (l ++ m) ∧ Gro vb (w.alloc (.cells #[.int .i64 k, .int .i64 n, .string s, .slice (some ⟨b, o, none⟩) 2 c] 24)) w2 v2) := ⟨h1, h2⟩; obtain ⟨z0, z1, z2, z3, z4, z5, z6, z7, z8, z9⟩ := HX.out _ _ h2; have hw2 : w.heap.size < w2.heap.size := World.block_lt_of_cell? w2 _ z0; clear h1 h2 HP0)
      | (at_builtin; have := HR1; refine wpList_add_ob rfl (.tmp 59) (.tmp 64) rfl B v2 (l ++ m) [32, sg, 32] rfl (HR1.out.1.alloc _) w2.heap.size 3 rfl (news3 w2 sg) hL2 (Nat.le_trans (HT.out _ _ _ HR1.out.1 HR1.out.2).2.2 (le_alloc _ _)) ?_; intro v3 w3 h1 h2; have hg : Gro vb (w.alloc (.cells #[.int .i64 k, .int .i64 n, .string s, .slice (some ⟨b, o, none⟩) 2 c] 24)) w3 v3 := (HR1.out.2.alloc _).trans h2; have HR2 : Hid ((Ob w3 B v3 (l ++ m ++ [32, sg, 32]) ∧ Gro vb (w.alloc (.cells #[.int .i64 k, .int .i64 n, .string s, .slice (some ⟨b, o, none⟩) 2 c] 24)) w3 v3) ∧ Pre w3 B v3 (.agg #[.int .i64 yk, .int .i64 yn, .string ys, .slice ja yl jc]) (l ++ m ++ [32, sg, 32]) y) := ⟨⟨h1, hg⟩, (HT.out _ _ _ h1 hg).2.1⟩; obtain ⟨t0, t1, t2, t3, t4, t5, t6, t7, t8, t9⟩ := HX.out _ _ hg; clear h1 h2 hg HR1)
      | (go_at_call 25; refine (HC.out _).mono ?_; rintro e w4 ⟨rfl, h4⟩; rw [h4]; clear h4))
    go_ret
    have e1 : l ++ (m ++ [32, sg, 32] ++ m2) = l ++ m ++ [32, sg, 32] ++ m2 := by simp
    rw [e1]
    exact ⟨v4, rfl, HF.out⟩
theorem put_zero : PutOk 0 := fun t h => absurd h (by show ¬ (6 : Nat) = 0; decide)
theorem put_succ (d : Nat) (ih : PutOk d) : PutOk (d + 1) := by
  intro t hc B l vb v w hp hl
  obtain ⟨hf, hk⟩ := check_parts hc
  obtain ⟨a, cap, rfl, hcap, hrk, hrn, hkids⟩ := hp.tre.kidB
  have hk2 := hf.kids
  have HP := hp
  rw [textT_eq] at hl ⊢
  have h1 := hf.lo; have h2 := hf.hi
  by_cases e1 : t.kind = 1
  · obtain ⟨u, hu⟩ : ∃ u : Nat, t.n = u := ⟨t.n.toNat, by have := hf.n0; omega⟩
    have hu2 : u < 9223372036854775808 := by have := hrn.2; omega
    have e : nodeT t.kind t.n t.name (textT.textsT t.kids) = Lib.itoa u := by unfold nodeT; rw [if_pos e1, hu]
    rw [e] at hl ⊢
    rw [e1, hu] at HP ⊢
    exact put_num B u hu2 _ a _ cap l t vb w HP hl
  by_cases e2 : t.kind = 2
  · have e : nodeT t.kind t.n t.name (textT.textsT t.kids) = t.name := by unfold nodeT; rw [if_neg e1, if_pos e2]
    rw [e] at hl ⊢
    rw [e2] at HP ⊢
    exact put_var B _ _ a _ cap l t vb w HP hl
  by_cases e3 : t.kind = 3
  · have e : nodeT t.kind t.n t.name (textT.textsT t.kids) = yesB := by unfold nodeT; rw [if_neg e1, if_neg e2, if_pos e3]
    rw [e] at hl ⊢
    rw [e3] at HP ⊢
    exact put_yes B _ _ a _ cap l t vb w HP (by omega)
  by_cases e4 : t.kind = 4
  · have e : nodeT t.kind t.n t.name (textT.textsT t.kids) = noB := by unfold nodeT; rw [if_neg e1, if_neg e2, if_neg e3, if_pos e4]
    rw [e] at hl ⊢
    rw [e4] at HP ⊢
    exact put_no B _ _ a _ cap l t vb w HP (by omega)
  by_cases e56 : t.kind = 5 ∨ t.kind = 6
  · have hk1 : t.kids.length = 1 := by rw [hk2]; unfold kidsK; rw [if_neg (by omega), if_pos (by omega)]
    have e : nodeT t.kind t.n t.name (textT.textsT t.kids) = signB t.kind :: wrapT 6 (t.kids.getD 0 zeroT).kind (textT (t.kids.getD 0 zeroT)) := by
      unfold nodeT; rw [if_neg e1, if_neg e2, if_neg e3, if_neg e4, if_pos e56, textsT_at _ 0 (by omega)]
    rw [e] at hl ⊢
    obtain ⟨b, o, ka, kc, hb, hka⟩ := hkids 0 (by omega)
    obtain rfl := hka.ad
    have hc0 := hk 0 (by omega)
    generalize t.kids.getD 0 zeroT = x at *
    rw [hk1] at HP ⊢
    simp only [List.length_cons] at hl
    rcases e56 with h5 | h5
    · rw [h5] at HP ⊢
      exact put_neg B _ _ b o cap l _ t x ka kc vb w (by omega) HP hb hka hl fun w vb l hp hl => side_of ih x hc0 B 6 l vb _ w hp hl
    · rw [h5] at HP ⊢
      exact put_not B _ _ b o cap l _ t x ka kc vb w (by omega) HP hb hka hl fun w vb l hp hl => side_of ih x hc0 B 6 l vb _ w hp hl
  · have hk1 : t.kids.length = 2 := by rw [hk2]; unfold kidsK; rw [if_neg (by omega), if_neg (by omega)]
    have e : nodeT t.kind t.n t.name (textT.textsT t.kids) = wrapT (leftK t.kind) (t.kids.getD 0 zeroT).kind (textT (t.kids.getD 0 zeroT)) ++ [32, signB t.kind, 32] ++ wrapT (rowK t.kind + 1) (t.kids.getD 1 zeroT).kind (textT (t.kids.getD 1 zeroT)) := by
      unfold nodeT; rw [if_neg e1, if_neg e2, if_neg e3, if_neg e4, if_neg e56, textsT_at _ 0 (by omega), textsT_at _ 1 (by omega)]
    rw [e] at hl ⊢
    obtain ⟨b, o, ka, kc, hb, hka⟩ := hkids 0 (by omega)
    obtain ⟨b', o', ja, jc, hb', hja⟩ := hkids 1 (by omega)
    obtain rfl := hka.ad
    have hab := hja.ad
    simp only [Option.some.injEq, Addr.mk.injEq, and_true] at hab
    obtain ⟨rfl, rfl⟩ := hab
    have hc0 := hk 0 (by omega)
    have hc1 := hk 1 (by omega)
    generalize t.kids.getD 0 zeroT = x at *
    generalize t.kids.getD 1 zeroT = y at *
    rw [hk1] at HP ⊢
    exact put_bin B t.kind t.n (by omega) (by omega) _ b o cap l _ _ t x y ka kc ja jc vb w (by omega) HP hb hka hja (by simp at hl ⊢; omega)
      (fun w vb l hp hl => side_of ih x hc0 B _ l vb _ w hp hl) (fun w vb l hp hl => side_of ih y hc1 B (rowK t.kind + 1) l vb _ w hp hl)
theorem puts_any : ∀ d, PutOk d
  | 0 => put_zero
  | d + 1 => put_succ d (puts_any d)
end Go.Proofs.YtlfeejjlcclbdaaGreatDoor
