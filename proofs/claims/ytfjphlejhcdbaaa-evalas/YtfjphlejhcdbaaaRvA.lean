/-
  The document's of: leaves, and one kid.
-/
import Derived.Test.YtfjphlejhcdbaaaEvAB
import Derived.Test.YtfjphlejhcdbaaaVB
import Derived.Test.YtfjphlejhcdbaaaTwoX
namespace Go.Proofs.Ytfjphlejhcdbaaa
open Go.RowKit
set_option linter.unusedVariables false

set_option maxRecDepth 100000 in
set_option maxHeartbeats 400000 in
theorem rof_num (n : Int) (s : ByteArray) (a : Option Addr) (c : Nat) (a1 a2 : Option Addr) (n1 k1 n2 k2 : Nat) (w : World) : Calls Try.prog 29 #[.agg #[.int .i64 1, .int .i64 n, .string s, .slice a 0 c], .agg #[.slice a1 n1 k1, .slice a2 n2 k2]] w (EvP ⟨false, n, 0⟩ w) := by
  go_enter Try.func29, Try.ntmps29
  go_wp2
  refine bodyPost_ret (v := .tuple #[.agg #[.bool false, .int .i64 n], .int .i64 0]) (by simp [results, Try.results29, go_sem]) rfl ⟨rfl, three_low _ _ _ _⟩
set_option maxRecDepth 100000 in
set_option maxHeartbeats 400000 in
theorem rof_yes (k n : Int) (hk : k = 3 ∨ k = 4) (s : ByteArray) (a : Option Addr) (c : Nat) (a1 a2 : Option Addr) (n1 k1 n2 k2 : Nat) (w : World) : Calls Try.prog 29 #[.agg #[.int .i64 k, .int .i64 n, .string s, .slice a 0 c], .agg #[.slice a1 n1 k1, .slice a2 n2 k2]] w (EvP (truV (decide (k = 3))) w) := by
  have HT : Hid (∀ w, Calls Try.prog 51 #[.bool (k == 3)] w fun e w' => e = .returned (.agg #[.bool true, .int .i64 (if k = 3 then 1 else 0)]) ∧ Below w.heap.size w w') := fun w => by have := rtru_any (k == 3) w; simpa using this
  have e1 : truV (decide (k = 3)) = ⟨true, if k = 3 then 1 else 0, 0⟩ := by unfold truV; simp
  rw [e1]
  have HO : Hid (Own3 w _ (.int .i64 k) (.int .i64 n) (.string s) (.slice a 0 c) (.slice a1 n1 k1) (.slice a2 n2 k2)) := Own3.new w _ _ _ _ _ _
  rcases hk with rfl | rfl
  all_goals (
    simp only [if_true, if_false, beq_self_eq_true, show ((4 : Int) == 3) = false from rfl, show ¬ ((4 : Int) = 3) by decide] at HT ⊢
    unfold EvP
    simp only
    go_enter Try.func29, Try.ntmps29
    go_wp2_with (go_at_call 51; refine (HT.out _).mono ?_; rintro e w1 ⟨rfl, HB1⟩; have H1 : Hid (Own3 w w1 _ (.int .i64 n) (.string s) (.slice a 0 c) (.slice a1 n1 k1) (.slice a2 n2 k2)) := HO.out.below HB1; clear HB1; obtain ⟨g1, c0, c1, f0, f1⟩ := H1.out.r)
    refine bodyPost_ret (v := .tuple #[.agg #[.bool true, .int .i64 _], .int .i64 0]) (by simp [results, Try.results29, go_sem, c0, c1]) rfl ⟨rfl, H1.out.put _ _⟩)
set_option maxRecDepth 100000 in
set_option maxHeartbeats 400000 in
theorem rof_var (lv : V.VL) (v : Value) (n : Int) (nm : Bs) (a : Option Addr) (c : Nat) (w : World) (hv : Vok lv v w) : Calls Try.prog 29 #[.agg #[.int .i64 2, .int .i64 n, .string (ba nm), .slice a 0 c], v] w (EvP (varV (envL lv nm)) w) := by
  have HG : Hid (∀ w, Vok lv v w → Calls Try.prog 22 #[v, .string (ba nm)] w fun e w' => e = .returned (.tuple #[.int .i64 (V.getV lv (ba nm)), .bool (V.fnd (V.nmsOf lv) (ba nm))]) ∧ Below w.heap.size w w') := fun w h => V.rGet_any lv (ba nm) v w h.rd h.srt (Nat.le_trans h.len (by decide))
  have HV : Hid (Vok lv v w) := hv
  have hlk := get_look hv.srt nm
  obtain ⟨a1, n1, k1, a2, n2, k2, rfl⟩ := hv.form
  clear hv
  generalize ba nm = s at *
  have HO : Hid (Own3 w _ (.int .i64 2) (.int .i64 n) (.string s) (.slice a 0 c) (.slice a1 n1 k1) (.slice a2 n2 k2)) := Own3.new w _ _ _ _ _ _
  rcases hlk with ⟨h1, h2⟩ | ⟨h1, h2⟩
  · rw [h1] at HG
    rw [h2]
    clear h1 h2
    generalize V.getV lv s = x at *
    unfold varV EvP
    simp only
    go_enter Try.func29, Try.ntmps29
    go_wp2_with (go_at_call 22; refine (HG.out _ (HV.out.below HO.out.low)).mono ?_; rintro e w1 ⟨rfl, HB1⟩; have H1 : Hid (Own3 w w1 _ (.int .i64 n) (.string s) (.slice a 0 c) (.slice a1 n1 k1) (.slice a2 n2 k2)) := HO.out.below HB1; clear HB1; obtain ⟨g1, c0, c1, f0, f1⟩ := H1.out.r)
    refine bodyPost_ret (v := .tuple #[.agg #[.bool false, .int .i64 x], .int .i64 0]) (by simp [results, Try.results29, go_sem, c0, c1]) rfl ⟨rfl, H1.out.put _ _⟩
  · rw [h1] at HG
    rw [h2]
    clear h1 h2
    generalize V.getV lv s = x at *
    unfold varV EvP errV
    simp only
    go_enter Try.func29, Try.ntmps29
    go_wp2_with (go_at_call 22; refine (HG.out _ (HV.out.below HO.out.low)).mono ?_; rintro e w1 ⟨rfl, HB1⟩; have H1 : Hid (Own3 w w1 _ (.int .i64 n) (.string s) (.slice a 0 c) (.slice a1 n1 k1) (.slice a2 n2 k2)) := HO.out.below HB1; clear HB1; obtain ⟨g1, c0, c1, f0, f1⟩ := H1.out.r)
    refine bodyPost_ret (v := .tuple #[.agg #[.bool false, .int .i64 0], .int .i64 9]) (by simp [results, Try.results29, go_sem, c0, c1]) rfl ⟨rfl, H1.out.put _ _⟩
/-- What the document's of has laid behind its first call. -/
structure Aft (w w1 : World) (q : Nat) (x0 x1 x2 x3 y0 y1 u0 u1 : Value) : Prop where
  own : Own3 w w1 x0 x1 x2 x3 y0 y1
  is : V.Two w1 q u0 u1
  far : w.heap.size + 1 + 1 < q
theorem Aft.behind {w w1 : World} {x0 x1 x2 x3 y0 y1 : Value} (h : Own3 w w1 x0 x1 x2 x3 y0 y1) (u0 u1 : Value) : Aft w (w1.alloc (.cells #[u0, u1] 32)) w1.heap.size x0 x1 x2 x3 y0 y1 u0 u1 :=
  ⟨h.below (below_one _ _), V.Two.new w1 u0 u1 32, h.r.lt⟩
theorem two_far {w : World} {p : Nat} {x y : Value} (h : V.Two w p x y) {a : Addr} (ha : a.block ≠ p) (u : Value) : V.Two (w.setCell a u) p x y := by
  refine ⟨by simpa [World.setCell] using h.lt, ?_, ?_, by rw [World.frozen?_setCell]; exact h.f0, by rw [World.frozen?_setCell]; exact h.f1⟩
  · exact (World.cell?_setCell_other w _ _ u (fun e => ha (by rw [e]))).trans h.c0
  · exact (World.cell?_setCell_other w _ _ u (fun e => ha (by rw [e]))).trans h.c1
theorem Own3.far {w w1 : World} {x0 x1 x2 x3 y0 y1 : Value} (h : Own3 w w1 x0 x1 x2 x3 y0 y1) {a : Addr} (ha : w.heap.size + 1 + 1 < a.block) (u : Value) : Own3 w (w1.setCell a u) x0 x1 x2 x3 y0 y1 :=
  ⟨h.t.far (by omega) u, two_far h.v (by omega) u, two_far h.r (by omega) u, h.low.setCell (by omega) u⟩
theorem Aft.ahead {w w1 : World} {q : Nat} {x0 x1 x2 x3 y0 y1 z0 z1 : Value} (h : Aft w w1 q x0 x1 x2 x3 y0 y1 z0 z1) (u0 u1 : Value) : Aft w ((w1.setCell ⟨q, 0, none⟩ u0).setCell ⟨q, 1, none⟩ u1) q x0 x1 x2 x3 y0 y1 u0 u1 :=
  ⟨(h.own.far (a := ⟨q, 0, none⟩) h.far u0).far (a := ⟨q, 1, none⟩) h.far u1, V.two_set1 (V.two_set0 h.is u0) u1, h.far⟩
theorem Aft.below {w w1 w2 : World} {q : Nat} {x0 x1 x2 x3 y0 y1 u0 u1 : Value} (h : Aft w w1 q x0 x1 x2 x3 y0 y1 u0 u1) (hb : Below w1.heap.size w1 w2) : Aft w w2 q x0 x1 x2 x3 y0 y1 u0 u1 := ⟨h.own.below hb, h.is.below hb, h.far⟩
theorem Own3.drew {w w1 : World} {x0 x1 x2 x3 y0 y1 : Value} (h : Own3 w w1 x0 x1 x2 x3 y0 y1) : Own3 w w1.drew x0 x1 x2 x3 y0 y1 := h.below (Below.drew (Below.refl _ _))
theorem Six.far {w : World} {g : Nat} {k : Int} {kv : Value} {b o : Nat} {xk xn : Int} {us : ByteArray} {xa : Option Addr} {xl xc : Nat} (h : Six w g k kv b o xk xn us xa xl xc) {q : Nat} (h1 : q ≠ g) (h2 : q ≠ b) (i : Nat) (u : Value) : Six (w.setCell ⟨q, i, none⟩ u) g k kv b o xk xn us xa xl xc := by
  have e1 : ∀ o, (w.setCell ⟨q, i, none⟩ u).cell? ⟨g, o, none⟩ = w.cell? ⟨g, o, none⟩ := fun o => World.cell?_setCell_other w _ _ u (fun e => h1 (congrArg Addr.block e))
  have e2 : ∀ o, (w.setCell ⟨q, i, none⟩ u).cell? ⟨b, o, none⟩ = w.cell? ⟨b, o, none⟩ := fun o => World.cell?_setCell_other w _ _ u (fun e => h2 (congrArg Addr.block e))
  exact ⟨(e1 _).trans h.q0, (e1 _).trans h.q3, (e2 _).trans h.m0, (e2 _).trans h.m1, (e2 _).trans h.m2, (e2 _).trans h.m3⟩
set_option maxRecDepth 100000 in
set_option maxHeartbeats 1200000 in
theorem rof_err1 (k : Int) (n : Int) (s : ByteArray) (b o c : Nat) (us : ByteArray) (xk xn : Int) (xa : Option Addr) (xl xc : Nat) (a1 a2 : Option Addr) (n1 k1 n2 k2 : Nat) (rb : Bool) (rn : Int) (re : Nat) (h0 : re ≠ 0) (w : World) (hc : 1 ≤ c)
    (m0 : w.cell? ⟨b, o, none⟩ = some (.int .i64 xk)) (m1 : w.cell? ⟨b, o + 1, none⟩ = some (.int .i64 xn)) (m2 : w.cell? ⟨b, o + 2, none⟩ = some (.string us)) (m3 : w.cell? ⟨b, o + 3, none⟩ = some (.slice xa xl xc))
    (HI : Hid (∀ w', Below w.heap.size w w' → Calls Try.prog 29 #[.agg #[.int .i64 xk, .int .i64 xn, .string us, .slice xa xl xc], .agg #[.slice a1 n1 k1, .slice a2 n2 k2]] w' (EvP ⟨rb, rn, re⟩ w'))) :
    Calls Try.prog 29 #[.agg #[.int .i64 k, .int .i64 n, .string s, .slice (some ⟨b, o, none⟩) 1 c], .agg #[.slice a1 n1 k1, .slice a2 n2 k2]] w (EvP (errV re) w) := by
  have hbl : b < w.heap.size := World.block_lt_of_cell? w _ m0
  have HO : Hid (Own3 w _ (.int .i64 k) (.int .i64 n) (.string s) (.slice (some ⟨b, o, none⟩) 1 c) (.slice a1 n1 k1) (.slice a2 n2 k2)) := Own3.new w _ _ _ _ _ _
  have hz := nz h0
  unfold EvP errV at *
  simp only at *
  go_enter Try.func29, Try.ntmps29
  go_wp2_with fail
  generalize hW : ((w.alloc (.cells #[.int .i64 k, .int .i64 n, .string s, .slice (some ⟨b, o, none⟩) 1 c] 24)).alloc (.cells #[.slice a1 n1 k1, .slice a2 n2 k2] 28)).alloc (.cells #[.bool false, .int .i64 0] 32) = W at *
  have hsz : W.heap.size = w.heap.size + 1 + 1 + 1 := by rw [← hW, size_alloc, size_alloc, size_alloc]
  clear hW
  obtain ⟨q0, q1, q2, q3, q4⟩ := HO.out.t
  obtain ⟨g1, c0, c1, f0, f1⟩ := HO.out.v
  obtain ⟨g2, d0, d1, e0, e1⟩ := HO.out.r
  have HM : Hid (Six W w.heap.size (k) (.slice (some ⟨b, o, none⟩) 1 c) b o xk xn us xa xl xc) := ⟨q0, q3, (HO.out.low.cell (p := ⟨b, o, none⟩) hbl).trans m0, (HO.out.low.cell (p := ⟨b, o + 1, none⟩) hbl).trans m1, (HO.out.low.cell (p := ⟨b, o + 2, none⟩) hbl).trans m2, (HO.out.low.cell (p := ⟨b, o + 3, none⟩) hbl).trans m3⟩
  clear m0 m1 m2 m3
  obtain ⟨_, _, m0, m1, m2, m3⟩ := HM.out
  have hbW : b < W.heap.size := Nat.lt_of_lt_of_le hbl HO.out.low.size
  have ne1 : w.heap.size ≠ W.heap.size := by omega
  have ne2 : w.heap.size + 1 ≠ W.heap.size := by omega
  have ne3 : b ≠ W.heap.size := by omega
  have ne4 : w.heap.size + 1 + 1 ≠ W.heap.size := by omega
  have ne5 : W.heap.size ≠ w.heap.size + 1 + 1 := by omega
  have ne6 : W.heap.size ≠ w.heap.size := by omega
  have ne7 : W.heap.size ≠ w.heap.size + 1 := by omega
  have ne8 : W.heap.size ≠ b := by omega
  have HS : Hid (W.heap.size = w.heap.size + 1 + 1 + 1) := hsz
  clear hsz
  go_region_held3 (fun w' => w'.cell? ⟨w.heap.size, 3, none⟩ = some (.slice (some ⟨b, o, none⟩) 1 c) ∧ w'.cell? ⟨w.heap.size + 1, 0, none⟩ = some (.slice a1 n1 k1) ∧ w'.cell? ⟨w.heap.size + 1, 1, none⟩ = some (.slice a2 n2 k2) ∧ w'.cell? ⟨b, o, none⟩ = some (.int .i64 xk) ∧ w'.cell? ⟨b, o + 1, none⟩ = some (.int .i64 xn) ∧ w'.cell? ⟨b, o + 2, none⟩ = some (.string us) ∧ w'.cell? ⟨b, o + 3, none⟩ = some (.slice xa xl xc)) (go_keep) (first
    | (go_at_call 29; refine (HI.out _ (Below.drew HO.out.low)).mono ?_; rintro e w2 ⟨rfl, HB2⟩; have H2 : Hid (Own3 w w2 (.int .i64 k) (.int .i64 n) (.string s) (.slice (some ⟨b, o, none⟩) 1 c) (.slice a1 n1 k1) (.slice a2 n2 k2) ∧ Six w2 w.heap.size (k) (.slice (some ⟨b, o, none⟩) 1 c) b o xk xn us xa xl xc) := ⟨HO.out.drew.below HB2, HM.out.below (V.below_drew HB2)⟩; clear HB2; have HBE : Hid True := trivial; obtain ⟨g1, c0, c1, f0, f1⟩ := H2.out.1.v; obtain ⟨q0, q3, m0, m1, m2, m3⟩ := H2.out.2; have hlt2 := Nat.lt_of_lt_of_le hbl H2.out.1.low.size)
    | (go_at_call 29; refine (HI.out _ (Below.drew ((Aft.behind HO.out (.bool false) (.int .i64 0)).own.low))).mono ?_; rintro e w2 ⟨rfl, HB2⟩; have H2 : Hid (Aft w w2 W.heap.size (.int .i64 k) (.int .i64 n) (.string s) (.slice (some ⟨b, o, none⟩) 1 c) (.slice a1 n1 k1) (.slice a2 n2 k2) (.bool false) (.int .i64 0) ∧ Six w2 w.heap.size (k) (.slice (some ⟨b, o, none⟩) 1 c) b o xk xn us xa xl xc) := ⟨(Aft.behind HO.out _ _).below (V.below_drew HB2), (HM.out.below (below_one _ _)).below (V.below_drew HB2)⟩; clear HB2; have HAH : Hid True := trivial; obtain ⟨g1, c0, c1, f0, f1⟩ := H2.out.1.own.v; obtain ⟨q0, q3, m0, m1, m2, m3⟩ := H2.out.2; obtain ⟨g4, i0, i1, j0, j1⟩ := H2.out.1.is; have hlt2 := Nat.lt_of_lt_of_le hbl H2.out.1.own.low.size))
  all_goals first
    | (have := HBE; have HX : Hid (Aft w (w2.alloc (.cells #[.bool rb, .int .i64 rn] 32)) w2.heap.size (.int .i64 k) (.int .i64 n) (.string s) (.slice (some ⟨b, o, none⟩) 1 c) (.slice a1 n1 k1) (.slice a2 n2 k2) (.bool rb) (.int .i64 rn) ∧ Six (w2.alloc (.cells #[.bool rb, .int .i64 rn] 32)) w.heap.size (k) (.slice (some ⟨b, o, none⟩) 1 c) b o xk xn us xa xl xc) := ⟨Aft.behind H2.out.1 _ _, H2.out.2.below (below_one _ _)⟩; clear H2 g1 c0 c1 f0 f1 q0 q3 m0 m1 m2 m3 hlt2; generalize w2.alloc (.cells #[.bool rb, .int .i64 rn] 32) = WX at *; generalize w2.heap.size = q at *)
    | (have := HAH; have HX : Hid (Aft w ((w2.setCell ⟨W.heap.size, 0, none⟩ (.bool rb)).setCell ⟨W.heap.size, 1, none⟩ (.int .i64 rn)) W.heap.size (.int .i64 k) (.int .i64 n) (.string s) (.slice (some ⟨b, o, none⟩) 1 c) (.slice a1 n1 k1) (.slice a2 n2 k2) (.bool rb) (.int .i64 rn) ∧ Six ((w2.setCell ⟨W.heap.size, 0, none⟩ (.bool rb)).setCell ⟨W.heap.size, 1, none⟩ (.int .i64 rn)) w.heap.size (k) (.slice (some ⟨b, o, none⟩) 1 c) b o xk xn us xa xl xc) := ⟨H2.out.1.ahead _ _, (H2.out.2.far (by omega) (by omega) 0 _).far (by omega) (by omega) 1 _⟩; clear H2 g1 c0 c1 f0 f1 q0 q3 m0 m1 m2 m3 hlt2 g4 i0 i1 j0 j1; generalize (w2.setCell ⟨W.heap.size, 0, none⟩ (.bool rb)).setCell ⟨W.heap.size, 1, none⟩ (.int .i64 rn) = WX at *; generalize W.heap.size = q at *)
  all_goals (
    obtain ⟨q0, q1, q2, q3, q4⟩ := HX.out.1.own.t
    obtain ⟨g2, d0, d1, e0, e1⟩ := HX.out.1.own.r
    obtain ⟨g4, i0, i1, j0, j1⟩ := HX.out.1.is
    go_wp2
    refine bodyPost_ret (v := .tuple #[.agg #[.bool false, .int .i64 0], .int .i64 (re : Nat)]) (by simp [results, Try.results29, go_sem, d0, d1]) rfl ⟨rfl, HX.out.1.own.put _ _⟩)
set_option maxRecDepth 100000 in
set_option maxHeartbeats 1200000 in
theorem rof_not (n : Int) (s : ByteArray) (b o c : Nat) (us : ByteArray) (xk xn : Int) (xa : Option Addr) (xl xc : Nat) (a1 a2 : Option Addr) (n1 k1 n2 k2 : Nat) (rb : Bool) (rn : Int) (re : Nat) (h0 : re = 0) (w : World) (hc : 1 ≤ c)
    (m0 : w.cell? ⟨b, o, none⟩ = some (.int .i64 xk)) (m1 : w.cell? ⟨b, o + 1, none⟩ = some (.int .i64 xn)) (m2 : w.cell? ⟨b, o + 2, none⟩ = some (.string us)) (m3 : w.cell? ⟨b, o + 3, none⟩ = some (.slice xa xl xc))
    (HI : Hid (∀ w', Below w.heap.size w w' → Calls Try.prog 29 #[.agg #[.int .i64 xk, .int .i64 xn, .string us, .slice xa xl xc], .agg #[.slice a1 n1 k1, .slice a2 n2 k2]] w' (EvP ⟨rb, rn, re⟩ w'))) :
    Calls Try.prog 29 #[.agg #[.int .i64 6, .int .i64 n, .string s, .slice (some ⟨b, o, none⟩) 1 c], .agg #[.slice a1 n1 k1, .slice a2 n2 k2]] w (EvP (truV (decide (rn = 0))) w) := by
  have hbl : b < w.heap.size := World.block_lt_of_cell? w _ m0
  have HO : Hid (Own3 w _ (.int .i64 6) (.int .i64 n) (.string s) (.slice (some ⟨b, o, none⟩) 1 c) (.slice a1 n1 k1) (.slice a2 n2 k2)) := Own3.new w _ _ _ _ _ _
  obtain ⟨bz, hbz⟩ : ∃ bz, (rn == 0) = bz := ⟨_, rfl⟩
  have HT : Hid (∀ w, Calls Try.prog 51 #[.bool bz] w fun e w' => e = .returned (.agg #[.bool true, .int .i64 (if bz = true then 1 else 0)]) ∧ Below w.heap.size w w') := fun w => rtru_any bz w
  have hp : truV (decide (rn = 0)) = ⟨true, if bz = true then 1 else 0, 0⟩ := by unfold truV; rw [← hbz]; simp
  rw [hp]
  clear hp
  obtain ⟨z, hzz⟩ : ∃ z : Int, (if bz = true then 1 else 0) = z := ⟨_, rfl⟩
  rw [hzz] at HT ⊢
  clear hzz
  subst h0
  unfold EvP at *
  simp only at *
  go_enter Try.func29, Try.ntmps29
  go_wp2_with fail
  generalize hW : ((w.alloc (.cells #[.int .i64 6, .int .i64 n, .string s, .slice (some ⟨b, o, none⟩) 1 c] 24)).alloc (.cells #[.slice a1 n1 k1, .slice a2 n2 k2] 28)).alloc (.cells #[.bool false, .int .i64 0] 32) = W at *
  have hsz : W.heap.size = w.heap.size + 1 + 1 + 1 := by rw [← hW, size_alloc, size_alloc, size_alloc]
  clear hW
  obtain ⟨q0, q1, q2, q3, q4⟩ := HO.out.t
  obtain ⟨g1, c0, c1, f0, f1⟩ := HO.out.v
  obtain ⟨g2, d0, d1, e0, e1⟩ := HO.out.r
  have HM : Hid (Six W w.heap.size (6) (.slice (some ⟨b, o, none⟩) 1 c) b o xk xn us xa xl xc) := ⟨q0, q3, (HO.out.low.cell (p := ⟨b, o, none⟩) hbl).trans m0, (HO.out.low.cell (p := ⟨b, o + 1, none⟩) hbl).trans m1, (HO.out.low.cell (p := ⟨b, o + 2, none⟩) hbl).trans m2, (HO.out.low.cell (p := ⟨b, o + 3, none⟩) hbl).trans m3⟩
  clear m0 m1 m2 m3
  obtain ⟨_, _, m0, m1, m2, m3⟩ := HM.out
  have hbW : b < W.heap.size := Nat.lt_of_lt_of_le hbl HO.out.low.size
  have ne1 : w.heap.size ≠ W.heap.size := by omega
  have ne2 : w.heap.size + 1 ≠ W.heap.size := by omega
  have ne3 : b ≠ W.heap.size := by omega
  have ne4 : w.heap.size + 1 + 1 ≠ W.heap.size := by omega
  have ne5 : W.heap.size ≠ w.heap.size + 1 + 1 := by omega
  have ne6 : W.heap.size ≠ w.heap.size := by omega
  have ne7 : W.heap.size ≠ w.heap.size + 1 := by omega
  have ne8 : W.heap.size ≠ b := by omega
  have HS : Hid (W.heap.size = w.heap.size + 1 + 1 + 1) := hsz
  clear hsz
  go_region_held3 (fun w' => w'.cell? ⟨w.heap.size, 3, none⟩ = some (.slice (some ⟨b, o, none⟩) 1 c) ∧ w'.cell? ⟨w.heap.size + 1, 0, none⟩ = some (.slice a1 n1 k1) ∧ w'.cell? ⟨w.heap.size + 1, 1, none⟩ = some (.slice a2 n2 k2) ∧ w'.cell? ⟨b, o, none⟩ = some (.int .i64 xk) ∧ w'.cell? ⟨b, o + 1, none⟩ = some (.int .i64 xn) ∧ w'.cell? ⟨b, o + 2, none⟩ = some (.string us) ∧ w'.cell? ⟨b, o + 3, none⟩ = some (.slice xa xl xc)) (go_keep) (first
    | (go_at_call 29; refine (HI.out _ (Below.drew HO.out.low)).mono ?_; rintro e w2 ⟨rfl, HB2⟩; have H2 : Hid (Own3 w w2 (.int .i64 6) (.int .i64 n) (.string s) (.slice (some ⟨b, o, none⟩) 1 c) (.slice a1 n1 k1) (.slice a2 n2 k2) ∧ Six w2 w.heap.size (6) (.slice (some ⟨b, o, none⟩) 1 c) b o xk xn us xa xl xc) := ⟨HO.out.drew.below HB2, HM.out.below (V.below_drew HB2)⟩; clear HB2; have HBE : Hid True := trivial; obtain ⟨g1, c0, c1, f0, f1⟩ := H2.out.1.v; obtain ⟨q0, q3, m0, m1, m2, m3⟩ := H2.out.2; have hlt2 := Nat.lt_of_lt_of_le hbl H2.out.1.low.size)
    | (go_at_call 29; refine (HI.out _ (Below.drew ((Aft.behind HO.out (.bool false) (.int .i64 0)).own.low))).mono ?_; rintro e w2 ⟨rfl, HB2⟩; have H2 : Hid (Aft w w2 W.heap.size (.int .i64 6) (.int .i64 n) (.string s) (.slice (some ⟨b, o, none⟩) 1 c) (.slice a1 n1 k1) (.slice a2 n2 k2) (.bool false) (.int .i64 0) ∧ Six w2 w.heap.size (6) (.slice (some ⟨b, o, none⟩) 1 c) b o xk xn us xa xl xc) := ⟨(Aft.behind HO.out _ _).below (V.below_drew HB2), (HM.out.below (below_one _ _)).below (V.below_drew HB2)⟩; clear HB2; have HAH : Hid True := trivial; obtain ⟨g1, c0, c1, f0, f1⟩ := H2.out.1.own.v; obtain ⟨q0, q3, m0, m1, m2, m3⟩ := H2.out.2; obtain ⟨g4, i0, i1, j0, j1⟩ := H2.out.1.is; have hlt2 := Nat.lt_of_lt_of_le hbl H2.out.1.own.low.size))
  all_goals first
    | (have := HBE; have HX : Hid (Aft w (w2.alloc (.cells #[.bool rb, .int .i64 rn] 32)) w2.heap.size (.int .i64 6) (.int .i64 n) (.string s) (.slice (some ⟨b, o, none⟩) 1 c) (.slice a1 n1 k1) (.slice a2 n2 k2) (.bool rb) (.int .i64 rn) ∧ Six (w2.alloc (.cells #[.bool rb, .int .i64 rn] 32)) w.heap.size (6) (.slice (some ⟨b, o, none⟩) 1 c) b o xk xn us xa xl xc) := ⟨Aft.behind H2.out.1 _ _, H2.out.2.below (below_one _ _)⟩; clear H2 g1 c0 c1 f0 f1 q0 q3 m0 m1 m2 m3 hlt2; generalize w2.alloc (.cells #[.bool rb, .int .i64 rn] 32) = WX at *; generalize w2.heap.size = q at *)
    | (have := HAH; have HX : Hid (Aft w ((w2.setCell ⟨W.heap.size, 0, none⟩ (.bool rb)).setCell ⟨W.heap.size, 1, none⟩ (.int .i64 rn)) W.heap.size (.int .i64 6) (.int .i64 n) (.string s) (.slice (some ⟨b, o, none⟩) 1 c) (.slice a1 n1 k1) (.slice a2 n2 k2) (.bool rb) (.int .i64 rn) ∧ Six ((w2.setCell ⟨W.heap.size, 0, none⟩ (.bool rb)).setCell ⟨W.heap.size, 1, none⟩ (.int .i64 rn)) w.heap.size (6) (.slice (some ⟨b, o, none⟩) 1 c) b o xk xn us xa xl xc) := ⟨H2.out.1.ahead _ _, (H2.out.2.far (by omega) (by omega) 0 _).far (by omega) (by omega) 1 _⟩; clear H2 g1 c0 c1 f0 f1 q0 q3 m0 m1 m2 m3 hlt2 g4 i0 i1 j0 j1; generalize (w2.setCell ⟨W.heap.size, 0, none⟩ (.bool rb)).setCell ⟨W.heap.size, 1, none⟩ (.int .i64 rn) = WX at *; generalize W.heap.size = q at *)
  all_goals (
    obtain ⟨q0, q1, q2, q3, q4⟩ := HX.out.1.own.t
    obtain ⟨g2, d0, d1, e0, e1⟩ := HX.out.1.own.r
    obtain ⟨g4, i0, i1, j0, j1⟩ := HX.out.1.is
    go_wp2_with (go_at_call 51; refine (HT.out _).mono ?_; rintro e w3 ⟨rfl, HB3⟩; have H3 : Hid (Own3 w w3 (.int .i64 6) (.int .i64 n) (.string s) (.slice (some ⟨b, o, none⟩) 1 c) (.slice a1 n1 k1) (.slice a2 n2 k2)) := HX.out.1.own.below HB3; clear HB3; obtain ⟨g2, d0, d1, e0, e1⟩ := H3.out.r)
    refine bodyPost_ret (v := .tuple #[.agg #[.bool true, .int .i64 z], .int .i64 0]) (by simp [results, Try.results29, go_sem, d0, d1]) rfl ⟨rfl, H3.out.put _ _⟩)
set_option maxRecDepth 100000 in
set_option maxHeartbeats 1200000 in
theorem rof_neg0 (n : Int) (s : ByteArray) (b o c : Nat) (us : ByteArray) (xk xn : Int) (xa : Option Addr) (xl xc : Nat) (a1 a2 : Option Addr) (n1 k1 n2 k2 : Nat) (rb : Bool) (rn : Int) (re : Nat) (h0 : re = 0) (x : Int) (y : Nat) (hr : InR rn) (hxy : twoA 8 0 rn = (x, y)) (hy : y = 0) (w : World) (hc : 1 ≤ c)
    (m0 : w.cell? ⟨b, o, none⟩ = some (.int .i64 xk)) (m1 : w.cell? ⟨b, o + 1, none⟩ = some (.int .i64 xn)) (m2 : w.cell? ⟨b, o + 2, none⟩ = some (.string us)) (m3 : w.cell? ⟨b, o + 3, none⟩ = some (.slice xa xl xc))
    (HI : Hid (∀ w', Below w.heap.size w w' → Calls Try.prog 29 #[.agg #[.int .i64 xk, .int .i64 xn, .string us, .slice xa xl xc], .agg #[.slice a1 n1 k1, .slice a2 n2 k2]] w' (EvP ⟨rb, rn, re⟩ w'))) :
    Calls Try.prog 29 #[.agg #[.int .i64 5, .int .i64 n, .string s, .slice (some ⟨b, o, none⟩) 1 c], .agg #[.slice a1 n1 k1, .slice a2 n2 k2]] w (EvP (numV (x, y)) w) := by
  have hbl : b < w.heap.size := World.block_lt_of_cell? w _ m0
  have HO : Hid (Own3 w _ (.int .i64 5) (.int .i64 n) (.string s) (.slice (some ⟨b, o, none⟩) 1 c) (.slice a1 n1 k1) (.slice a2 n2 k2)) := Own3.new w _ _ _ _ _ _
  have HR : Hid (∀ w, Calls Try.prog 52 #[.int .i64 8, .int .i64 0, .int .i64 rn] w (TwoP w (x, y))) := fun w => by rw [← hxy]; exact numTwo_any 8 0 rn (by decide) (by decide) inR_zero hr w
  subst h0
  clear hr hxy
  subst hy
  unfold EvP numV TwoP at *
  simp only at *
  go_enter Try.func29, Try.ntmps29
  go_wp2_with fail
  generalize hW : ((w.alloc (.cells #[.int .i64 5, .int .i64 n, .string s, .slice (some ⟨b, o, none⟩) 1 c] 24)).alloc (.cells #[.slice a1 n1 k1, .slice a2 n2 k2] 28)).alloc (.cells #[.bool false, .int .i64 0] 32) = W at *
  have hsz : W.heap.size = w.heap.size + 1 + 1 + 1 := by rw [← hW, size_alloc, size_alloc, size_alloc]
  clear hW
  obtain ⟨q0, q1, q2, q3, q4⟩ := HO.out.t
  obtain ⟨g1, c0, c1, f0, f1⟩ := HO.out.v
  obtain ⟨g2, d0, d1, e0, e1⟩ := HO.out.r
  have HM : Hid (Six W w.heap.size (5) (.slice (some ⟨b, o, none⟩) 1 c) b o xk xn us xa xl xc) := ⟨q0, q3, (HO.out.low.cell (p := ⟨b, o, none⟩) hbl).trans m0, (HO.out.low.cell (p := ⟨b, o + 1, none⟩) hbl).trans m1, (HO.out.low.cell (p := ⟨b, o + 2, none⟩) hbl).trans m2, (HO.out.low.cell (p := ⟨b, o + 3, none⟩) hbl).trans m3⟩
  clear m0 m1 m2 m3
  obtain ⟨_, _, m0, m1, m2, m3⟩ := HM.out
  have hbW : b < W.heap.size := Nat.lt_of_lt_of_le hbl HO.out.low.size
  have ne1 : w.heap.size ≠ W.heap.size := by omega
  have ne2 : w.heap.size + 1 ≠ W.heap.size := by omega
  have ne3 : b ≠ W.heap.size := by omega
  have ne4 : w.heap.size + 1 + 1 ≠ W.heap.size := by omega
  have ne5 : W.heap.size ≠ w.heap.size + 1 + 1 := by omega
  have ne6 : W.heap.size ≠ w.heap.size := by omega
  have ne7 : W.heap.size ≠ w.heap.size + 1 := by omega
  have ne8 : W.heap.size ≠ b := by omega
  have HS : Hid (W.heap.size = w.heap.size + 1 + 1 + 1) := hsz
  clear hsz
  go_region_held3 (fun w' => w'.cell? ⟨w.heap.size, 3, none⟩ = some (.slice (some ⟨b, o, none⟩) 1 c) ∧ w'.cell? ⟨w.heap.size + 1, 0, none⟩ = some (.slice a1 n1 k1) ∧ w'.cell? ⟨w.heap.size + 1, 1, none⟩ = some (.slice a2 n2 k2) ∧ w'.cell? ⟨b, o, none⟩ = some (.int .i64 xk) ∧ w'.cell? ⟨b, o + 1, none⟩ = some (.int .i64 xn) ∧ w'.cell? ⟨b, o + 2, none⟩ = some (.string us) ∧ w'.cell? ⟨b, o + 3, none⟩ = some (.slice xa xl xc)) (go_keep) (first
    | (go_at_call 29; refine (HI.out _ (Below.drew HO.out.low)).mono ?_; rintro e w2 ⟨rfl, HB2⟩; have H2 : Hid (Own3 w w2 (.int .i64 5) (.int .i64 n) (.string s) (.slice (some ⟨b, o, none⟩) 1 c) (.slice a1 n1 k1) (.slice a2 n2 k2) ∧ Six w2 w.heap.size (5) (.slice (some ⟨b, o, none⟩) 1 c) b o xk xn us xa xl xc) := ⟨HO.out.drew.below HB2, HM.out.below (V.below_drew HB2)⟩; clear HB2; have HBE : Hid True := trivial; obtain ⟨g1, c0, c1, f0, f1⟩ := H2.out.1.v; obtain ⟨q0, q3, m0, m1, m2, m3⟩ := H2.out.2; have hlt2 := Nat.lt_of_lt_of_le hbl H2.out.1.low.size)
    | (go_at_call 29; refine (HI.out _ (Below.drew ((Aft.behind HO.out (.bool false) (.int .i64 0)).own.low))).mono ?_; rintro e w2 ⟨rfl, HB2⟩; have H2 : Hid (Aft w w2 W.heap.size (.int .i64 5) (.int .i64 n) (.string s) (.slice (some ⟨b, o, none⟩) 1 c) (.slice a1 n1 k1) (.slice a2 n2 k2) (.bool false) (.int .i64 0) ∧ Six w2 w.heap.size (5) (.slice (some ⟨b, o, none⟩) 1 c) b o xk xn us xa xl xc) := ⟨(Aft.behind HO.out _ _).below (V.below_drew HB2), (HM.out.below (below_one _ _)).below (V.below_drew HB2)⟩; clear HB2; have HAH : Hid True := trivial; obtain ⟨g1, c0, c1, f0, f1⟩ := H2.out.1.own.v; obtain ⟨q0, q3, m0, m1, m2, m3⟩ := H2.out.2; obtain ⟨g4, i0, i1, j0, j1⟩ := H2.out.1.is; have hlt2 := Nat.lt_of_lt_of_le hbl H2.out.1.own.low.size))
  all_goals first
    | (have := HBE; have HX : Hid (Aft w (w2.alloc (.cells #[.bool rb, .int .i64 rn] 32)) w2.heap.size (.int .i64 5) (.int .i64 n) (.string s) (.slice (some ⟨b, o, none⟩) 1 c) (.slice a1 n1 k1) (.slice a2 n2 k2) (.bool rb) (.int .i64 rn) ∧ Six (w2.alloc (.cells #[.bool rb, .int .i64 rn] 32)) w.heap.size (5) (.slice (some ⟨b, o, none⟩) 1 c) b o xk xn us xa xl xc) := ⟨Aft.behind H2.out.1 _ _, H2.out.2.below (below_one _ _)⟩; clear H2 g1 c0 c1 f0 f1 q0 q3 m0 m1 m2 m3 hlt2; generalize w2.alloc (.cells #[.bool rb, .int .i64 rn] 32) = WX at *; generalize w2.heap.size = q at *)
    | (have := HAH; have HX : Hid (Aft w ((w2.setCell ⟨W.heap.size, 0, none⟩ (.bool rb)).setCell ⟨W.heap.size, 1, none⟩ (.int .i64 rn)) W.heap.size (.int .i64 5) (.int .i64 n) (.string s) (.slice (some ⟨b, o, none⟩) 1 c) (.slice a1 n1 k1) (.slice a2 n2 k2) (.bool rb) (.int .i64 rn) ∧ Six ((w2.setCell ⟨W.heap.size, 0, none⟩ (.bool rb)).setCell ⟨W.heap.size, 1, none⟩ (.int .i64 rn)) w.heap.size (5) (.slice (some ⟨b, o, none⟩) 1 c) b o xk xn us xa xl xc) := ⟨H2.out.1.ahead _ _, (H2.out.2.far (by omega) (by omega) 0 _).far (by omega) (by omega) 1 _⟩; clear H2 g1 c0 c1 f0 f1 q0 q3 m0 m1 m2 m3 hlt2 g4 i0 i1 j0 j1; generalize (w2.setCell ⟨W.heap.size, 0, none⟩ (.bool rb)).setCell ⟨W.heap.size, 1, none⟩ (.int .i64 rn) = WX at *; generalize W.heap.size = q at *)
  all_goals (
    obtain ⟨q0, q1, q2, q3, q4⟩ := HX.out.1.own.t
    obtain ⟨g2, d0, d1, e0, e1⟩ := HX.out.1.own.r
    obtain ⟨g4, i0, i1, j0, j1⟩ := HX.out.1.is
    go_wp2_with (go_at_call 52; refine (HR.out _).mono ?_; rintro e w3 ⟨rfl, HB3⟩; have H3 : Hid (Own3 w w3 (.int .i64 5) (.int .i64 n) (.string s) (.slice (some ⟨b, o, none⟩) 1 c) (.slice a1 n1 k1) (.slice a2 n2 k2)) := HX.out.1.own.below HB3; clear HB3; obtain ⟨g2, d0, d1, e0, e1⟩ := H3.out.r)
    refine bodyPost_ret (v := .tuple #[.agg #[.bool false, .int .i64 x], .int .i64 0]) (by simp [results, Try.results29, go_sem, d0, d1]) rfl ⟨rfl, H3.out.put _ _⟩)
set_option maxRecDepth 100000 in
set_option maxHeartbeats 1200000 in
theorem rof_neg1 (n : Int) (s : ByteArray) (b o c : Nat) (us : ByteArray) (xk xn : Int) (xa : Option Addr) (xl xc : Nat) (a1 a2 : Option Addr) (n1 k1 n2 k2 : Nat) (rb : Bool) (rn : Int) (re : Nat) (h0 : re = 0) (x : Int) (y : Nat) (hr : InR rn) (hxy : twoA 8 0 rn = (x, y)) (hy : y ≠ 0) (hx : x = 0) (w : World) (hc : 1 ≤ c)
    (m0 : w.cell? ⟨b, o, none⟩ = some (.int .i64 xk)) (m1 : w.cell? ⟨b, o + 1, none⟩ = some (.int .i64 xn)) (m2 : w.cell? ⟨b, o + 2, none⟩ = some (.string us)) (m3 : w.cell? ⟨b, o + 3, none⟩ = some (.slice xa xl xc))
    (HI : Hid (∀ w', Below w.heap.size w w' → Calls Try.prog 29 #[.agg #[.int .i64 xk, .int .i64 xn, .string us, .slice xa xl xc], .agg #[.slice a1 n1 k1, .slice a2 n2 k2]] w' (EvP ⟨rb, rn, re⟩ w'))) :
    Calls Try.prog 29 #[.agg #[.int .i64 5, .int .i64 n, .string s, .slice (some ⟨b, o, none⟩) 1 c], .agg #[.slice a1 n1 k1, .slice a2 n2 k2]] w (EvP (numV (x, y)) w) := by
  have hbl : b < w.heap.size := World.block_lt_of_cell? w _ m0
  have HO : Hid (Own3 w _ (.int .i64 5) (.int .i64 n) (.string s) (.slice (some ⟨b, o, none⟩) 1 c) (.slice a1 n1 k1) (.slice a2 n2 k2)) := Own3.new w _ _ _ _ _ _
  have HR : Hid (∀ w, Calls Try.prog 52 #[.int .i64 8, .int .i64 0, .int .i64 rn] w (TwoP w (x, y))) := fun w => by rw [← hxy]; exact numTwo_any 8 0 rn (by decide) (by decide) inR_zero hr w
  subst h0
  clear hr hxy
  have hz := nz hy
  subst hx
  unfold EvP numV TwoP at *
  simp only at *
  go_enter Try.func29, Try.ntmps29
  go_wp2_with fail
  generalize hW : ((w.alloc (.cells #[.int .i64 5, .int .i64 n, .string s, .slice (some ⟨b, o, none⟩) 1 c] 24)).alloc (.cells #[.slice a1 n1 k1, .slice a2 n2 k2] 28)).alloc (.cells #[.bool false, .int .i64 0] 32) = W at *
  have hsz : W.heap.size = w.heap.size + 1 + 1 + 1 := by rw [← hW, size_alloc, size_alloc, size_alloc]
  clear hW
  obtain ⟨q0, q1, q2, q3, q4⟩ := HO.out.t
  obtain ⟨g1, c0, c1, f0, f1⟩ := HO.out.v
  obtain ⟨g2, d0, d1, e0, e1⟩ := HO.out.r
  have HM : Hid (Six W w.heap.size (5) (.slice (some ⟨b, o, none⟩) 1 c) b o xk xn us xa xl xc) := ⟨q0, q3, (HO.out.low.cell (p := ⟨b, o, none⟩) hbl).trans m0, (HO.out.low.cell (p := ⟨b, o + 1, none⟩) hbl).trans m1, (HO.out.low.cell (p := ⟨b, o + 2, none⟩) hbl).trans m2, (HO.out.low.cell (p := ⟨b, o + 3, none⟩) hbl).trans m3⟩
  clear m0 m1 m2 m3
  obtain ⟨_, _, m0, m1, m2, m3⟩ := HM.out
  have hbW : b < W.heap.size := Nat.lt_of_lt_of_le hbl HO.out.low.size
  have ne1 : w.heap.size ≠ W.heap.size := by omega
  have ne2 : w.heap.size + 1 ≠ W.heap.size := by omega
  have ne3 : b ≠ W.heap.size := by omega
  have ne4 : w.heap.size + 1 + 1 ≠ W.heap.size := by omega
  have ne5 : W.heap.size ≠ w.heap.size + 1 + 1 := by omega
  have ne6 : W.heap.size ≠ w.heap.size := by omega
  have ne7 : W.heap.size ≠ w.heap.size + 1 := by omega
  have ne8 : W.heap.size ≠ b := by omega
  have HS : Hid (W.heap.size = w.heap.size + 1 + 1 + 1) := hsz
  clear hsz
  go_region_held3 (fun w' => w'.cell? ⟨w.heap.size, 3, none⟩ = some (.slice (some ⟨b, o, none⟩) 1 c) ∧ w'.cell? ⟨w.heap.size + 1, 0, none⟩ = some (.slice a1 n1 k1) ∧ w'.cell? ⟨w.heap.size + 1, 1, none⟩ = some (.slice a2 n2 k2) ∧ w'.cell? ⟨b, o, none⟩ = some (.int .i64 xk) ∧ w'.cell? ⟨b, o + 1, none⟩ = some (.int .i64 xn) ∧ w'.cell? ⟨b, o + 2, none⟩ = some (.string us) ∧ w'.cell? ⟨b, o + 3, none⟩ = some (.slice xa xl xc)) (go_keep) (first
    | (go_at_call 29; refine (HI.out _ (Below.drew HO.out.low)).mono ?_; rintro e w2 ⟨rfl, HB2⟩; have H2 : Hid (Own3 w w2 (.int .i64 5) (.int .i64 n) (.string s) (.slice (some ⟨b, o, none⟩) 1 c) (.slice a1 n1 k1) (.slice a2 n2 k2) ∧ Six w2 w.heap.size (5) (.slice (some ⟨b, o, none⟩) 1 c) b o xk xn us xa xl xc) := ⟨HO.out.drew.below HB2, HM.out.below (V.below_drew HB2)⟩; clear HB2; have HBE : Hid True := trivial; obtain ⟨g1, c0, c1, f0, f1⟩ := H2.out.1.v; obtain ⟨q0, q3, m0, m1, m2, m3⟩ := H2.out.2; have hlt2 := Nat.lt_of_lt_of_le hbl H2.out.1.low.size)
    | (go_at_call 29; refine (HI.out _ (Below.drew ((Aft.behind HO.out (.bool false) (.int .i64 0)).own.low))).mono ?_; rintro e w2 ⟨rfl, HB2⟩; have H2 : Hid (Aft w w2 W.heap.size (.int .i64 5) (.int .i64 n) (.string s) (.slice (some ⟨b, o, none⟩) 1 c) (.slice a1 n1 k1) (.slice a2 n2 k2) (.bool false) (.int .i64 0) ∧ Six w2 w.heap.size (5) (.slice (some ⟨b, o, none⟩) 1 c) b o xk xn us xa xl xc) := ⟨(Aft.behind HO.out _ _).below (V.below_drew HB2), (HM.out.below (below_one _ _)).below (V.below_drew HB2)⟩; clear HB2; have HAH : Hid True := trivial; obtain ⟨g1, c0, c1, f0, f1⟩ := H2.out.1.own.v; obtain ⟨q0, q3, m0, m1, m2, m3⟩ := H2.out.2; obtain ⟨g4, i0, i1, j0, j1⟩ := H2.out.1.is; have hlt2 := Nat.lt_of_lt_of_le hbl H2.out.1.own.low.size))
  all_goals first
    | (have := HBE; have HX : Hid (Aft w (w2.alloc (.cells #[.bool rb, .int .i64 rn] 32)) w2.heap.size (.int .i64 5) (.int .i64 n) (.string s) (.slice (some ⟨b, o, none⟩) 1 c) (.slice a1 n1 k1) (.slice a2 n2 k2) (.bool rb) (.int .i64 rn) ∧ Six (w2.alloc (.cells #[.bool rb, .int .i64 rn] 32)) w.heap.size (5) (.slice (some ⟨b, o, none⟩) 1 c) b o xk xn us xa xl xc) := ⟨Aft.behind H2.out.1 _ _, H2.out.2.below (below_one _ _)⟩; clear H2 g1 c0 c1 f0 f1 q0 q3 m0 m1 m2 m3 hlt2; generalize w2.alloc (.cells #[.bool rb, .int .i64 rn] 32) = WX at *; generalize w2.heap.size = q at *)
    | (have := HAH; have HX : Hid (Aft w ((w2.setCell ⟨W.heap.size, 0, none⟩ (.bool rb)).setCell ⟨W.heap.size, 1, none⟩ (.int .i64 rn)) W.heap.size (.int .i64 5) (.int .i64 n) (.string s) (.slice (some ⟨b, o, none⟩) 1 c) (.slice a1 n1 k1) (.slice a2 n2 k2) (.bool rb) (.int .i64 rn) ∧ Six ((w2.setCell ⟨W.heap.size, 0, none⟩ (.bool rb)).setCell ⟨W.heap.size, 1, none⟩ (.int .i64 rn)) w.heap.size (5) (.slice (some ⟨b, o, none⟩) 1 c) b o xk xn us xa xl xc) := ⟨H2.out.1.ahead _ _, (H2.out.2.far (by omega) (by omega) 0 _).far (by omega) (by omega) 1 _⟩; clear H2 g1 c0 c1 f0 f1 q0 q3 m0 m1 m2 m3 hlt2 g4 i0 i1 j0 j1; generalize (w2.setCell ⟨W.heap.size, 0, none⟩ (.bool rb)).setCell ⟨W.heap.size, 1, none⟩ (.int .i64 rn) = WX at *; generalize W.heap.size = q at *)
  all_goals (
    obtain ⟨q0, q1, q2, q3, q4⟩ := HX.out.1.own.t
    obtain ⟨g2, d0, d1, e0, e1⟩ := HX.out.1.own.r
    obtain ⟨g4, i0, i1, j0, j1⟩ := HX.out.1.is
    go_wp2_with (go_at_call 52; refine (HR.out _).mono ?_; rintro e w3 ⟨rfl, HB3⟩; have H3 : Hid (Own3 w w3 (.int .i64 5) (.int .i64 n) (.string s) (.slice (some ⟨b, o, none⟩) 1 c) (.slice a1 n1 k1) (.slice a2 n2 k2)) := HX.out.1.own.below HB3; clear HB3; obtain ⟨g2, d0, d1, e0, e1⟩ := H3.out.r)
    refine bodyPost_ret (v := .tuple #[.agg #[.bool false, .int .i64 0], .int .i64 (y : Nat)]) (by simp [results, Try.results29, go_sem, d0, d1]) rfl ⟨rfl, H3.out.put _ _⟩)
end Go.Proofs.Ytfjphlejhcdbaaa
