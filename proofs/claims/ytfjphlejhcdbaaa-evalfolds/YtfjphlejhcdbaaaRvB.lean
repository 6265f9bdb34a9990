/-
  The document's of: two kids.
-/
import Derived.Test.YtfjphlejhcdbaaaRvA
namespace Go.Proofs.Ytfjphlejhcdbaaa
open Go.RowKit
set_option linter.unusedVariables false

/-- What the document's of has laid behind its second call. -/
structure Aft2 (w w1 : World) (q p : Nat) (x0 x1 x2 x3 y0 y1 u0 u1 v0 v1 : Value) : Prop where
  aft : Aft w w1 q x0 x1 x2 x3 y0 y1 u0 u1
  is2 : V.Two w1 p v0 v1
  far2 : w.heap.size + 1 + 1 < p
  ne : p ≠ q
theorem Aft2.behind {w w1 : World} {q : Nat} {x0 x1 x2 x3 y0 y1 u0 u1 : Value} (h : Aft w w1 q x0 x1 x2 x3 y0 y1 u0 u1) (v0 v1 : Value) : Aft2 w (w1.alloc (.cells #[v0, v1] 32)) q w1.heap.size x0 x1 x2 x3 y0 y1 u0 u1 v0 v1 :=
  ⟨h.below (below_one _ _), V.Two.new w1 v0 v1 32, h.own.r.lt, fun e => Nat.lt_irrefl _ (e ▸ h.is.lt)⟩
theorem Aft2.below {w w1 w2 : World} {q p : Nat} {x0 x1 x2 x3 y0 y1 u0 u1 v0 v1 : Value} (h : Aft2 w w1 q p x0 x1 x2 x3 y0 y1 u0 u1 v0 v1) (hb : Below w1.heap.size w1 w2) : Aft2 w w2 q p x0 x1 x2 x3 y0 y1 u0 u1 v0 v1 := ⟨h.aft.below hb, h.is2.below hb, h.far2, h.ne⟩
theorem Aft2.ahead {w w1 : World} {q p : Nat} {x0 x1 x2 x3 y0 y1 u0 u1 z0 z1 : Value} (h : Aft2 w w1 q p x0 x1 x2 x3 y0 y1 u0 u1 z0 z1) (v0 v1 : Value) : Aft2 w ((w1.setCell ⟨p, 0, none⟩ v0).setCell ⟨p, 1, none⟩ v1) q p x0 x1 x2 x3 y0 y1 u0 u1 v0 v1 :=
  ⟨⟨(h.aft.own.far (a := ⟨p, 0, none⟩) h.far2 v0).far (a := ⟨p, 1, none⟩) h.far2 v1, two_far (two_far h.aft.is (a := ⟨p, 0, none⟩) h.ne v0) (a := ⟨p, 1, none⟩) h.ne v1, h.aft.far⟩, V.two_set1 (V.two_set0 h.is2 v0) v1, h.far2, h.ne⟩
set_option maxRecDepth 100000 in
set_option maxHeartbeats 1200000 in
theorem rof_err2 (k : Int) (n : Int) (s : ByteArray) (b o c : Nat) (us : ByteArray) (xk xn : Int) (xa : Option Addr) (xl xc : Nat) (yk yn : Int) (ut : ByteArray) (ya : Option Addr) (yl yc : Nat) (a1 a2 : Option Addr) (n1 k1 n2 k2 : Nat) (rb : Bool) (rn : Int) (re : Nat) (h0 : re ≠ 0) (tb : Bool) (tn : Int) (te : Nat) (w : World) (hc : 2 ≤ c)
    (m0 : w.cell? ⟨b, o, none⟩ = some (.int .i64 xk)) (m1 : w.cell? ⟨b, o + 1, none⟩ = some (.int .i64 xn)) (m2 : w.cell? ⟨b, o + 2, none⟩ = some (.string us)) (m3 : w.cell? ⟨b, o + 3, none⟩ = some (.slice xa xl xc))
    (t0 : w.cell? ⟨b, o + 4, none⟩ = some (.int .i64 yk)) (t1 : w.cell? ⟨b, o + 4 + 1, none⟩ = some (.int .i64 yn)) (t2 : w.cell? ⟨b, o + 4 + 2, none⟩ = some (.string ut)) (t3 : w.cell? ⟨b, o + 4 + 3, none⟩ = some (.slice ya yl yc))
    (HI : Hid (∀ w', Below w.heap.size w w' → Calls Try.prog 29 #[.agg #[.int .i64 xk, .int .i64 xn, .string us, .slice xa xl xc], .agg #[.slice a1 n1 k1, .slice a2 n2 k2]] w' (EvP ⟨rb, rn, re⟩ w')))
    (HJ : Hid (∀ w', Below w.heap.size w w' → Calls Try.prog 29 #[.agg #[.int .i64 yk, .int .i64 yn, .string ut, .slice ya yl yc], .agg #[.slice a1 n1 k1, .slice a2 n2 k2]] w' (EvP ⟨tb, tn, te⟩ w'))) :
    Calls Try.prog 29 #[.agg #[.int .i64 k, .int .i64 n, .string s, .slice (some ⟨b, o, none⟩) 2 c], .agg #[.slice a1 n1 k1, .slice a2 n2 k2]] w (EvP (errV re) w) := by
  have hbl : b < w.heap.size := World.block_lt_of_cell? w _ m0
  have HO : Hid (Own3 w _ (.int .i64 k) (.int .i64 n) (.string s) (.slice (some ⟨b, o, none⟩) 2 c) (.slice a1 n1 k1) (.slice a2 n2 k2)) := Own3.new w _ _ _ _ _ _
  have hz := nz h0
  clear HJ
  unfold EvP errV at *
  simp only at *
  go_enter Try.func29, Try.ntmps29
  go_wp2_with fail
  generalize hW : ((w.alloc (.cells #[.int .i64 k, .int .i64 n, .string s, .slice (some ⟨b, o, none⟩) 2 c] 24)).alloc (.cells #[.slice a1 n1 k1, .slice a2 n2 k2] 28)).alloc (.cells #[.bool false, .int .i64 0] 32) = W at *
  have hsz : W.heap.size = w.heap.size + 1 + 1 + 1 := by rw [← hW, size_alloc, size_alloc, size_alloc]
  clear hW
  obtain ⟨q0, q1, q2, q3, q4⟩ := HO.out.t
  obtain ⟨g1, c0, c1, f0, f1⟩ := HO.out.v
  obtain ⟨g2, d0, d1, e0, e1⟩ := HO.out.r
  have HM : Hid (Six W w.heap.size (k) (.slice (some ⟨b, o, none⟩) 2 c) b o xk xn us xa xl xc ∧ Six W w.heap.size (k) (.slice (some ⟨b, o, none⟩) 2 c) b (o + 4) yk yn ut ya yl yc) := ⟨⟨q0, q3, (HO.out.low.cell (p := ⟨b, o, none⟩) hbl).trans m0, (HO.out.low.cell (p := ⟨b, o + 1, none⟩) hbl).trans m1, (HO.out.low.cell (p := ⟨b, o + 2, none⟩) hbl).trans m2, (HO.out.low.cell (p := ⟨b, o + 3, none⟩) hbl).trans m3⟩, ⟨q0, q3, (HO.out.low.cell (p := ⟨b, o + 4, none⟩) hbl).trans t0, (HO.out.low.cell (p := ⟨b, o + 4 + 1, none⟩) hbl).trans t1, (HO.out.low.cell (p := ⟨b, o + 4 + 2, none⟩) hbl).trans t2, (HO.out.low.cell (p := ⟨b, o + 4 + 3, none⟩) hbl).trans t3⟩⟩
  clear m0 m1 m2 m3 t0 t1 t2 t3
  obtain ⟨⟨_, _, m0, m1, m2, m3⟩, ⟨_, _, t0, t1, t2, t3⟩⟩ := HM.out
  have hbW : b < W.heap.size := Nat.lt_of_lt_of_le hbl HO.out.low.size
  have ne1 : w.heap.size ≠ W.heap.size := by omega
  have ne2 : w.heap.size + 1 ≠ W.heap.size := by omega
  have ne3 : b ≠ W.heap.size := by omega
  have ne4 : w.heap.size + 1 + 1 ≠ W.heap.size := by omega
  have ne5 : W.heap.size ≠ w.heap.size + 1 + 1 := by omega
  have ne6 : W.heap.size ≠ w.heap.size := by omega
  have ne7 : W.heap.size ≠ w.heap.size + 1 := by omega
  have ne8 : W.heap.size ≠ b := by omega
  have HS : Hid (W.heap.size = w.heap.size + 1 + 1 + 1) := hsz
  clear hsz
  go_region_held3 (fun w' => w'.cell? ⟨w.heap.size, 3, none⟩ = some (.slice (some ⟨b, o, none⟩) 2 c) ∧ w'.cell? ⟨w.heap.size + 1, 0, none⟩ = some (.slice a1 n1 k1) ∧ w'.cell? ⟨w.heap.size + 1, 1, none⟩ = some (.slice a2 n2 k2) ∧ w'.cell? ⟨b, o, none⟩ = some (.int .i64 xk) ∧ w'.cell? ⟨b, o + 1, none⟩ = some (.int .i64 xn) ∧ w'.cell? ⟨b, o + 2, none⟩ = some (.string us) ∧ w'.cell? ⟨b, o + 3, none⟩ = some (.slice xa xl xc)) (go_keep) (first
    | (go_at_call 29; refine (HI.out _ (Below.drew HO.out.low)).mono ?_; rintro e w2 ⟨rfl, HB2⟩; have H2 : Hid (Own3 w w2 (.int .i64 k) (.int .i64 n) (.string s) (.slice (some ⟨b, o, none⟩) 2 c) (.slice a1 n1 k1) (.slice a2 n2 k2) ∧ Six w2 w.heap.size (k) (.slice (some ⟨b, o, none⟩) 2 c) b o xk xn us xa xl xc ∧ Six w2 w.heap.size (k) (.slice (some ⟨b, o, none⟩) 2 c) b (o + 4) yk yn ut ya yl yc) := ⟨HO.out.drew.below HB2, ⟨HM.out.1.below (V.below_drew HB2), HM.out.2.below (V.below_drew HB2)⟩⟩; clear HB2; have HBE : Hid True := trivial; obtain ⟨g1, c0, c1, f0, f1⟩ := H2.out.1.v; obtain ⟨⟨q0, q3, m0, m1, m2, m3⟩, ⟨_, _, t0, t1, t2, t3⟩⟩ := H2.out.2; have hlt2 := Nat.lt_of_lt_of_le hbl H2.out.1.low.size)
    | (go_at_call 29; refine (HI.out _ (Below.drew ((Aft.behind HO.out (.bool false) (.int .i64 0)).own.low))).mono ?_; rintro e w2 ⟨rfl, HB2⟩; have H2 : Hid (Aft w w2 W.heap.size (.int .i64 k) (.int .i64 n) (.string s) (.slice (some ⟨b, o, none⟩) 2 c) (.slice a1 n1 k1) (.slice a2 n2 k2) (.bool false) (.int .i64 0) ∧ Six w2 w.heap.size (k) (.slice (some ⟨b, o, none⟩) 2 c) b o xk xn us xa xl xc ∧ Six w2 w.heap.size (k) (.slice (some ⟨b, o, none⟩) 2 c) b (o + 4) yk yn ut ya yl yc) := ⟨(Aft.behind HO.out _ _).below (V.below_drew HB2), ⟨(HM.out.1.below (below_one _ _)).below (V.below_drew HB2), (HM.out.2.below (below_one _ _)).below (V.below_drew HB2)⟩⟩; clear HB2; have HAH : Hid True := trivial; obtain ⟨g1, c0, c1, f0, f1⟩ := H2.out.1.own.v; obtain ⟨⟨q0, q3, m0, m1, m2, m3⟩, ⟨_, _, t0, t1, t2, t3⟩⟩ := H2.out.2; obtain ⟨g4, i0, i1, j0, j1⟩ := H2.out.1.is; have hlt2 := Nat.lt_of_lt_of_le hbl H2.out.1.own.low.size))
  all_goals first
    | (have := HBE; have HX : Hid (Aft w (w2.alloc (.cells #[.bool rb, .int .i64 rn] 32)) w2.heap.size (.int .i64 k) (.int .i64 n) (.string s) (.slice (some ⟨b, o, none⟩) 2 c) (.slice a1 n1 k1) (.slice a2 n2 k2) (.bool rb) (.int .i64 rn) ∧ Six (w2.alloc (.cells #[.bool rb, .int .i64 rn] 32)) w.heap.size (k) (.slice (some ⟨b, o, none⟩) 2 c) b o xk xn us xa xl xc ∧ Six (w2.alloc (.cells #[.bool rb, .int .i64 rn] 32)) w.heap.size (k) (.slice (some ⟨b, o, none⟩) 2 c) b (o + 4) yk yn ut ya yl yc) := ⟨Aft.behind H2.out.1 _ _, ⟨H2.out.2.1.below (below_one _ _), H2.out.2.2.below (below_one _ _)⟩⟩; clear H2 g1 c0 c1 f0 f1 q0 q3 m0 m1 m2 m3 t0 t1 t2 t3 hlt2; generalize w2.alloc (.cells #[.bool rb, .int .i64 rn] 32) = WX at *; generalize w2.heap.size = q at *)
    | (have := HAH; have HX : Hid (Aft w ((w2.setCell ⟨W.heap.size, 0, none⟩ (.bool rb)).setCell ⟨W.heap.size, 1, none⟩ (.int .i64 rn)) W.heap.size (.int .i64 k) (.int .i64 n) (.string s) (.slice (some ⟨b, o, none⟩) 2 c) (.slice a1 n1 k1) (.slice a2 n2 k2) (.bool rb) (.int .i64 rn) ∧ Six ((w2.setCell ⟨W.heap.size, 0, none⟩ (.bool rb)).setCell ⟨W.heap.size, 1, none⟩ (.int .i64 rn)) w.heap.size (k) (.slice (some ⟨b, o, none⟩) 2 c) b o xk xn us xa xl xc ∧ Six ((w2.setCell ⟨W.heap.size, 0, none⟩ (.bool rb)).setCell ⟨W.heap.size, 1, none⟩ (.int .i64 rn)) w.heap.size (k) (.slice (some ⟨b, o, none⟩) 2 c) b (o + 4) yk yn ut ya yl yc) := ⟨H2.out.1.ahead _ _, ⟨(H2.out.2.1.far (by omega) (by omega) 0 _).far (by omega) (by omega) 1 _, (H2.out.2.2.far (by omega) (by omega) 0 _).far (by omega) (by omega) 1 _⟩⟩; clear H2 g1 c0 c1 f0 f1 q0 q3 m0 m1 m2 m3 t0 t1 t2 t3 hlt2 g4 i0 i1 j0 j1; generalize (w2.setCell ⟨W.heap.size, 0, none⟩ (.bool rb)).setCell ⟨W.heap.size, 1, none⟩ (.int .i64 rn) = WX at *; generalize W.heap.size = q at *)
  all_goals (
    obtain ⟨q0, q1, q2, q3, q4⟩ := HX.out.1.own.t
    obtain ⟨g2, d0, d1, e0, e1⟩ := HX.out.1.own.r
    obtain ⟨g4, i0, i1, j0, j1⟩ := HX.out.1.is
    go_wp2
    refine bodyPost_ret (v := .tuple #[.agg #[.bool false, .int .i64 0], .int .i64 (re : Nat)]) (by simp [results, Try.results29, go_sem, d0, d1]) rfl ⟨rfl, HX.out.1.own.put _ _⟩)
set_option maxRecDepth 100000 in
set_option maxHeartbeats 1200000 in
theorem rof_stop13 (n : Int) (s : ByteArray) (b o c : Nat) (us : ByteArray) (xk xn : Int) (xa : Option Addr) (xl xc : Nat) (yk yn : Int) (ut : ByteArray) (ya : Option Addr) (yl yc : Nat) (a1 a2 : Option Addr) (n1 k1 n2 k2 : Nat) (rb : Bool) (rn : Int) (re : Nat) (h0 : re = 0) (hn : rn = 0) (tb : Bool) (tn : Int) (te : Nat) (w : World) (hc : 2 ≤ c)
    (m0 : w.cell? ⟨b, o, none⟩ = some (.int .i64 xk)) (m1 : w.cell? ⟨b, o + 1, none⟩ = some (.int .i64 xn)) (m2 : w.cell? ⟨b, o + 2, none⟩ = some (.string us)) (m3 : w.cell? ⟨b, o + 3, none⟩ = some (.slice xa xl xc))
    (t0 : w.cell? ⟨b, o + 4, none⟩ = some (.int .i64 yk)) (t1 : w.cell? ⟨b, o + 4 + 1, none⟩ = some (.int .i64 yn)) (t2 : w.cell? ⟨b, o + 4 + 2, none⟩ = some (.string ut)) (t3 : w.cell? ⟨b, o + 4 + 3, none⟩ = some (.slice ya yl yc))
    (HI : Hid (∀ w', Below w.heap.size w w' → Calls Try.prog 29 #[.agg #[.int .i64 xk, .int .i64 xn, .string us, .slice xa xl xc], .agg #[.slice a1 n1 k1, .slice a2 n2 k2]] w' (EvP ⟨rb, rn, re⟩ w')))
    (HJ : Hid (∀ w', Below w.heap.size w w' → Calls Try.prog 29 #[.agg #[.int .i64 yk, .int .i64 yn, .string ut, .slice ya yl yc], .agg #[.slice a1 n1 k1, .slice a2 n2 k2]] w' (EvP ⟨tb, tn, te⟩ w'))) :
    Calls Try.prog 29 #[.agg #[.int .i64 13, .int .i64 n, .string s, .slice (some ⟨b, o, none⟩) 2 c], .agg #[.slice a1 n1 k1, .slice a2 n2 k2]] w (EvP ⟨rb, rn, 0⟩ w) := by
  have hbl : b < w.heap.size := World.block_lt_of_cell? w _ m0
  have HO : Hid (Own3 w _ (.int .i64 13) (.int .i64 n) (.string s) (.slice (some ⟨b, o, none⟩) 2 c) (.slice a1 n1 k1) (.slice a2 n2 k2)) := Own3.new w _ _ _ _ _ _
  subst h0
  subst hn
  clear HJ
  unfold EvP at *
  simp only at *
  go_enter Try.func29, Try.ntmps29
  go_wp2_with fail
  generalize hW : ((w.alloc (.cells #[.int .i64 13, .int .i64 n, .string s, .slice (some ⟨b, o, none⟩) 2 c] 24)).alloc (.cells #[.slice a1 n1 k1, .slice a2 n2 k2] 28)).alloc (.cells #[.bool false, .int .i64 0] 32) = W at *
  have hsz : W.heap.size = w.heap.size + 1 + 1 + 1 := by rw [← hW, size_alloc, size_alloc, size_alloc]
  clear hW
  obtain ⟨q0, q1, q2, q3, q4⟩ := HO.out.t
  obtain ⟨g1, c0, c1, f0, f1⟩ := HO.out.v
  obtain ⟨g2, d0, d1, e0, e1⟩ := HO.out.r
  have HM : Hid (Six W w.heap.size (13) (.slice (some ⟨b, o, none⟩) 2 c) b o xk xn us xa xl xc ∧ Six W w.heap.size (13) (.slice (some ⟨b, o, none⟩) 2 c) b (o + 4) yk yn ut ya yl yc) := ⟨⟨q0, q3, (HO.out.low.cell (p := ⟨b, o, none⟩) hbl).trans m0, (HO.out.low.cell (p := ⟨b, o + 1, none⟩) hbl).trans m1, (HO.out.low.cell (p := ⟨b, o + 2, none⟩) hbl).trans m2, (HO.out.low.cell (p := ⟨b, o + 3, none⟩) hbl).trans m3⟩, ⟨q0, q3, (HO.out.low.cell (p := ⟨b, o + 4, none⟩) hbl).trans t0, (HO.out.low.cell (p := ⟨b, o + 4 + 1, none⟩) hbl).trans t1, (HO.out.low.cell (p := ⟨b, o + 4 + 2, none⟩) hbl).trans t2, (HO.out.low.cell (p := ⟨b, o + 4 + 3, none⟩) hbl).trans t3⟩⟩
  clear m0 m1 m2 m3 t0 t1 t2 t3
  obtain ⟨⟨_, _, m0, m1, m2, m3⟩, ⟨_, _, t0, t1, t2, t3⟩⟩ := HM.out
  have hbW : b < W.heap.size := Nat.lt_of_lt_of_le hbl HO.out.low.size
  have ne1 : w.heap.size ≠ W.heap.size := by omega
  have ne2 : w.heap.size + 1 ≠ W.heap.size := by omega
  have ne3 : b ≠ W.heap.size := by omega
  have ne4 : w.heap.size + 1 + 1 ≠ W.heap.size := by omega
  have ne5 : W.heap.size ≠ w.heap.size + 1 + 1 := by omega
  have ne6 : W.heap.size ≠ w.heap.size := by omega
  have ne7 : W.heap.size ≠ w.heap.size + 1 := by omega
  have ne8 : W.heap.size ≠ b := by omega
  have HS : Hid (W.heap.size = w.heap.size + 1 + 1 + 1) := hsz
  clear hsz
  go_region_held3 (fun w' => w'.cell? ⟨w.heap.size, 3, none⟩ = some (.slice (some ⟨b, o, none⟩) 2 c) ∧ w'.cell? ⟨w.heap.size + 1, 0, none⟩ = some (.slice a1 n1 k1) ∧ w'.cell? ⟨w.heap.size + 1, 1, none⟩ = some (.slice a2 n2 k2) ∧ w'.cell? ⟨b, o, none⟩ = some (.int .i64 xk) ∧ w'.cell? ⟨b, o + 1, none⟩ = some (.int .i64 xn) ∧ w'.cell? ⟨b, o + 2, none⟩ = some (.string us) ∧ w'.cell? ⟨b, o + 3, none⟩ = some (.slice xa xl xc)) (go_keep) (first
    | (go_at_call 29; refine (HI.out _ (Below.drew HO.out.low)).mono ?_; rintro e w2 ⟨rfl, HB2⟩; have H2 : Hid (Own3 w w2 (.int .i64 13) (.int .i64 n) (.string s) (.slice (some ⟨b, o, none⟩) 2 c) (.slice a1 n1 k1) (.slice a2 n2 k2) ∧ Six w2 w.heap.size (13) (.slice (some ⟨b, o, none⟩) 2 c) b o xk xn us xa xl xc ∧ Six w2 w.heap.size (13) (.slice (some ⟨b, o, none⟩) 2 c) b (o + 4) yk yn ut ya yl yc) := ⟨HO.out.drew.below HB2, ⟨HM.out.1.below (V.below_drew HB2), HM.out.2.below (V.below_drew HB2)⟩⟩; clear HB2; have HBE : Hid True := trivial; obtain ⟨g1, c0, c1, f0, f1⟩ := H2.out.1.v; obtain ⟨⟨q0, q3, m0, m1, m2, m3⟩, ⟨_, _, t0, t1, t2, t3⟩⟩ := H2.out.2; have hlt2 := Nat.lt_of_lt_of_le hbl H2.out.1.low.size)
    | (go_at_call 29; refine (HI.out _ (Below.drew ((Aft.behind HO.out (.bool false) (.int .i64 0)).own.low))).mono ?_; rintro e w2 ⟨rfl, HB2⟩; have H2 : Hid (Aft w w2 W.heap.size (.int .i64 13) (.int .i64 n) (.string s) (.slice (some ⟨b, o, none⟩) 2 c) (.slice a1 n1 k1) (.slice a2 n2 k2) (.bool false) (.int .i64 0) ∧ Six w2 w.heap.size (13) (.slice (some ⟨b, o, none⟩) 2 c) b o xk xn us xa xl xc ∧ Six w2 w.heap.size (13) (.slice (some ⟨b, o, none⟩) 2 c) b (o + 4) yk yn ut ya yl yc) := ⟨(Aft.behind HO.out _ _).below (V.below_drew HB2), ⟨(HM.out.1.below (below_one _ _)).below (V.below_drew HB2), (HM.out.2.below (below_one _ _)).below (V.below_drew HB2)⟩⟩; clear HB2; have HAH : Hid True := trivial; obtain ⟨g1, c0, c1, f0, f1⟩ := H2.out.1.own.v; obtain ⟨⟨q0, q3, m0, m1, m2, m3⟩, ⟨_, _, t0, t1, t2, t3⟩⟩ := H2.out.2; obtain ⟨g4, i0, i1, j0, j1⟩ := H2.out.1.is; have hlt2 := Nat.lt_of_lt_of_le hbl H2.out.1.own.low.size))
  all_goals first
    | (have := HBE; have HX : Hid (Aft w (w2.alloc (.cells #[.bool rb, .int .i64 0] 32)) w2.heap.size (.int .i64 13) (.int .i64 n) (.string s) (.slice (some ⟨b, o, none⟩) 2 c) (.slice a1 n1 k1) (.slice a2 n2 k2) (.bool rb) (.int .i64 0) ∧ Six (w2.alloc (.cells #[.bool rb, .int .i64 0] 32)) w.heap.size (13) (.slice (some ⟨b, o, none⟩) 2 c) b o xk xn us xa xl xc ∧ Six (w2.alloc (.cells #[.bool rb, .int .i64 0] 32)) w.heap.size (13) (.slice (some ⟨b, o, none⟩) 2 c) b (o + 4) yk yn ut ya yl yc) := ⟨Aft.behind H2.out.1 _ _, ⟨H2.out.2.1.below (below_one _ _), H2.out.2.2.below (below_one _ _)⟩⟩; clear H2 g1 c0 c1 f0 f1 q0 q3 m0 m1 m2 m3 t0 t1 t2 t3 hlt2; generalize w2.alloc (.cells #[.bool rb, .int .i64 0] 32) = WX at *; generalize w2.heap.size = q at *)
    | (have := HAH; have HX : Hid (Aft w ((w2.setCell ⟨W.heap.size, 0, none⟩ (.bool rb)).setCell ⟨W.heap.size, 1, none⟩ (.int .i64 0)) W.heap.size (.int .i64 13) (.int .i64 n) (.string s) (.slice (some ⟨b, o, none⟩) 2 c) (.slice a1 n1 k1) (.slice a2 n2 k2) (.bool rb) (.int .i64 0) ∧ Six ((w2.setCell ⟨W.heap.size, 0, none⟩ (.bool rb)).setCell ⟨W.heap.size, 1, none⟩ (.int .i64 0)) w.heap.size (13) (.slice (some ⟨b, o, none⟩) 2 c) b o xk xn us xa xl xc ∧ Six ((w2.setCell ⟨W.heap.size, 0, none⟩ (.bool rb)).setCell ⟨W.heap.size, 1, none⟩ (.int .i64 0)) w.heap.size (13) (.slice (some ⟨b, o, none⟩) 2 c) b (o + 4) yk yn ut ya yl yc) := ⟨H2.out.1.ahead _ _, ⟨(H2.out.2.1.far (by omega) (by omega) 0 _).far (by omega) (by omega) 1 _, (H2.out.2.2.far (by omega) (by omega) 0 _).far (by omega) (by omega) 1 _⟩⟩; clear H2 g1 c0 c1 f0 f1 q0 q3 m0 m1 m2 m3 t0 t1 t2 t3 hlt2 g4 i0 i1 j0 j1; generalize (w2.setCell ⟨W.heap.size, 0, none⟩ (.bool rb)).setCell ⟨W.heap.size, 1, none⟩ (.int .i64 0) = WX at *; generalize W.heap.size = q at *)
  all_goals (
    obtain ⟨q0, q1, q2, q3, q4⟩ := HX.out.1.own.t
    obtain ⟨g2, d0, d1, e0, e1⟩ := HX.out.1.own.r
    obtain ⟨g4, i0, i1, j0, j1⟩ := HX.out.1.is
    go_wp2
    refine bodyPost_ret (v := .tuple #[.agg #[.bool rb, .int .i64 0], .int .i64 0]) (by simp [results, Try.results29, go_sem, d0, d1]) rfl ⟨rfl, HX.out.1.own.put _ _⟩)
set_option maxRecDepth 100000 in
set_option maxHeartbeats 1200000 in
theorem rof_stop14 (n : Int) (s : ByteArray) (b o c : Nat) (us : ByteArray) (xk xn : Int) (xa : Option Addr) (xl xc : Nat) (yk yn : Int) (ut : ByteArray) (ya : Option Addr) (yl yc : Nat) (a1 a2 : Option Addr) (n1 k1 n2 k2 : Nat) (rb : Bool) (rn : Int) (re : Nat) (h0 : re = 0) (hn : rn = 1) (tb : Bool) (tn : Int) (te : Nat) (w : World) (hc : 2 ≤ c)
    (m0 : w.cell? ⟨b, o, none⟩ = some (.int .i64 xk)) (m1 : w.cell? ⟨b, o + 1, none⟩ = some (.int .i64 xn)) (m2 : w.cell? ⟨b, o + 2, none⟩ = some (.string us)) (m3 : w.cell? ⟨b, o + 3, none⟩ = some (.slice xa xl xc))
    (t0 : w.cell? ⟨b, o + 4, none⟩ = some (.int .i64 yk)) (t1 : w.cell? ⟨b, o + 4 + 1, none⟩ = some (.int .i64 yn)) (t2 : w.cell? ⟨b, o + 4 + 2, none⟩ = some (.string ut)) (t3 : w.cell? ⟨b, o + 4 + 3, none⟩ = some (.slice ya yl yc))
    (HI : Hid (∀ w', Below w.heap.size w w' → Calls Try.prog 29 #[.agg #[.int .i64 xk, .int .i64 xn, .string us, .slice xa xl xc], .agg #[.slice a1 n1 k1, .slice a2 n2 k2]] w' (EvP ⟨rb, rn, re⟩ w')))
    (HJ : Hid (∀ w', Below w.heap.size w w' → Calls Try.prog 29 #[.agg #[.int .i64 yk, .int .i64 yn, .string ut, .slice ya yl yc], .agg #[.slice a1 n1 k1, .slice a2 n2 k2]] w' (EvP ⟨tb, tn, te⟩ w'))) :
    Calls Try.prog 29 #[.agg #[.int .i64 14, .int .i64 n, .string s, .slice (some ⟨b, o, none⟩) 2 c], .agg #[.slice a1 n1 k1, .slice a2 n2 k2]] w (EvP ⟨rb, rn, 0⟩ w) := by
  have hbl : b < w.heap.size := World.block_lt_of_cell? w _ m0
  have HO : Hid (Own3 w _ (.int .i64 14) (.int .i64 n) (.string s) (.slice (some ⟨b, o, none⟩) 2 c) (.slice a1 n1 k1) (.slice a2 n2 k2)) := Own3.new w _ _ _ _ _ _
  subst h0
  subst hn
  clear HJ
  unfold EvP at *
  simp only at *
  go_enter Try.func29, Try.ntmps29
  go_wp2_with fail
  generalize hW : ((w.alloc (.cells #[.int .i64 14, .int .i64 n, .string s, .slice (some ⟨b, o, none⟩) 2 c] 24)).alloc (.cells #[.slice a1 n1 k1, .slice a2 n2 k2] 28)).alloc (.cells #[.bool false, .int .i64 0] 32) = W at *
  have hsz : W.heap.size = w.heap.size + 1 + 1 + 1 := by rw [← hW, size_alloc, size_alloc, size_alloc]
  clear hW
  obtain ⟨q0, q1, q2, q3, q4⟩ := HO.out.t
  obtain ⟨g1, c0, c1, f0, f1⟩ := HO.out.v
  obtain ⟨g2, d0, d1, e0, e1⟩ := HO.out.r
  have HM : Hid (Six W w.heap.size (14) (.slice (some ⟨b, o, none⟩) 2 c) b o xk xn us xa xl xc ∧ Six W w.heap.size (14) (.slice (some ⟨b, o, none⟩) 2 c) b (o + 4) yk yn ut ya yl yc) := ⟨⟨q0, q3, (HO.out.low.cell (p := ⟨b, o, none⟩) hbl).trans m0, (HO.out.low.cell (p := ⟨b, o + 1, none⟩) hbl).trans m1, (HO.out.low.cell (p := ⟨b, o + 2, none⟩) hbl).trans m2, (HO.out.low.cell (p := ⟨b, o + 3, none⟩) hbl).trans m3⟩, ⟨q0, q3, (HO.out.low.cell (p := ⟨b, o + 4, none⟩) hbl).trans t0, (HO.out.low.cell (p := ⟨b, o + 4 + 1, none⟩) hbl).trans t1, (HO.out.low.cell (p := ⟨b, o + 4 + 2, none⟩) hbl).trans t2, (HO.out.low.cell (p := ⟨b, o + 4 + 3, none⟩) hbl).trans t3⟩⟩
  clear m0 m1 m2 m3 t0 t1 t2 t3
  obtain ⟨⟨_, _, m0, m1, m2, m3⟩, ⟨_, _, t0, t1, t2, t3⟩⟩ := HM.out
  have hbW : b < W.heap.size := Nat.lt_of_lt_of_le hbl HO.out.low.size
  have ne1 : w.heap.size ≠ W.heap.size := by omega
  have ne2 : w.heap.size + 1 ≠ W.heap.size := by omega
  have ne3 : b ≠ W.heap.size := by omega
  have ne4 : w.heap.size + 1 + 1 ≠ W.heap.size := by omega
  have ne5 : W.heap.size ≠ w.heap.size + 1 + 1 := by omega
  have ne6 : W.heap.size ≠ w.heap.size := by omega
  have ne7 : W.heap.size ≠ w.heap.size + 1 := by omega
  have ne8 : W.heap.size ≠ b := by omega
  have HS : Hid (W.heap.size = w.heap.size + 1 + 1 + 1) := hsz
  clear hsz
  go_region_held3 (fun w' => w'.cell? ⟨w.heap.size, 3, none⟩ = some (.slice (some ⟨b, o, none⟩) 2 c) ∧ w'.cell? ⟨w.heap.size + 1, 0, none⟩ = some (.slice a1 n1 k1) ∧ w'.cell? ⟨w.heap.size + 1, 1, none⟩ = some (.slice a2 n2 k2) ∧ w'.cell? ⟨b, o, none⟩ = some (.int .i64 xk) ∧ w'.cell? ⟨b, o + 1, none⟩ = some (.int .i64 xn) ∧ w'.cell? ⟨b, o + 2, none⟩ = some (.string us) ∧ w'.cell? ⟨b, o + 3, none⟩ = some (.slice xa xl xc)) (go_keep) (first
    | (go_at_call 29; refine (HI.out _ (Below.drew HO.out.low)).mono ?_; rintro e w2 ⟨rfl, HB2⟩; have H2 : Hid (Own3 w w2 (.int .i64 14) (.int .i64 n) (.string s) (.slice (some ⟨b, o, none⟩) 2 c) (.slice a1 n1 k1) (.slice a2 n2 k2) ∧ Six w2 w.heap.size (14) (.slice (some ⟨b, o, none⟩) 2 c) b o xk xn us xa xl xc ∧ Six w2 w.heap.size (14) (.slice (some ⟨b, o, none⟩) 2 c) b (o + 4) yk yn ut ya yl yc) := ⟨HO.out.drew.below HB2, ⟨HM.out.1.below (V.below_drew HB2), HM.out.2.below (V.below_drew HB2)⟩⟩; clear HB2; have HBE : Hid True := trivial; obtain ⟨g1, c0, c1, f0, f1⟩ := H2.out.1.v; obtain ⟨⟨q0, q3, m0, m1, m2, m3⟩, ⟨_, _, t0, t1, t2, t3⟩⟩ := H2.out.2; have hlt2 := Nat.lt_of_lt_of_le hbl H2.out.1.low.size)
    | (go_at_call 29; refine (HI.out _ (Below.drew ((Aft.behind HO.out (.bool false) (.int .i64 0)).own.low))).mono ?_; rintro e w2 ⟨rfl, HB2⟩; have H2 : Hid (Aft w w2 W.heap.size (.int .i64 14) (.int .i64 n) (.string s) (.slice (some ⟨b, o, none⟩) 2 c) (.slice a1 n1 k1) (.slice a2 n2 k2) (.bool false) (.int .i64 0) ∧ Six w2 w.heap.size (14) (.slice (some ⟨b, o, none⟩) 2 c) b o xk xn us xa xl xc ∧ Six w2 w.heap.size (14) (.slice (some ⟨b, o, none⟩) 2 c) b (o + 4) yk yn ut ya yl yc) := ⟨(Aft.behind HO.out _ _).below (V.below_drew HB2), ⟨(HM.out.1.below (below_one _ _)).below (V.below_drew HB2), (HM.out.2.below (below_one _ _)).below (V.below_drew HB2)⟩⟩; clear HB2; have HAH : Hid True := trivial; obtain ⟨g1, c0, c1, f0, f1⟩ := H2.out.1.own.v; obtain ⟨⟨q0, q3, m0, m1, m2, m3⟩, ⟨_, _, t0, t1, t2, t3⟩⟩ := H2.out.2; obtain ⟨g4, i0, i1, j0, j1⟩ := H2.out.1.is; have hlt2 := Nat.lt_of_lt_of_le hbl H2.out.1.own.low.size))
  all_goals first
    | (have := HBE; have HX : Hid (Aft w (w2.alloc (.cells #[.bool rb, .int .i64 1] 32)) w2.heap.size (.int .i64 14) (.int .i64 n) (.string s) (.slice (some ⟨b, o, none⟩) 2 c) (.slice a1 n1 k1) (.slice a2 n2 k2) (.bool rb) (.int .i64 1) ∧ Six (w2.alloc (.cells #[.bool rb, .int .i64 1] 32)) w.heap.size (14) (.slice (some ⟨b, o, none⟩) 2 c) b o xk xn us xa xl xc ∧ Six (w2.alloc (.cells #[.bool rb, .int .i64 1] 32)) w.heap.size (14) (.slice (some ⟨b, o, none⟩) 2 c) b (o + 4) yk yn ut ya yl yc) := ⟨Aft.behind H2.out.1 _ _, ⟨H2.out.2.1.below (below_one _ _), H2.out.2.2.below (below_one _ _)⟩⟩; clear H2 g1 c0 c1 f0 f1 q0 q3 m0 m1 m2 m3 t0 t1 t2 t3 hlt2; generalize w2.alloc (.cells #[.bool rb, .int .i64 1] 32) = WX at *; generalize w2.heap.size = q at *)
    | (have := HAH; have HX : Hid (Aft w ((w2.setCell ⟨W.heap.size, 0, none⟩ (.bool rb)).setCell ⟨W.heap.size, 1, none⟩ (.int .i64 1)) W.heap.size (.int .i64 14) (.int .i64 n) (.string s) (.slice (some ⟨b, o, none⟩) 2 c) (.slice a1 n1 k1) (.slice a2 n2 k2) (.bool rb) (.int .i64 1) ∧ Six ((w2.setCell ⟨W.heap.size, 0, none⟩ (.bool rb)).setCell ⟨W.heap.size, 1, none⟩ (.int .i64 1)) w.heap.size (14) (.slice (some ⟨b, o, none⟩) 2 c) b o xk xn us xa xl xc ∧ Six ((w2.setCell ⟨W.heap.size, 0, none⟩ (.bool rb)).setCell ⟨W.heap.size, 1, none⟩ (.int .i64 1)) w.heap.size (14) (.slice (some ⟨b, o, none⟩) 2 c) b (o + 4) yk yn ut ya yl yc) := ⟨H2.out.1.ahead _ _, ⟨(H2.out.2.1.far (by omega) (by omega) 0 _).far (by omega) (by omega) 1 _, (H2.out.2.2.far (by omega) (by omega) 0 _).far (by omega) (by omega) 1 _⟩⟩; clear H2 g1 c0 c1 f0 f1 q0 q3 m0 m1 m2 m3 t0 t1 t2 t3 hlt2 g4 i0 i1 j0 j1; generalize (w2.setCell ⟨W.heap.size, 0, none⟩ (.bool rb)).setCell ⟨W.heap.size, 1, none⟩ (.int .i64 1) = WX at *; generalize W.heap.size = q at *)
  all_goals (
    obtain ⟨q0, q1, q2, q3, q4⟩ := HX.out.1.own.t
    obtain ⟨g2, d0, d1, e0, e1⟩ := HX.out.1.own.r
    obtain ⟨g4, i0, i1, j0, j1⟩ := HX.out.1.is
    go_wp2
    refine bodyPost_ret (v := .tuple #[.agg #[.bool rb, .int .i64 1], .int .i64 0]) (by simp [results, Try.results29, go_sem, d0, d1]) rfl ⟨rfl, HX.out.1.own.put _ _⟩)
set_option maxRecDepth 100000 in
set_option maxHeartbeats 1200000 in
theorem rof_errb13 (n : Int) (s : ByteArray) (b o c : Nat) (us : ByteArray) (xk xn : Int) (xa : Option Addr) (xl xc : Nat) (yk yn : Int) (ut : ByteArray) (ya : Option Addr) (yl yc : Nat) (a1 a2 : Option Addr) (n1 k1 n2 k2 : Nat) (rb : Bool) (rn : Int) (re : Nat) (h0 : re = 0) (hn : rn ≠ 0) (tb : Bool) (tn : Int) (te : Nat) (h1 : te ≠ 0) (w : World) (hc : 2 ≤ c)
    (m0 : w.cell? ⟨b, o, none⟩ = some (.int .i64 xk)) (m1 : w.cell? ⟨b, o + 1, none⟩ = some (.int .i64 xn)) (m2 : w.cell? ⟨b, o + 2, none⟩ = some (.string us)) (m3 : w.cell? ⟨b, o + 3, none⟩ = some (.slice xa xl xc))
    (t0 : w.cell? ⟨b, o + 4, none⟩ = some (.int .i64 yk)) (t1 : w.cell? ⟨b, o + 4 + 1, none⟩ = some (.int .i64 yn)) (t2 : w.cell? ⟨b, o + 4 + 2, none⟩ = some (.string ut)) (t3 : w.cell? ⟨b, o + 4 + 3, none⟩ = some (.slice ya yl yc))
    (HI : Hid (∀ w', Below w.heap.size w w' → Calls Try.prog 29 #[.agg #[.int .i64 xk, .int .i64 xn, .string us, .slice xa xl xc], .agg #[.slice a1 n1 k1, .slice a2 n2 k2]] w' (EvP ⟨rb, rn, re⟩ w')))
    (HJ : Hid (∀ w', Below w.heap.size w w' → Calls Try.prog 29 #[.agg #[.int .i64 yk, .int .i64 yn, .string ut, .slice ya yl yc], .agg #[.slice a1 n1 k1, .slice a2 n2 k2]] w' (EvP ⟨tb, tn, te⟩ w'))) :
    Calls Try.prog 29 #[.agg #[.int .i64 13, .int .i64 n, .string s, .slice (some ⟨b, o, none⟩) 2 c], .agg #[.slice a1 n1 k1, .slice a2 n2 k2]] w (EvP (errV te) w) := by
  have hbl : b < w.heap.size := World.block_lt_of_cell? w _ m0
  have HO : Hid (Own3 w _ (.int .i64 13) (.int .i64 n) (.string s) (.slice (some ⟨b, o, none⟩) 2 c) (.slice a1 n1 k1) (.slice a2 n2 k2)) := Own3.new w _ _ _ _ _ _
  subst h0
  have hz := nz h1
  have hnx : (rn == 0) = false := by simpa using hn
  unfold EvP errV at *
  simp only at *
  go_enter Try.func29, Try.ntmps29
  go_wp2_with fail
  generalize hW : ((w.alloc (.cells #[.int .i64 13, .int .i64 n, .string s, .slice (some ⟨b, o, none⟩) 2 c] 24)).alloc (.cells #[.slice a1 n1 k1, .slice a2 n2 k2] 28)).alloc (.cells #[.bool false, .int .i64 0] 32) = W at *
  have hsz : W.heap.size = w.heap.size + 1 + 1 + 1 := by rw [← hW, size_alloc, size_alloc, size_alloc]
  clear hW
  obtain ⟨q0, q1, q2, q3, q4⟩ := HO.out.t
  obtain ⟨g1, c0, c1, f0, f1⟩ := HO.out.v
  obtain ⟨g2, d0, d1, e0, e1⟩ := HO.out.r
  have HM : Hid (Six W w.heap.size (13) (.slice (some ⟨b, o, none⟩) 2 c) b o xk xn us xa xl xc ∧ Six W w.heap.size (13) (.slice (some ⟨b, o, none⟩) 2 c) b (o + 4) yk yn ut ya yl yc) := ⟨⟨q0, q3, (HO.out.low.cell (p := ⟨b, o, none⟩) hbl).trans m0, (HO.out.low.cell (p := ⟨b, o + 1, none⟩) hbl).trans m1, (HO.out.low.cell (p := ⟨b, o + 2, none⟩) hbl).trans m2, (HO.out.low.cell (p := ⟨b, o + 3, none⟩) hbl).trans m3⟩, ⟨q0, q3, (HO.out.low.cell (p := ⟨b, o + 4, none⟩) hbl).trans t0, (HO.out.low.cell (p := ⟨b, o + 4 + 1, none⟩) hbl).trans t1, (HO.out.low.cell (p := ⟨b, o + 4 + 2, none⟩) hbl).trans t2, (HO.out.low.cell (p := ⟨b, o + 4 + 3, none⟩) hbl).trans t3⟩⟩
  clear m0 m1 m2 m3 t0 t1 t2 t3
  obtain ⟨⟨_, _, m0, m1, m2, m3⟩, ⟨_, _, t0, t1, t2, t3⟩⟩ := HM.out
  have hbW : b < W.heap.size := Nat.lt_of_lt_of_le hbl HO.out.low.size
  have ne1 : w.heap.size ≠ W.heap.size := by omega
  have ne2 : w.heap.size + 1 ≠ W.heap.size := by omega
  have ne3 : b ≠ W.heap.size := by omega
  have ne4 : w.heap.size + 1 + 1 ≠ W.heap.size := by omega
  have ne5 : W.heap.size ≠ w.heap.size + 1 + 1 := by omega
  have ne6 : W.heap.size ≠ w.heap.size := by omega
  have ne7 : W.heap.size ≠ w.heap.size + 1 := by omega
  have ne8 : W.heap.size ≠ b := by omega
  have HS : Hid (W.heap.size = w.heap.size + 1 + 1 + 1) := hsz
  clear hsz
  go_region_held3 (fun w' => w'.cell? ⟨w.heap.size, 3, none⟩ = some (.slice (some ⟨b, o, none⟩) 2 c) ∧ w'.cell? ⟨w.heap.size + 1, 0, none⟩ = some (.slice a1 n1 k1) ∧ w'.cell? ⟨w.heap.size + 1, 1, none⟩ = some (.slice a2 n2 k2) ∧ w'.cell? ⟨b, o, none⟩ = some (.int .i64 xk) ∧ w'.cell? ⟨b, o + 1, none⟩ = some (.int .i64 xn) ∧ w'.cell? ⟨b, o + 2, none⟩ = some (.string us) ∧ w'.cell? ⟨b, o + 3, none⟩ = some (.slice xa xl xc)) (go_keep) (first
    | (go_at_call 29; refine (HI.out _ (Below.drew HO.out.low)).mono ?_; rintro e w2 ⟨rfl, HB2⟩; have H2 : Hid (Own3 w w2 (.int .i64 13) (.int .i64 n) (.string s) (.slice (some ⟨b, o, none⟩) 2 c) (.slice a1 n1 k1) (.slice a2 n2 k2) ∧ Six w2 w.heap.size (13) (.slice (some ⟨b, o, none⟩) 2 c) b o xk xn us xa xl xc ∧ Six w2 w.heap.size (13) (.slice (some ⟨b, o, none⟩) 2 c) b (o + 4) yk yn ut ya yl yc) := ⟨HO.out.drew.below HB2, ⟨HM.out.1.below (V.below_drew HB2), HM.out.2.below (V.below_drew HB2)⟩⟩; clear HB2; have HBE : Hid True := trivial; obtain ⟨g1, c0, c1, f0, f1⟩ := H2.out.1.v; obtain ⟨⟨q0, q3, m0, m1, m2, m3⟩, ⟨_, _, t0, t1, t2, t3⟩⟩ := H2.out.2; have hlt2 := Nat.lt_of_lt_of_le hbl H2.out.1.low.size)
    | (go_at_call 29; refine (HI.out _ (Below.drew ((Aft.behind HO.out (.bool false) (.int .i64 0)).own.low))).mono ?_; rintro e w2 ⟨rfl, HB2⟩; have H2 : Hid (Aft w w2 W.heap.size (.int .i64 13) (.int .i64 n) (.string s) (.slice (some ⟨b, o, none⟩) 2 c) (.slice a1 n1 k1) (.slice a2 n2 k2) (.bool false) (.int .i64 0) ∧ Six w2 w.heap.size (13) (.slice (some ⟨b, o, none⟩) 2 c) b o xk xn us xa xl xc ∧ Six w2 w.heap.size (13) (.slice (some ⟨b, o, none⟩) 2 c) b (o + 4) yk yn ut ya yl yc) := ⟨(Aft.behind HO.out _ _).below (V.below_drew HB2), ⟨(HM.out.1.below (below_one _ _)).below (V.below_drew HB2), (HM.out.2.below (below_one _ _)).below (V.below_drew HB2)⟩⟩; clear HB2; have HAH : Hid True := trivial; obtain ⟨g1, c0, c1, f0, f1⟩ := H2.out.1.own.v; obtain ⟨⟨q0, q3, m0, m1, m2, m3⟩, ⟨_, _, t0, t1, t2, t3⟩⟩ := H2.out.2; obtain ⟨g4, i0, i1, j0, j1⟩ := H2.out.1.is; have hlt2 := Nat.lt_of_lt_of_le hbl H2.out.1.own.low.size))
  all_goals first
    | (have := HBE; have HX : Hid (Aft w (w2.alloc (.cells #[.bool rb, .int .i64 rn] 32)) w2.heap.size (.int .i64 13) (.int .i64 n) (.string s) (.slice (some ⟨b, o, none⟩) 2 c) (.slice a1 n1 k1) (.slice a2 n2 k2) (.bool rb) (.int .i64 rn) ∧ Six (w2.alloc (.cells #[.bool rb, .int .i64 rn] 32)) w.heap.size (13) (.slice (some ⟨b, o, none⟩) 2 c) b o xk xn us xa xl xc ∧ Six (w2.alloc (.cells #[.bool rb, .int .i64 rn] 32)) w.heap.size (13) (.slice (some ⟨b, o, none⟩) 2 c) b (o + 4) yk yn ut ya yl yc) := ⟨Aft.behind H2.out.1 _ _, ⟨H2.out.2.1.below (below_one _ _), H2.out.2.2.below (below_one _ _)⟩⟩; clear H2 g1 c0 c1 f0 f1 q0 q3 m0 m1 m2 m3 t0 t1 t2 t3 hlt2; generalize w2.alloc (.cells #[.bool rb, .int .i64 rn] 32) = WX at *; generalize w2.heap.size = q at *)
    | (have := HAH; have HX : Hid (Aft w ((w2.setCell ⟨W.heap.size, 0, none⟩ (.bool rb)).setCell ⟨W.heap.size, 1, none⟩ (.int .i64 rn)) W.heap.size (.int .i64 13) (.int .i64 n) (.string s) (.slice (some ⟨b, o, none⟩) 2 c) (.slice a1 n1 k1) (.slice a2 n2 k2) (.bool rb) (.int .i64 rn) ∧ Six ((w2.setCell ⟨W.heap.size, 0, none⟩ (.bool rb)).setCell ⟨W.heap.size, 1, none⟩ (.int .i64 rn)) w.heap.size (13) (.slice (some ⟨b, o, none⟩) 2 c) b o xk xn us xa xl xc ∧ Six ((w2.setCell ⟨W.heap.size, 0, none⟩ (.bool rb)).setCell ⟨W.heap.size, 1, none⟩ (.int .i64 rn)) w.heap.size (13) (.slice (some ⟨b, o, none⟩) 2 c) b (o + 4) yk yn ut ya yl yc) := ⟨H2.out.1.ahead _ _, ⟨(H2.out.2.1.far (by omega) (by omega) 0 _).far (by omega) (by omega) 1 _, (H2.out.2.2.far (by omega) (by omega) 0 _).far (by omega) (by omega) 1 _⟩⟩; clear H2 g1 c0 c1 f0 f1 q0 q3 m0 m1 m2 m3 t0 t1 t2 t3 hlt2 g4 i0 i1 j0 j1; generalize (w2.setCell ⟨W.heap.size, 0, none⟩ (.bool rb)).setCell ⟨W.heap.size, 1, none⟩ (.int .i64 rn) = WX at *; generalize W.heap.size = q at *)
  all_goals (
    obtain ⟨q0, q1, q2, q3, q4⟩ := HX.out.1.own.t
    obtain ⟨g2, d0, d1, e0, e1⟩ := HX.out.1.own.r
    obtain ⟨g4, i0, i1, j0, j1⟩ := HX.out.1.is
    obtain ⟨g1, c0, c1, f0, f1⟩ := HX.out.1.own.v
    obtain ⟨_, _, t0, t1, t2, t3⟩ := HX.out.2.2
    have hbX : b < WX.heap.size := Nat.lt_of_lt_of_le hbl HX.out.1.own.low.size
    have hgX : w.heap.size + 1 + 1 < WX.heap.size := HX.out.1.own.r.lt
    have nx1 : w.heap.size ≠ WX.heap.size := by omega
    have nx2 : w.heap.size + 1 ≠ WX.heap.size := by omega
    have nx3 : b ≠ WX.heap.size := by omega
    have nx4 : w.heap.size + 1 + 1 ≠ WX.heap.size := by omega
    have nx5 : WX.heap.size ≠ w.heap.size + 1 + 1 := by omega
    have nx6 : WX.heap.size ≠ w.heap.size := by omega
    have nx7 : WX.heap.size ≠ w.heap.size + 1 := by omega
    have nx8 : WX.heap.size ≠ b := by omega
    go_wp2_with fail
    go_region_held3 (fun w' => w'.cell? ⟨w.heap.size, 3, none⟩ = some (.slice (some ⟨b, o, none⟩) 2 c) ∧ w'.cell? ⟨w.heap.size + 1, 0, none⟩ = some (.slice a1 n1 k1) ∧ w'.cell? ⟨w.heap.size + 1, 1, none⟩ = some (.slice a2 n2 k2) ∧ w'.cell? ⟨b, o + 4, none⟩ = some (.int .i64 yk) ∧ w'.cell? ⟨b, o + 4 + 1, none⟩ = some (.int .i64 yn) ∧ w'.cell? ⟨b, o + 4 + 2, none⟩ = some (.string ut) ∧ w'.cell? ⟨b, o + 4 + 3, none⟩ = some (.slice ya yl yc)) (go_keep) (first
      | (go_at_call 29; refine (HJ.out _ (Below.drew HX.out.1.own.low)).mono ?_; rintro e w3 ⟨rfl, HB3⟩; have H3 : Hid (Aft w w3 q (.int .i64 13) (.int .i64 n) (.string s) (.slice (some ⟨b, o, none⟩) 2 c) (.slice a1 n1 k1) (.slice a2 n2 k2) (.bool rb) (.int .i64 rn) ∧ Six w3 w.heap.size (13) (.slice (some ⟨b, o, none⟩) 2 c) b (o + 4) yk yn ut ya yl yc) := ⟨HX.out.1.below (V.below_drew HB3), HX.out.2.2.below (V.below_drew HB3)⟩; clear HB3; have HBE2 : Hid True := trivial; obtain ⟨g1, c0, c1, f0, f1⟩ := H3.out.1.own.v; obtain ⟨q0, q3, t0, t1, t2, t3⟩ := H3.out.2; have hlt3 := Nat.lt_of_lt_of_le hbl H3.out.1.own.low.size)
      | (go_at_call 29; refine (HJ.out _ (Below.drew ((Aft2.behind HX.out.1 (.bool false) (.int .i64 0)).aft.own.low))).mono ?_; rintro e w3 ⟨rfl, HB3⟩; have H3 : Hid (Aft2 w w3 q WX.heap.size (.int .i64 13) (.int .i64 n) (.string s) (.slice (some ⟨b, o, none⟩) 2 c) (.slice a1 n1 k1) (.slice a2 n2 k2) (.bool rb) (.int .i64 rn) (.bool false) (.int .i64 0) ∧ Six w3 w.heap.size (13) (.slice (some ⟨b, o, none⟩) 2 c) b (o + 4) yk yn ut ya yl yc) := ⟨(Aft2.behind HX.out.1 _ _).below (V.below_drew HB3), (HX.out.2.2.below (below_one _ _)).below (V.below_drew HB3)⟩; clear HB3; have HAH2 : Hid True := trivial; obtain ⟨g1, c0, c1, f0, f1⟩ := H3.out.1.aft.own.v; obtain ⟨q0, q3, t0, t1, t2, t3⟩ := H3.out.2; obtain ⟨g5, k0, k3, l0, l1⟩ := H3.out.1.is2; have hlt3 := Nat.lt_of_lt_of_le hbl H3.out.1.aft.own.low.size))
    all_goals first
      | (have := HBE2; have HY : Hid (Aft2 w (w3.alloc (.cells #[.bool tb, .int .i64 tn] 32)) q w3.heap.size (.int .i64 13) (.int .i64 n) (.string s) (.slice (some ⟨b, o, none⟩) 2 c) (.slice a1 n1 k1) (.slice a2 n2 k2) (.bool rb) (.int .i64 rn) (.bool tb) (.int .i64 tn)) := Aft2.behind H3.out.1 _ _; clear H3 HX g1 c0 c1 f0 f1 q0 q3 t0 t1 t2 t3 hlt3; generalize w3.alloc (.cells #[.bool tb, .int .i64 tn] 32) = WY at *; generalize w3.heap.size = p at *)
      | (have := HAH2; have HY : Hid (Aft2 w ((w3.setCell ⟨WX.heap.size, 0, none⟩ (.bool tb)).setCell ⟨WX.heap.size, 1, none⟩ (.int .i64 tn)) q WX.heap.size (.int .i64 13) (.int .i64 n) (.string s) (.slice (some ⟨b, o, none⟩) 2 c) (.slice a1 n1 k1) (.slice a2 n2 k2) (.bool rb) (.int .i64 rn) (.bool tb) (.int .i64 tn)) := H3.out.1.ahead _ _; clear H3 HX g1 c0 c1 f0 f1 q0 q3 t0 t1 t2 t3 hlt3 g5 k0 k3 l0 l1; generalize (w3.setCell ⟨WX.heap.size, 0, none⟩ (.bool tb)).setCell ⟨WX.heap.size, 1, none⟩ (.int .i64 tn) = WY at *; generalize WX.heap.size = p at *)
    all_goals (
      obtain ⟨q0, q1, q2, q3, q4⟩ := HY.out.aft.own.t
      obtain ⟨g2, d0, d1, e0, e1⟩ := HY.out.aft.own.r
      obtain ⟨g4, i0, i1, j0, j1⟩ := HY.out.aft.is
      obtain ⟨g6, r0, r1, s0, s1⟩ := HY.out.is2
      go_wp2
      refine bodyPost_ret (v := .tuple #[.agg #[.bool false, .int .i64 0], .int .i64 (te : Nat)]) (by simp [results, Try.results29, go_sem, d0, d1]) rfl ⟨rfl, HY.out.aft.own.put _ _⟩))
set_option maxRecDepth 100000 in
set_option maxHeartbeats 1200000 in
theorem rof_errb14 (n : Int) (s : ByteArray) (b o c : Nat) (us : ByteArray) (xk xn : Int) (xa : Option Addr) (xl xc : Nat) (yk yn : Int) (ut : ByteArray) (ya : Option Addr) (yl yc : Nat) (a1 a2 : Option Addr) (n1 k1 n2 k2 : Nat) (rb : Bool) (rn : Int) (re : Nat) (h0 : re = 0) (hn : rn ≠ 1) (tb : Bool) (tn : Int) (te : Nat) (h1 : te ≠ 0) (w : World) (hc : 2 ≤ c)
    (m0 : w.cell? ⟨b, o, none⟩ = some (.int .i64 xk)) (m1 : w.cell? ⟨b, o + 1, none⟩ = some (.int .i64 xn)) (m2 : w.cell? ⟨b, o + 2, none⟩ = some (.string us)) (m3 : w.cell? ⟨b, o + 3, none⟩ = some (.slice xa xl xc))
    (t0 : w.cell? ⟨b, o + 4, none⟩ = some (.int .i64 yk)) (t1 : w.cell? ⟨b, o + 4 + 1, none⟩ = some (.int .i64 yn)) (t2 : w.cell? ⟨b, o + 4 + 2, none⟩ = some (.string ut)) (t3 : w.cell? ⟨b, o + 4 + 3, none⟩ = some (.slice ya yl yc))
    (HI : Hid (∀ w', Below w.heap.size w w' → Calls Try.prog 29 #[.agg #[.int .i64 xk, .int .i64 xn, .string us, .slice xa xl xc], .agg #[.slice a1 n1 k1, .slice a2 n2 k2]] w' (EvP ⟨rb, rn, re⟩ w')))
    (HJ : Hid (∀ w', Below w.heap.size w w' → Calls Try.prog 29 #[.agg #[.int .i64 yk, .int .i64 yn, .string ut, .slice ya yl yc], .agg #[.slice a1 n1 k1, .slice a2 n2 k2]] w' (EvP ⟨tb, tn, te⟩ w'))) :
    Calls Try.prog 29 #[.agg #[.int .i64 14, .int .i64 n, .string s, .slice (some ⟨b, o, none⟩) 2 c], .agg #[.slice a1 n1 k1, .slice a2 n2 k2]] w (EvP (errV te) w) := by
  have hbl : b < w.heap.size := World.block_lt_of_cell? w _ m0
  have HO : Hid (Own3 w _ (.int .i64 14) (.int .i64 n) (.string s) (.slice (some ⟨b, o, none⟩) 2 c) (.slice a1 n1 k1) (.slice a2 n2 k2)) := Own3.new w _ _ _ _ _ _
  subst h0
  have hz := nz h1
  have hnx : (rn == 1) = false := by simpa using hn
  unfold EvP errV at *
  simp only at *
  go_enter Try.func29, Try.ntmps29
  go_wp2_with fail
  generalize hW : ((w.alloc (.cells #[.int .i64 14, .int .i64 n, .string s, .slice (some ⟨b, o, none⟩) 2 c] 24)).alloc (.cells #[.slice a1 n1 k1, .slice a2 n2 k2] 28)).alloc (.cells #[.bool false, .int .i64 0] 32) = W at *
  have hsz : W.heap.size = w.heap.size + 1 + 1 + 1 := by rw [← hW, size_alloc, size_alloc, size_alloc]
  clear hW
  obtain ⟨q0, q1, q2, q3, q4⟩ := HO.out.t
  obtain ⟨g1, c0, c1, f0, f1⟩ := HO.out.v
  obtain ⟨g2, d0, d1, e0, e1⟩ := HO.out.r
  have HM : Hid (Six W w.heap.size (14) (.slice (some ⟨b, o, none⟩) 2 c) b o xk xn us xa xl xc ∧ Six W w.heap.size (14) (.slice (some ⟨b, o, none⟩) 2 c) b (o + 4) yk yn ut ya yl yc) := ⟨⟨q0, q3, (HO.out.low.cell (p := ⟨b, o, none⟩) hbl).trans m0, (HO.out.low.cell (p := ⟨b, o + 1, none⟩) hbl).trans m1, (HO.out.low.cell (p := ⟨b, o + 2, none⟩) hbl).trans m2, (HO.out.low.cell (p := ⟨b, o + 3, none⟩) hbl).trans m3⟩, ⟨q0, q3, (HO.out.low.cell (p := ⟨b, o + 4, none⟩) hbl).trans t0, (HO.out.low.cell (p := ⟨b, o + 4 + 1, none⟩) hbl).trans t1, (HO.out.low.cell (p := ⟨b, o + 4 + 2, none⟩) hbl).trans t2, (HO.out.low.cell (p := ⟨b, o + 4 + 3, none⟩) hbl).trans t3⟩⟩
  clear m0 m1 m2 m3 t0 t1 t2 t3
  obtain ⟨⟨_, _, m0, m1, m2, m3⟩, ⟨_, _, t0, t1, t2, t3⟩⟩ := HM.out
  have hbW : b < W.heap.size := Nat.lt_of_lt_of_le hbl HO.out.low.size
  have ne1 : w.heap.size ≠ W.heap.size := by omega
  have ne2 : w.heap.size + 1 ≠ W.heap.size := by omega
  have ne3 : b ≠ W.heap.size := by omega
  have ne4 : w.heap.size + 1 + 1 ≠ W.heap.size := by omega
  have ne5 : W.heap.size ≠ w.heap.size + 1 + 1 := by omega
  have ne6 : W.heap.size ≠ w.heap.size := by omega
  have ne7 : W.heap.size ≠ w.heap.size + 1 := by omega
  have ne8 : W.heap.size ≠ b := by omega
  have HS : Hid (W.heap.size = w.heap.size + 1 + 1 + 1) := hsz
  clear hsz
  go_region_held3 (fun w' => w'.cell? ⟨w.heap.size, 3, none⟩ = some (.slice (some ⟨b, o, none⟩) 2 c) ∧ w'.cell? ⟨w.heap.size + 1, 0, none⟩ = some (.slice a1 n1 k1) ∧ w'.cell? ⟨w.heap.size + 1, 1, none⟩ = some (.slice a2 n2 k2) ∧ w'.cell? ⟨b, o, none⟩ = some (.int .i64 xk) ∧ w'.cell? ⟨b, o + 1, none⟩ = some (.int .i64 xn) ∧ w'.cell? ⟨b, o + 2, none⟩ = some (.string us) ∧ w'.cell? ⟨b, o + 3, none⟩ = some (.slice xa xl xc)) (go_keep) (first
    | (go_at_call 29; refine (HI.out _ (Below.drew HO.out.low)).mono ?_; rintro e w2 ⟨rfl, HB2⟩; have H2 : Hid (Own3 w w2 (.int .i64 14) (.int .i64 n) (.string s) (.slice (some ⟨b, o, none⟩) 2 c) (.slice a1 n1 k1) (.slice a2 n2 k2) ∧ Six w2 w.heap.size (14) (.slice (some ⟨b, o, none⟩) 2 c) b o xk xn us xa xl xc ∧ Six w2 w.heap.size (14) (.slice (some ⟨b, o, none⟩) 2 c) b (o + 4) yk yn ut ya yl yc) := ⟨HO.out.drew.below HB2, ⟨HM.out.1.below (V.below_drew HB2), HM.out.2.below (V.below_drew HB2)⟩⟩; clear HB2; have HBE : Hid True := trivial; obtain ⟨g1, c0, c1, f0, f1⟩ := H2.out.1.v; obtain ⟨⟨q0, q3, m0, m1, m2, m3⟩, ⟨_, _, t0, t1, t2, t3⟩⟩ := H2.out.2; have hlt2 := Nat.lt_of_lt_of_le hbl H2.out.1.low.size)
    | (go_at_call 29; refine (HI.out _ (Below.drew ((Aft.behind HO.out (.bool false) (.int .i64 0)).own.low))).mono ?_; rintro e w2 ⟨rfl, HB2⟩; have H2 : Hid (Aft w w2 W.heap.size (.int .i64 14) (.int .i64 n) (.string s) (.slice (some ⟨b, o, none⟩) 2 c) (.slice a1 n1 k1) (.slice a2 n2 k2) (.bool false) (.int .i64 0) ∧ Six w2 w.heap.size (14) (.slice (some ⟨b, o, none⟩) 2 c) b o xk xn us xa xl xc ∧ Six w2 w.heap.size (14) (.slice (some ⟨b, o, none⟩) 2 c) b (o + 4) yk yn ut ya yl yc) := ⟨(Aft.behind HO.out _ _).below (V.below_drew HB2), ⟨(HM.out.1.below (below_one _ _)).below (V.below_drew HB2), (HM.out.2.below (below_one _ _)).below (V.below_drew HB2)⟩⟩; clear HB2; have HAH : Hid True := trivial; obtain ⟨g1, c0, c1, f0, f1⟩ := H2.out.1.own.v; obtain ⟨⟨q0, q3, m0, m1, m2, m3⟩, ⟨_, _, t0, t1, t2, t3⟩⟩ := H2.out.2; obtain ⟨g4, i0, i1, j0, j1⟩ := H2.out.1.is; have hlt2 := Nat.lt_of_lt_of_le hbl H2.out.1.own.low.size))
  all_goals first
    | (have := HBE; have HX : Hid (Aft w (w2.alloc (.cells #[.bool rb, .int .i64 rn] 32)) w2.heap.size (.int .i64 14) (.int .i64 n) (.string s) (.slice (some ⟨b, o, none⟩) 2 c) (.slice a1 n1 k1) (.slice a2 n2 k2) (.bool rb) (.int .i64 rn) ∧ Six (w2.alloc (.cells #[.bool rb, .int .i64 rn] 32)) w.heap.size (14) (.slice (some ⟨b, o, none⟩) 2 c) b o xk xn us xa xl xc ∧ Six (w2.alloc (.cells #[.bool rb, .int .i64 rn] 32)) w.heap.size (14) (.slice (some ⟨b, o, none⟩) 2 c) b (o + 4) yk yn ut ya yl yc) := ⟨Aft.behind H2.out.1 _ _, ⟨H2.out.2.1.below (below_one _ _), H2.out.2.2.below (below_one _ _)⟩⟩; clear H2 g1 c0 c1 f0 f1 q0 q3 m0 m1 m2 m3 t0 t1 t2 t3 hlt2; generalize w2.alloc (.cells #[.bool rb, .int .i64 rn] 32) = WX at *; generalize w2.heap.size = q at *)
    | (have := HAH; have HX : Hid (Aft w ((w2.setCell ⟨W.heap.size, 0, none⟩ (.bool rb)).setCell ⟨W.heap.size, 1, none⟩ (.int .i64 rn)) W.heap.size (.int .i64 14) (.int .i64 n) (.string s) (.slice (some ⟨b, o, none⟩) 2 c) (.slice a1 n1 k1) (.slice a2 n2 k2) (.bool rb) (.int .i64 rn) ∧ Six ((w2.setCell ⟨W.heap.size, 0, none⟩ (.bool rb)).setCell ⟨W.heap.size, 1, none⟩ (.int .i64 rn)) w.heap.size (14) (.slice (some ⟨b, o, none⟩) 2 c) b o xk xn us xa xl xc ∧ Six ((w2.setCell ⟨W.heap.size, 0, none⟩ (.bool rb)).setCell ⟨W.heap.size, 1, none⟩ (.int .i64 rn)) w.heap.size (14) (.slice (some ⟨b, o, none⟩) 2 c) b (o + 4) yk yn ut ya yl yc) := ⟨H2.out.1.ahead _ _, ⟨(H2.out.2.1.far (by omega) (by omega) 0 _).far (by omega) (by omega) 1 _, (H2.out.2.2.far (by omega) (by omega) 0 _).far (by omega) (by omega) 1 _⟩⟩; clear H2 g1 c0 c1 f0 f1 q0 q3 m0 m1 m2 m3 t0 t1 t2 t3 hlt2 g4 i0 i1 j0 j1; generalize (w2.setCell ⟨W.heap.size, 0, none⟩ (.bool rb)).setCell ⟨W.heap.size, 1, none⟩ (.int .i64 rn) = WX at *; generalize W.heap.size = q at *)
  all_goals (
    obtain ⟨q0, q1, q2, q3, q4⟩ := HX.out.1.own.t
    obtain ⟨g2, d0, d1, e0, e1⟩ := HX.out.1.own.r
    obtain ⟨g4, i0, i1, j0, j1⟩ := HX.out.1.is
    obtain ⟨g1, c0, c1, f0, f1⟩ := HX.out.1.own.v
    obtain ⟨_, _, t0, t1, t2, t3⟩ := HX.out.2.2
    have hbX : b < WX.heap.size := Nat.lt_of_lt_of_le hbl HX.out.1.own.low.size
    have hgX : w.heap.size + 1 + 1 < WX.heap.size := HX.out.1.own.r.lt
    have nx1 : w.heap.size ≠ WX.heap.size := by omega
    have nx2 : w.heap.size + 1 ≠ WX.heap.size := by omega
    have nx3 : b ≠ WX.heap.size := by omega
    have nx4 : w.heap.size + 1 + 1 ≠ WX.heap.size := by omega
    have nx5 : WX.heap.size ≠ w.heap.size + 1 + 1 := by omega
    have nx6 : WX.heap.size ≠ w.heap.size := by omega
    have nx7 : WX.heap.size ≠ w.heap.size + 1 := by omega
    have nx8 : WX.heap.size ≠ b := by omega
    go_wp2_with fail
    go_region_held3 (fun w' => w'.cell? ⟨w.heap.size, 3, none⟩ = some (.slice (some ⟨b, o, none⟩) 2 c) ∧ w'.cell? ⟨w.heap.size + 1, 0, none⟩ = some (.slice a1 n1 k1) ∧ w'.cell? ⟨w.heap.size + 1, 1, none⟩ = some (.slice a2 n2 k2) ∧ w'.cell? ⟨b, o + 4, none⟩ = some (.int .i64 yk) ∧ w'.cell? ⟨b, o + 4 + 1, none⟩ = some (.int .i64 yn) ∧ w'.cell? ⟨b, o + 4 + 2, none⟩ = some (.string ut) ∧ w'.cell? ⟨b, o + 4 + 3, none⟩ = some (.slice ya yl yc)) (go_keep) (first
      | (go_at_call 29; refine (HJ.out _ (Below.drew HX.out.1.own.low)).mono ?_; rintro e w3 ⟨rfl, HB3⟩; have H3 : Hid (Aft w w3 q (.int .i64 14) (.int .i64 n) (.string s) (.slice (some ⟨b, o, none⟩) 2 c) (.slice a1 n1 k1) (.slice a2 n2 k2) (.bool rb) (.int .i64 rn) ∧ Six w3 w.heap.size (14) (.slice (some ⟨b, o, none⟩) 2 c) b (o + 4) yk yn ut ya yl yc) := ⟨HX.out.1.below (V.below_drew HB3), HX.out.2.2.below (V.below_drew HB3)⟩; clear HB3; have HBE2 : Hid True := trivial; obtain ⟨g1, c0, c1, f0, f1⟩ := H3.out.1.own.v; obtain ⟨q0, q3, t0, t1, t2, t3⟩ := H3.out.2; have hlt3 := Nat.lt_of_lt_of_le hbl H3.out.1.own.low.size)
      | (go_at_call 29; refine (HJ.out _ (Below.drew ((Aft2.behind HX.out.1 (.bool false) (.int .i64 0)).aft.own.low))).mono ?_; rintro e w3 ⟨rfl, HB3⟩; have H3 : Hid (Aft2 w w3 q WX.heap.size (.int .i64 14) (.int .i64 n) (.string s) (.slice (some ⟨b, o, none⟩) 2 c) (.slice a1 n1 k1) (.slice a2 n2 k2) (.bool rb) (.int .i64 rn) (.bool false) (.int .i64 0) ∧ Six w3 w.heap.size (14) (.slice (some ⟨b, o, none⟩) 2 c) b (o + 4) yk yn ut ya yl yc) := ⟨(Aft2.behind HX.out.1 _ _).below (V.below_drew HB3), (HX.out.2.2.below (below_one _ _)).below (V.below_drew HB3)⟩; clear HB3; have HAH2 : Hid True := trivial; obtain ⟨g1, c0, c1, f0, f1⟩ := H3.out.1.aft.own.v; obtain ⟨q0, q3, t0, t1, t2, t3⟩ := H3.out.2; obtain ⟨g5, k0, k3, l0, l1⟩ := H3.out.1.is2; have hlt3 := Nat.lt_of_lt_of_le hbl H3.out.1.aft.own.low.size))
    all_goals first
      | (have := HBE2; have HY : Hid (Aft2 w (w3.alloc (.cells #[.bool tb, .int .i64 tn] 32)) q w3.heap.size (.int .i64 14) (.int .i64 n) (.string s) (.slice (some ⟨b, o, none⟩) 2 c) (.slice a1 n1 k1) (.slice a2 n2 k2) (.bool rb) (.int .i64 rn) (.bool tb) (.int .i64 tn)) := Aft2.behind H3.out.1 _ _; clear H3 HX g1 c0 c1 f0 f1 q0 q3 t0 t1 t2 t3 hlt3; generalize w3.alloc (.cells #[.bool tb, .int .i64 tn] 32) = WY at *; generalize w3.heap.size = p at *)
      | (have := HAH2; have HY : Hid (Aft2 w ((w3.setCell ⟨WX.heap.size, 0, none⟩ (.bool tb)).setCell ⟨WX.heap.size, 1, none⟩ (.int .i64 tn)) q WX.heap.size (.int .i64 14) (.int .i64 n) (.string s) (.slice (some ⟨b, o, none⟩) 2 c) (.slice a1 n1 k1) (.slice a2 n2 k2) (.bool rb) (.int .i64 rn) (.bool tb) (.int .i64 tn)) := H3.out.1.ahead _ _; clear H3 HX g1 c0 c1 f0 f1 q0 q3 t0 t1 t2 t3 hlt3 g5 k0 k3 l0 l1; generalize (w3.setCell ⟨WX.heap.size, 0, none⟩ (.bool tb)).setCell ⟨WX.heap.size, 1, none⟩ (.int .i64 tn) = WY at *; generalize WX.heap.size = p at *)
    all_goals (
      obtain ⟨q0, q1, q2, q3, q4⟩ := HY.out.aft.own.t
      obtain ⟨g2, d0, d1, e0, e1⟩ := HY.out.aft.own.r
      obtain ⟨g4, i0, i1, j0, j1⟩ := HY.out.aft.is
      obtain ⟨g6, r0, r1, s0, s1⟩ := HY.out.is2
      go_wp2
      refine bodyPost_ret (v := .tuple #[.agg #[.bool false, .int .i64 0], .int .i64 (te : Nat)]) (by simp [results, Try.results29, go_sem, d0, d1]) rfl ⟨rfl, HY.out.aft.own.put _ _⟩))
set_option maxRecDepth 100000 in
set_option maxHeartbeats 1200000 in
theorem rof_errbk (k : Int) (n : Int) (s : ByteArray) (b o c : Nat) (us : ByteArray) (xk xn : Int) (xa : Option Addr) (xl xc : Nat) (yk yn : Int) (ut : ByteArray) (ya : Option Addr) (yl yc : Nat) (a1 a2 : Option Addr) (n1 k1 n2 k2 : Nat) (rb : Bool) (rn : Int) (re : Nat) (h0 : re = 0) (hk : 7 ≤ k ∧ k ≤ 12) (tb : Bool) (tn : Int) (te : Nat) (h1 : te ≠ 0) (w : World) (hc : 2 ≤ c)
    (m0 : w.cell? ⟨b, o, none⟩ = some (.int .i64 xk)) (m1 : w.cell? ⟨b, o + 1, none⟩ = some (.int .i64 xn)) (m2 : w.cell? ⟨b, o + 2, none⟩ = some (.string us)) (m3 : w.cell? ⟨b, o + 3, none⟩ = some (.slice xa xl xc))
    (t0 : w.cell? ⟨b, o + 4, none⟩ = some (.int .i64 yk)) (t1 : w.cell? ⟨b, o + 4 + 1, none⟩ = some (.int .i64 yn)) (t2 : w.cell? ⟨b, o + 4 + 2, none⟩ = some (.string ut)) (t3 : w.cell? ⟨b, o + 4 + 3, none⟩ = some (.slice ya yl yc))
    (HI : Hid (∀ w', Below w.heap.size w w' → Calls Try.prog 29 #[.agg #[.int .i64 xk, .int .i64 xn, .string us, .slice xa xl xc], .agg #[.slice a1 n1 k1, .slice a2 n2 k2]] w' (EvP ⟨rb, rn, re⟩ w')))
    (HJ : Hid (∀ w', Below w.heap.size w w' → Calls Try.prog 29 #[.agg #[.int .i64 yk, .int .i64 yn, .string ut, .slice ya yl yc], .agg #[.slice a1 n1 k1, .slice a2 n2 k2]] w' (EvP ⟨tb, tn, te⟩ w'))) :
    Calls Try.prog 29 #[.agg #[.int .i64 k, .int .i64 n, .string s, .slice (some ⟨b, o, none⟩) 2 c], .agg #[.slice a1 n1 k1, .slice a2 n2 k2]] w (EvP (errV te) w) := by
  have hbl : b < w.heap.size := World.block_lt_of_cell? w _ m0
  have HO : Hid (Own3 w _ (.int .i64 k) (.int .i64 n) (.string s) (.slice (some ⟨b, o, none⟩) 2 c) (.slice a1 n1 k1) (.slice a2 n2 k2)) := Own3.new w _ _ _ _ _ _
  subst h0
  have hz := nz h1
  have k5 : (k == 5) = false := by simp; omega
  have k6 : (k == 6) = false := by simp; omega
  have k13 : (k == 13) = false := by simp; omega
  have k14 : (k == 14) = false := by simp; omega
  unfold EvP errV at *
  simp only at *
  go_enter Try.func29, Try.ntmps29
  go_wp2_with fail
  generalize hW : ((w.alloc (.cells #[.int .i64 k, .int .i64 n, .string s, .slice (some ⟨b, o, none⟩) 2 c] 24)).alloc (.cells #[.slice a1 n1 k1, .slice a2 n2 k2] 28)).alloc (.cells #[.bool false, .int .i64 0] 32) = W at *
  have hsz : W.heap.size = w.heap.size + 1 + 1 + 1 := by rw [← hW, size_alloc, size_alloc, size_alloc]
  clear hW
  obtain ⟨q0, q1, q2, q3, q4⟩ := HO.out.t
  obtain ⟨g1, c0, c1, f0, f1⟩ := HO.out.v
  obtain ⟨g2, d0, d1, e0, e1⟩ := HO.out.r
  have HM : Hid (Six W w.heap.size (k) (.slice (some ⟨b, o, none⟩) 2 c) b o xk xn us xa xl xc ∧ Six W w.heap.size (k) (.slice (some ⟨b, o, none⟩) 2 c) b (o + 4) yk yn ut ya yl yc) := ⟨⟨q0, q3, (HO.out.low.cell (p := ⟨b, o, none⟩) hbl).trans m0, (HO.out.low.cell (p := ⟨b, o + 1, none⟩) hbl).trans m1, (HO.out.low.cell (p := ⟨b, o + 2, none⟩) hbl).trans m2, (HO.out.low.cell (p := ⟨b, o + 3, none⟩) hbl).trans m3⟩, ⟨q0, q3, (HO.out.low.cell (p := ⟨b, o + 4, none⟩) hbl).trans t0, (HO.out.low.cell (p := ⟨b, o + 4 + 1, none⟩) hbl).trans t1, (HO.out.low.cell (p := ⟨b, o + 4 + 2, none⟩) hbl).trans t2, (HO.out.low.cell (p := ⟨b, o + 4 + 3, none⟩) hbl).trans t3⟩⟩
  clear m0 m1 m2 m3 t0 t1 t2 t3
  obtain ⟨⟨_, _, m0, m1, m2, m3⟩, ⟨_, _, t0, t1, t2, t3⟩⟩ := HM.out
  have hbW : b < W.heap.size := Nat.lt_of_lt_of_le hbl HO.out.low.size
  have ne1 : w.heap.size ≠ W.heap.size := by omega
  have ne2 : w.heap.size + 1 ≠ W.heap.size := by omega
  have ne3 : b ≠ W.heap.size := by omega
  have ne4 : w.heap.size + 1 + 1 ≠ W.heap.size := by omega
  have ne5 : W.heap.size ≠ w.heap.size + 1 + 1 := by omega
  have ne6 : W.heap.size ≠ w.heap.size := by omega
  have ne7 : W.heap.size ≠ w.heap.size + 1 := by omega
  have ne8 : W.heap.size ≠ b := by omega
  have HS : Hid (W.heap.size = w.heap.size + 1 + 1 + 1) := hsz
  clear hsz
  go_region_held3 (fun w' => w'.cell? ⟨w.heap.size, 3, none⟩ = some (.slice (some ⟨b, o, none⟩) 2 c) ∧ w'.cell? ⟨w.heap.size + 1, 0, none⟩ = some (.slice a1 n1 k1) ∧ w'.cell? ⟨w.heap.size + 1, 1, none⟩ = some (.slice a2 n2 k2) ∧ w'.cell? ⟨b, o, none⟩ = some (.int .i64 xk) ∧ w'.cell? ⟨b, o + 1, none⟩ = some (.int .i64 xn) ∧ w'.cell? ⟨b, o + 2, none⟩ = some (.string us) ∧ w'.cell? ⟨b, o + 3, none⟩ = some (.slice xa xl xc)) (go_keep) (first
    | (go_at_call 29; refine (HI.out _ (Below.drew HO.out.low)).mono ?_; rintro e w2 ⟨rfl, HB2⟩; have H2 : Hid (Own3 w w2 (.int .i64 k) (.int .i64 n) (.string s) (.slice (some ⟨b, o, none⟩) 2 c) (.slice a1 n1 k1) (.slice a2 n2 k2) ∧ Six w2 w.heap.size (k) (.slice (some ⟨b, o, none⟩) 2 c) b o xk xn us xa xl xc ∧ Six w2 w.heap.size (k) (.slice (some ⟨b, o, none⟩) 2 c) b (o + 4) yk yn ut ya yl yc) := ⟨HO.out.drew.below HB2, ⟨HM.out.1.below (V.below_drew HB2), HM.out.2.below (V.below_drew HB2)⟩⟩; clear HB2; have HBE : Hid True := trivial; obtain ⟨g1, c0, c1, f0, f1⟩ := H2.out.1.v; obtain ⟨⟨q0, q3, m0, m1, m2, m3⟩, ⟨_, _, t0, t1, t2, t3⟩⟩ := H2.out.2; have hlt2 := Nat.lt_of_lt_of_le hbl H2.out.1.low.size)
    | (go_at_call 29; refine (HI.out _ (Below.drew ((Aft.behind HO.out (.bool false) (.int .i64 0)).own.low))).mono ?_; rintro e w2 ⟨rfl, HB2⟩; have H2 : Hid (Aft w w2 W.heap.size (.int .i64 k) (.int .i64 n) (.string s) (.slice (some ⟨b, o, none⟩) 2 c) (.slice a1 n1 k1) (.slice a2 n2 k2) (.bool false) (.int .i64 0) ∧ Six w2 w.heap.size (k) (.slice (some ⟨b, o, none⟩) 2 c) b o xk xn us xa xl xc ∧ Six w2 w.heap.size (k) (.slice (some ⟨b, o, none⟩) 2 c) b (o + 4) yk yn ut ya yl yc) := ⟨(Aft.behind HO.out _ _).below (V.below_drew HB2), ⟨(HM.out.1.below (below_one _ _)).below (V.below_drew HB2), (HM.out.2.below (below_one _ _)).below (V.below_drew HB2)⟩⟩; clear HB2; have HAH : Hid True := trivial; obtain ⟨g1, c0, c1, f0, f1⟩ := H2.out.1.own.v; obtain ⟨⟨q0, q3, m0, m1, m2, m3⟩, ⟨_, _, t0, t1, t2, t3⟩⟩ := H2.out.2; obtain ⟨g4, i0, i1, j0, j1⟩ := H2.out.1.is; have hlt2 := Nat.lt_of_lt_of_le hbl H2.out.1.own.low.size))
  all_goals first
    | (have := HBE; have HX : Hid (Aft w (w2.alloc (.cells #[.bool rb, .int .i64 rn] 32)) w2.heap.size (.int .i64 k) (.int .i64 n) (.string s) (.slice (some ⟨b, o, none⟩) 2 c) (.slice a1 n1 k1) (.slice a2 n2 k2) (.bool rb) (.int .i64 rn) ∧ Six (w2.alloc (.cells #[.bool rb, .int .i64 rn] 32)) w.heap.size (k) (.slice (some ⟨b, o, none⟩) 2 c) b o xk xn us xa xl xc ∧ Six (w2.alloc (.cells #[.bool rb, .int .i64 rn] 32)) w.heap.size (k) (.slice (some ⟨b, o, none⟩) 2 c) b (o + 4) yk yn ut ya yl yc) := ⟨Aft.behind H2.out.1 _ _, ⟨H2.out.2.1.below (below_one _ _), H2.out.2.2.below (below_one _ _)⟩⟩; clear H2 g1 c0 c1 f0 f1 q0 q3 m0 m1 m2 m3 t0 t1 t2 t3 hlt2; generalize w2.alloc (.cells #[.bool rb, .int .i64 rn] 32) = WX at *; generalize w2.heap.size = q at *)
    | (have := HAH; have HX : Hid (Aft w ((w2.setCell ⟨W.heap.size, 0, none⟩ (.bool rb)).setCell ⟨W.heap.size, 1, none⟩ (.int .i64 rn)) W.heap.size (.int .i64 k) (.int .i64 n) (.string s) (.slice (some ⟨b, o, none⟩) 2 c) (.slice a1 n1 k1) (.slice a2 n2 k2) (.bool rb) (.int .i64 rn) ∧ Six ((w2.setCell ⟨W.heap.size, 0, none⟩ (.bool rb)).setCell ⟨W.heap.size, 1, none⟩ (.int .i64 rn)) w.heap.size (k) (.slice (some ⟨b, o, none⟩) 2 c) b o xk xn us xa xl xc ∧ Six ((w2.setCell ⟨W.heap.size, 0, none⟩ (.bool rb)).setCell ⟨W.heap.size, 1, none⟩ (.int .i64 rn)) w.heap.size (k) (.slice (some ⟨b, o, none⟩) 2 c) b (o + 4) yk yn ut ya yl yc) := ⟨H2.out.1.ahead _ _, ⟨(H2.out.2.1.far (by omega) (by omega) 0 _).far (by omega) (by omega) 1 _, (H2.out.2.2.far (by omega) (by omega) 0 _).far (by omega) (by omega) 1 _⟩⟩; clear H2 g1 c0 c1 f0 f1 q0 q3 m0 m1 m2 m3 t0 t1 t2 t3 hlt2 g4 i0 i1 j0 j1; generalize (w2.setCell ⟨W.heap.size, 0, none⟩ (.bool rb)).setCell ⟨W.heap.size, 1, none⟩ (.int .i64 rn) = WX at *; generalize W.heap.size = q at *)
  all_goals (
    obtain ⟨q0, q1, q2, q3, q4⟩ := HX.out.1.own.t
    obtain ⟨g2, d0, d1, e0, e1⟩ := HX.out.1.own.r
    obtain ⟨g4, i0, i1, j0, j1⟩ := HX.out.1.is
    obtain ⟨g1, c0, c1, f0, f1⟩ := HX.out.1.own.v
    obtain ⟨_, _, t0, t1, t2, t3⟩ := HX.out.2.2
    have hbX : b < WX.heap.size := Nat.lt_of_lt_of_le hbl HX.out.1.own.low.size
    have hgX : w.heap.size + 1 + 1 < WX.heap.size := HX.out.1.own.r.lt
    have nx1 : w.heap.size ≠ WX.heap.size := by omega
    have nx2 : w.heap.size + 1 ≠ WX.heap.size := by omega
    have nx3 : b ≠ WX.heap.size := by omega
    have nx4 : w.heap.size + 1 + 1 ≠ WX.heap.size := by omega
    have nx5 : WX.heap.size ≠ w.heap.size + 1 + 1 := by omega
    have nx6 : WX.heap.size ≠ w.heap.size := by omega
    have nx7 : WX.heap.size ≠ w.heap.size + 1 := by omega
    have nx8 : WX.heap.size ≠ b := by omega
    go_wp2_with fail
    go_region_held3 (fun w' => w'.cell? ⟨w.heap.size, 3, none⟩ = some (.slice (some ⟨b, o, none⟩) 2 c) ∧ w'.cell? ⟨w.heap.size + 1, 0, none⟩ = some (.slice a1 n1 k1) ∧ w'.cell? ⟨w.heap.size + 1, 1, none⟩ = some (.slice a2 n2 k2) ∧ w'.cell? ⟨b, o + 4, none⟩ = some (.int .i64 yk) ∧ w'.cell? ⟨b, o + 4 + 1, none⟩ = some (.int .i64 yn) ∧ w'.cell? ⟨b, o + 4 + 2, none⟩ = some (.string ut) ∧ w'.cell? ⟨b, o + 4 + 3, none⟩ = some (.slice ya yl yc)) (go_keep) (first
      | (go_at_call 29; refine (HJ.out _ (Below.drew HX.out.1.own.low)).mono ?_; rintro e w3 ⟨rfl, HB3⟩; have H3 : Hid (Aft w w3 q (.int .i64 k) (.int .i64 n) (.string s) (.slice (some ⟨b, o, none⟩) 2 c) (.slice a1 n1 k1) (.slice a2 n2 k2) (.bool rb) (.int .i64 rn) ∧ Six w3 w.heap.size (k) (.slice (some ⟨b, o, none⟩) 2 c) b (o + 4) yk yn ut ya yl yc) := ⟨HX.out.1.below (V.below_drew HB3), HX.out.2.2.below (V.below_drew HB3)⟩; clear HB3; have HBE2 : Hid True := trivial; obtain ⟨g1, c0, c1, f0, f1⟩ := H3.out.1.own.v; obtain ⟨q0, q3, t0, t1, t2, t3⟩ := H3.out.2; have hlt3 := Nat.lt_of_lt_of_le hbl H3.out.1.own.low.size)
      | (go_at_call 29; refine (HJ.out _ (Below.drew ((Aft2.behind HX.out.1 (.bool false) (.int .i64 0)).aft.own.low))).mono ?_; rintro e w3 ⟨rfl, HB3⟩; have H3 : Hid (Aft2 w w3 q WX.heap.size (.int .i64 k) (.int .i64 n) (.string s) (.slice (some ⟨b, o, none⟩) 2 c) (.slice a1 n1 k1) (.slice a2 n2 k2) (.bool rb) (.int .i64 rn) (.bool false) (.int .i64 0) ∧ Six w3 w.heap.size (k) (.slice (some ⟨b, o, none⟩) 2 c) b (o + 4) yk yn ut ya yl yc) := ⟨(Aft2.behind HX.out.1 _ _).below (V.below_drew HB3), (HX.out.2.2.below (below_one _ _)).below (V.below_drew HB3)⟩; clear HB3; have HAH2 : Hid True := trivial; obtain ⟨g1, c0, c1, f0, f1⟩ := H3.out.1.aft.own.v; obtain ⟨q0, q3, t0, t1, t2, t3⟩ := H3.out.2; obtain ⟨g5, k0, k3, l0, l1⟩ := H3.out.1.is2; have hlt3 := Nat.lt_of_lt_of_le hbl H3.out.1.aft.own.low.size))
    all_goals first
      | (have := HBE2; have HY : Hid (Aft2 w (w3.alloc (.cells #[.bool tb, .int .i64 tn] 32)) q w3.heap.size (.int .i64 k) (.int .i64 n) (.string s) (.slice (some ⟨b, o, none⟩) 2 c) (.slice a1 n1 k1) (.slice a2 n2 k2) (.bool rb) (.int .i64 rn) (.bool tb) (.int .i64 tn)) := Aft2.behind H3.out.1 _ _; clear H3 HX g1 c0 c1 f0 f1 q0 q3 t0 t1 t2 t3 hlt3; generalize w3.alloc (.cells #[.bool tb, .int .i64 tn] 32) = WY at *; generalize w3.heap.size = p at *)
      | (have := HAH2; have HY : Hid (Aft2 w ((w3.setCell ⟨WX.heap.size, 0, none⟩ (.bool tb)).setCell ⟨WX.heap.size, 1, none⟩ (.int .i64 tn)) q WX.heap.size (.int .i64 k) (.int .i64 n) (.string s) (.slice (some ⟨b, o, none⟩) 2 c) (.slice a1 n1 k1) (.slice a2 n2 k2) (.bool rb) (.int .i64 rn) (.bool tb) (.int .i64 tn)) := H3.out.1.ahead _ _; clear H3 HX g1 c0 c1 f0 f1 q0 q3 t0 t1 t2 t3 hlt3 g5 k0 k3 l0 l1; generalize (w3.setCell ⟨WX.heap.size, 0, none⟩ (.bool tb)).setCell ⟨WX.heap.size, 1, none⟩ (.int .i64 tn) = WY at *; generalize WX.heap.size = p at *)
    all_goals (
      obtain ⟨q0, q1, q2, q3, q4⟩ := HY.out.aft.own.t
      obtain ⟨g2, d0, d1, e0, e1⟩ := HY.out.aft.own.r
      obtain ⟨g4, i0, i1, j0, j1⟩ := HY.out.aft.is
      obtain ⟨g6, r0, r1, s0, s1⟩ := HY.out.is2
      go_wp2
      refine bodyPost_ret (v := .tuple #[.agg #[.bool false, .int .i64 0], .int .i64 (te : Nat)]) (by simp [results, Try.results29, go_sem, d0, d1]) rfl ⟨rfl, HY.out.aft.own.put _ _⟩))
end Go.Proofs.Ytfjphlejhcdbaaa
