/-
  The parts of a tree, as the program makes them: a side of two.
-/
import Derived.Test.YtfjphlejhcdbaaaEv4
namespace Go.Proofs.Ytfjphlejhcdbaaa
section
open Go.RowKit
set_option linter.unusedVariables false

set_option maxRecDepth 100000 in
set_option maxHeartbeats 800000 in
theorem choice_err (l : V.VL) (v f f2 : Value) (g1 g2 g3 : Nat) (s : Int) (a b : Va) (w : World) (hv : Vok l v w) (hf : w.cell? ⟨g1, 0, none⟩ = some f) (hs : V.Two w g2 (.bool true) (.int .i64 s)) (hf2 : w.cell? ⟨g3, 0, none⟩ = some f2) (hp : PartV l v w f a) (hp2 : PartV l v w f2 b) (h0 : a.e ≠ 0) : Calls Try.prog 71 #[v, .pointer (some ⟨g1, 0, none⟩), .pointer (some ⟨g2, 0, none⟩), .pointer (some ⟨g3, 0, none⟩)] w (EvP a w) := by
  obtain ⟨n, cap, rfl, heg, hp⟩ := hp
  have HP : Hid (∀ w', Below w.heap.size w w' → Vok l v w' → Calls Try.prog n (#[v] ++ cap) w' (EvP a w')) := hp
  clear hp
  obtain ⟨m, cap2, rfl, heg2, hp2⟩ := hp2
  have HP2 : Hid (∀ w', Below w.heap.size w w' → Vok l v w' → Calls Try.prog m (#[v] ++ cap2) w' (EvP b w')) := hp2
  clear hp2
  have HV : Hid (Vok l v w) := hv
  obtain ⟨a1, n1, k1, a2, n2, k2, rfl⟩ := hv.form
  clear hv
  have HF : Hid (Fra w _ (.slice a1 n1 k1) (.slice a2 n2 k2)) := Fra.new w (.slice a1 n1 k1) (.slice a2 n2 k2)
  have hg1 : g1 < w.heap.size := World.block_lt_of_cell? w _ hf
  have hg3 : g3 < w.heap.size := World.block_lt_of_cell? w _ hf2
  obtain ⟨hg2, s0, s1, z0, z1⟩ := hs
  have hz := nz h0
  obtain ⟨ab, an, ae⟩ := a
  simp only at h0 hz
  unfold EvP at *
  simp only at *
  clear HP2
  go_enter Try.func71, Try.ntmps71
  go_wp2_with (have := HP; refine (HP.out _ HF.out.low (HV.out.below HF.out.low)).mono ?_; clear HP; rintro e w1 ⟨rfl, HB1⟩; have L1 : Hid (Below w.heap.size w w1) := (HF.out.below HB1).low; have s01 := (L1.out.cell (p := ⟨g2, 0, none⟩) hg2).trans s0; have s11 := (L1.out.cell (p := ⟨g2, 1, none⟩) hg2).trans s1; have hg21 := Nat.lt_of_lt_of_le hg2 L1.out.size; have hf21 := (L1.out.cell (p := ⟨g3, 0, none⟩) hg3).trans hf2; have hg31 := Nat.lt_of_lt_of_le hg3 L1.out.size; have H1 : Hid (Fra1 w _ (.slice a1 n1 k1) (.slice a2 n2 k2) w1.heap.size (.bool ab) (.int .i64 an)) := (HF.out.below HB1).is (.bool ab) (.int .i64 an); clear HB1; obtain ⟨q1, c0, c1, f0, f1⟩ := H1.out.fra.room; obtain ⟨q4, v0, v1, y0, y1⟩ := H1.out.fra.vars)
  refine bodyPost_ret (v := .tuple #[.agg #[.bool ab, .int .i64 an], .int .i64 (ae : Nat)]) (by simp [results, Try.results71, go_sem, c0, c1]) rfl ⟨rfl, H1.out.fra.put _ _⟩
set_option maxRecDepth 100000 in
set_option maxHeartbeats 800000 in
theorem choice_same (l : V.VL) (v f f2 : Value) (g1 g2 g3 : Nat) (s : Int) (a b : Va) (w : World) (hv : Vok l v w) (hf : w.cell? ⟨g1, 0, none⟩ = some f) (hs : V.Two w g2 (.bool true) (.int .i64 s)) (hf2 : w.cell? ⟨g3, 0, none⟩ = some f2) (hp : PartV l v w f a) (hp2 : PartV l v w f2 b) (h0 : a = ⟨true, s, 0⟩) : Calls Try.prog 71 #[v, .pointer (some ⟨g1, 0, none⟩), .pointer (some ⟨g2, 0, none⟩), .pointer (some ⟨g3, 0, none⟩)] w (EvP a w) := by
  obtain ⟨n, cap, rfl, heg, hp⟩ := hp
  have HP : Hid (∀ w', Below w.heap.size w w' → Vok l v w' → Calls Try.prog n (#[v] ++ cap) w' (EvP a w')) := hp
  clear hp
  obtain ⟨m, cap2, rfl, heg2, hp2⟩ := hp2
  have HP2 : Hid (∀ w', Below w.heap.size w w' → Vok l v w' → Calls Try.prog m (#[v] ++ cap2) w' (EvP b w')) := hp2
  clear hp2
  have HV : Hid (Vok l v w) := hv
  obtain ⟨a1, n1, k1, a2, n2, k2, rfl⟩ := hv.form
  clear hv
  have HF : Hid (Fra w _ (.slice a1 n1 k1) (.slice a2 n2 k2)) := Fra.new w (.slice a1 n1 k1) (.slice a2 n2 k2)
  have hg1 : g1 < w.heap.size := World.block_lt_of_cell? w _ hf
  have hg3 : g3 < w.heap.size := World.block_lt_of_cell? w _ hf2
  obtain ⟨hg2, s0, s1, z0, z1⟩ := hs
  subst h0
  unfold EvP at *
  simp only at *
  clear HP2
  go_enter Try.func71, Try.ntmps71
  go_wp2_with (have := HP; refine (HP.out _ HF.out.low (HV.out.below HF.out.low)).mono ?_; clear HP; rintro e w1 ⟨rfl, HB1⟩; have L1 : Hid (Below w.heap.size w w1) := (HF.out.below HB1).low; have s01 := (L1.out.cell (p := ⟨g2, 0, none⟩) hg2).trans s0; have s11 := (L1.out.cell (p := ⟨g2, 1, none⟩) hg2).trans s1; have hg21 := Nat.lt_of_lt_of_le hg2 L1.out.size; have hf21 := (L1.out.cell (p := ⟨g3, 0, none⟩) hg3).trans hf2; have hg31 := Nat.lt_of_lt_of_le hg3 L1.out.size; have H1 : Hid (Fra1 w _ (.slice a1 n1 k1) (.slice a2 n2 k2) w1.heap.size (.bool true) (.int .i64 s)) := (HF.out.below HB1).is (.bool true) (.int .i64 s); clear HB1; obtain ⟨q1, c0, c1, f0, f1⟩ := H1.out.fra.room; obtain ⟨q4, v0, v1, y0, y1⟩ := H1.out.fra.vars)
  refine bodyPost_ret (v := .tuple #[.agg #[.bool true, .int .i64 s], .int .i64 0]) (by simp [results, Try.results71, go_sem, c0, c1]) rfl ⟨rfl, H1.out.fra.put _ _⟩
set_option maxRecDepth 100000 in
set_option maxHeartbeats 800000 in
theorem choice_other (l : V.VL) (v f f2 : Value) (g1 g2 g3 : Nat) (s : Int) (a b : Va) (w : World) (hv : Vok l v w) (hf : w.cell? ⟨g1, 0, none⟩ = some f) (hs : V.Two w g2 (.bool true) (.int .i64 s)) (hf2 : w.cell? ⟨g3, 0, none⟩ = some f2) (hp : PartV l v w f a) (hp2 : PartV l v w f2 b) (x : Int) (hx : x ≠ s) (h0 : a = ⟨true, x, 0⟩) : Calls Try.prog 71 #[v, .pointer (some ⟨g1, 0, none⟩), .pointer (some ⟨g2, 0, none⟩), .pointer (some ⟨g3, 0, none⟩)] w (EvP b w) := by
  obtain ⟨n, cap, rfl, heg, hp⟩ := hp
  have HP : Hid (∀ w', Below w.heap.size w w' → Vok l v w' → Calls Try.prog n (#[v] ++ cap) w' (EvP a w')) := hp
  clear hp
  obtain ⟨m, cap2, rfl, heg2, hp2⟩ := hp2
  have HP2 : Hid (∀ w', Below w.heap.size w w' → Vok l v w' → Calls Try.prog m (#[v] ++ cap2) w' (EvP b w')) := hp2
  clear hp2
  have HV : Hid (Vok l v w) := hv
  obtain ⟨a1, n1, k1, a2, n2, k2, rfl⟩ := hv.form
  clear hv
  have HF : Hid (Fra w _ (.slice a1 n1 k1) (.slice a2 n2 k2)) := Fra.new w (.slice a1 n1 k1) (.slice a2 n2 k2)
  have hg1 : g1 < w.heap.size := World.block_lt_of_cell? w _ hf
  have hg3 : g3 < w.heap.size := World.block_lt_of_cell? w _ hf2
  obtain ⟨hg2, s0, s1, z0, z1⟩ := hs
  subst h0
  have hxs : (x == s) = false := by simpa using hx
  have hxd : decide (x = s) = false := by simpa using hx
  obtain ⟨bb, bn, be⟩ := b
  unfold EvP at *
  simp only at *
  go_enter Try.func71, Try.ntmps71
  go_wp2_with (first
    | (have := HP; refine (HP.out _ HF.out.low (HV.out.below HF.out.low)).mono ?_; clear HP; rintro e w1 ⟨rfl, HB1⟩; have L1 : Hid (Below w.heap.size w w1) := (HF.out.below HB1).low; have s01 := (L1.out.cell (p := ⟨g2, 0, none⟩) hg2).trans s0; have s11 := (L1.out.cell (p := ⟨g2, 1, none⟩) hg2).trans s1; have hg21 := Nat.lt_of_lt_of_le hg2 L1.out.size; have hf21 := (L1.out.cell (p := ⟨g3, 0, none⟩) hg3).trans hf2; have hg31 := Nat.lt_of_lt_of_le hg3 L1.out.size; have H1 : Hid (Fra1 w _ (.slice a1 n1 k1) (.slice a2 n2 k2) w1.heap.size (.bool true) (.int .i64 x)) := (HF.out.below HB1).is (.bool true) (.int .i64 x); clear HB1; obtain ⟨q1, c0, c1, f0, f1⟩ := H1.out.fra.room; obtain ⟨q4, v0, v1, y0, y1⟩ := H1.out.fra.vars)
    | (refine (HP2.out _ H1.out.fra.low (HV.out.below H1.out.fra.low)).mono ?_; rintro e w2 ⟨rfl, HB2⟩; have H2 : Hid (Fra1 w w2 (.slice a1 n1 k1) (.slice a2 n2 k2) w1.heap.size (.bool true) (.int .i64 x)) := H1.out.below HB2; clear HB2; obtain ⟨q1, c0, c1, f0, f1⟩ := H2.out.fra.room))
  refine bodyPost_ret (v := .tuple #[.agg #[.bool bb, .int .i64 bn], .int .i64 (be : Nat)]) (by simp [results, Try.results71, go_sem, c0, c1]) rfl ⟨rfl, H2.out.fra.put _ _⟩
end
section
open Go.RowKit
set_option linter.unusedVariables false

set_option maxRecDepth 100000 in
set_option maxHeartbeats 800000 in
theorem between_err1 (l : V.VL) (v f f2 : Value) (g1 g2 g3 : Nat) (k : Int) (a b : Va) (w : World) (hv : Vok l v w) (hf : w.cell? ⟨g1, 0, none⟩ = some f) (hf2 : w.cell? ⟨g2, 0, none⟩ = some f2) (hk : w.cell? ⟨g3, 0, none⟩ = some (.int .i64 k)) (hp : PartV l v w f a) (hp2 : PartV l v w f2 b) (h0 : a.e ≠ 0) : Calls Try.prog 72 #[v, .pointer (some ⟨g1, 0, none⟩), .pointer (some ⟨g2, 0, none⟩), .pointer (some ⟨g3, 0, none⟩)] w (EvP (errV a.e) w) := by
  obtain ⟨n, cap, rfl, heg, hp⟩ := hp
  have HP : Hid (∀ w', Below w.heap.size w w' → Vok l v w' → Calls Try.prog n (#[v] ++ cap) w' (EvP a w')) := hp
  clear hp
  obtain ⟨m, cap2, rfl, heg2, hp2⟩ := hp2
  have HP2 : Hid (∀ w', Below w.heap.size w w' → Vok l v w' → Calls Try.prog m (#[v] ++ cap2) w' (EvP b w')) := hp2
  clear hp2
  have HV : Hid (Vok l v w) := hv
  obtain ⟨a1, n1, k1, a2, n2, k2, rfl⟩ := hv.form
  clear hv
  have HF : Hid (Fra w _ (.slice a1 n1 k1) (.slice a2 n2 k2)) := Fra.new w (.slice a1 n1 k1) (.slice a2 n2 k2)
  have hg1 : g1 < w.heap.size := World.block_lt_of_cell? w _ hf
  have hg2 : g2 < w.heap.size := World.block_lt_of_cell? w _ hf2
  have hg3 : g3 < w.heap.size := World.block_lt_of_cell? w _ hk
  have hz := nz h0
  obtain ⟨ab, an, ae⟩ := a
  simp only at h0 hz
  unfold EvP errV at *
  simp only at *
  clear HP2
  go_enter Try.func72, Try.ntmps72
  go_wp2_with (have := HP; refine (HP.out _ HF.out.low (HV.out.below HF.out.low)).mono ?_; clear HP; rintro e w1 ⟨rfl, HB1⟩; have L1 : Hid (Below w.heap.size w w1) := (HF.out.below HB1).low; have hk1 := (L1.out.cell (p := ⟨g3, 0, none⟩) hg3).trans hk; have hg31 := Nat.lt_of_lt_of_le hg3 L1.out.size; have hf21 := (L1.out.cell (p := ⟨g2, 0, none⟩) hg2).trans hf2; have hg21 := Nat.lt_of_lt_of_le hg2 L1.out.size; have H1 : Hid (Fra1 w _ (.slice a1 n1 k1) (.slice a2 n2 k2) w1.heap.size (.bool ab) (.int .i64 an)) := (HF.out.below HB1).is (.bool ab) (.int .i64 an); clear HB1; obtain ⟨q1, c0, c1, f0, f1⟩ := H1.out.fra.room; obtain ⟨q4, v0, v1, y0, y1⟩ := H1.out.fra.vars)
  refine bodyPost_ret (v := .tuple #[.agg #[.bool false, .int .i64 0], .int .i64 (ae : Nat)]) (by simp [results, Try.results72, go_sem, c0, c1]) rfl ⟨rfl, H1.out.fra.put _ _⟩
set_option maxRecDepth 100000 in
set_option maxHeartbeats 800000 in
theorem between_err2 (l : V.VL) (v f f2 : Value) (g1 g2 g3 : Nat) (k : Int) (a b : Va) (w : World) (hv : Vok l v w) (hf : w.cell? ⟨g1, 0, none⟩ = some f) (hf2 : w.cell? ⟨g2, 0, none⟩ = some f2) (hk : w.cell? ⟨g3, 0, none⟩ = some (.int .i64 k)) (hp : PartV l v w f a) (hp2 : PartV l v w f2 b) (h0 : a.e = 0) (h1 : b.e ≠ 0) : Calls Try.prog 72 #[v, .pointer (some ⟨g1, 0, none⟩), .pointer (some ⟨g2, 0, none⟩), .pointer (some ⟨g3, 0, none⟩)] w (EvP (errV b.e) w) := by
  obtain ⟨n, cap, rfl, heg, hp⟩ := hp
  have HP : Hid (∀ w', Below w.heap.size w w' → Vok l v w' → Calls Try.prog n (#[v] ++ cap) w' (EvP a w')) := hp
  clear hp
  obtain ⟨m, cap2, rfl, heg2, hp2⟩ := hp2
  have HP2 : Hid (∀ w', Below w.heap.size w w' → Vok l v w' → Calls Try.prog m (#[v] ++ cap2) w' (EvP b w')) := hp2
  clear hp2
  have HV : Hid (Vok l v w) := hv
  obtain ⟨a1, n1, k1, a2, n2, k2, rfl⟩ := hv.form
  clear hv
  have HF : Hid (Fra w _ (.slice a1 n1 k1) (.slice a2 n2 k2)) := Fra.new w (.slice a1 n1 k1) (.slice a2 n2 k2)
  have hg1 : g1 < w.heap.size := World.block_lt_of_cell? w _ hf
  have hg2 : g2 < w.heap.size := World.block_lt_of_cell? w _ hf2
  have hg3 : g3 < w.heap.size := World.block_lt_of_cell? w _ hk
  have hz := nz h1
  obtain ⟨ab, an, ae⟩ := a
  obtain ⟨bb, bn, be⟩ := b
  simp only at h0 h1 hz
  subst h0
  unfold EvP errV at *
  simp only at *
  go_enter Try.func72, Try.ntmps72
  go_wp2_with (first
    | (have := HP; refine (HP.out _ HF.out.low (HV.out.below HF.out.low)).mono ?_; clear HP; rintro e w1 ⟨rfl, HB1⟩; have L1 : Hid (Below w.heap.size w w1) := (HF.out.below HB1).low; have hk1 := (L1.out.cell (p := ⟨g3, 0, none⟩) hg3).trans hk; have hg31 := Nat.lt_of_lt_of_le hg3 L1.out.size; have hf21 := (L1.out.cell (p := ⟨g2, 0, none⟩) hg2).trans hf2; have hg21 := Nat.lt_of_lt_of_le hg2 L1.out.size; have H1 : Hid (Fra1 w _ (.slice a1 n1 k1) (.slice a2 n2 k2) w1.heap.size (.bool ab) (.int .i64 an)) := (HF.out.below HB1).is (.bool ab) (.int .i64 an); clear HB1; obtain ⟨q1, c0, c1, f0, f1⟩ := H1.out.fra.room; obtain ⟨q4, v0, v1, y0, y1⟩ := H1.out.fra.vars)
    | (have := HP2; refine (HP2.out _ H1.out.fra.low (HV.out.below H1.out.fra.low)).mono ?_; clear HP2; rintro e w2 ⟨rfl, HB2⟩; have L2 : Hid (Below w.heap.size w w2) := H1.out.fra.low.trans (HB2.mono H1.out.fra.low.size); have hk2 := (L2.out.cell (p := ⟨g3, 0, none⟩) hg3).trans hk; have hg32 := Nat.lt_of_lt_of_le hg3 L2.out.size; have H2 : Hid (Fra1 w _ (.slice a1 n1 k1) (.slice a2 n2 k2) w2.heap.size (.bool bb) (.int .i64 bn) ∧ V.Two w2 w1.heap.size (.bool ab) (.int .i64 an)) := ⟨(H1.out.below HB2).fra.is (.bool bb) (.int .i64 bn), (H1.out.below HB2).is⟩; clear HB2; obtain ⟨q1, c0, c1, f0, f1⟩ := H2.out.1.fra.room; obtain ⟨q5, d0, d1, e0, e1⟩ := H2.out.2))
  refine bodyPost_ret (v := .tuple #[.agg #[.bool false, .int .i64 0], .int .i64 (be : Nat)]) (by simp [results, Try.results72, go_sem, c0, c1]) rfl ⟨rfl, H2.out.1.fra.put _ _⟩
set_option maxRecDepth 100000 in
set_option maxHeartbeats 800000 in
theorem between_eq (l : V.VL) (v f f2 : Value) (g1 g2 g3 : Nat) (a b : Va) (w : World) (hv : Vok l v w) (hf : w.cell? ⟨g1, 0, none⟩ = some f) (hf2 : w.cell? ⟨g2, 0, none⟩ = some f2) (hk : w.cell? ⟨g3, 0, none⟩ = some (.int .i64 11)) (hp : PartV l v w f a) (hp2 : PartV l v w f2 b) (t : Bool) (x : Int) (h0 : a = ⟨t, x, 0⟩) (h1 : b = ⟨t, x, 0⟩) : Calls Try.prog 72 #[v, .pointer (some ⟨g1, 0, none⟩), .pointer (some ⟨g2, 0, none⟩), .pointer (some ⟨g3, 0, none⟩)] w (EvP ⟨true, 1, 0⟩ w) := by
  obtain ⟨n, cap, rfl, heg, hp⟩ := hp
  have HP : Hid (∀ w', Below w.heap.size w w' → Vok l v w' → Calls Try.prog n (#[v] ++ cap) w' (EvP a w')) := hp
  clear hp
  obtain ⟨m, cap2, rfl, heg2, hp2⟩ := hp2
  have HP2 : Hid (∀ w', Below w.heap.size w w' → Vok l v w' → Calls Try.prog m (#[v] ++ cap2) w' (EvP b w')) := hp2
  clear hp2
  have HV : Hid (Vok l v w) := hv
  obtain ⟨a1, n1, k1, a2, n2, k2, rfl⟩ := hv.form
  clear hv
  have HF : Hid (Fra w _ (.slice a1 n1 k1) (.slice a2 n2 k2)) := Fra.new w (.slice a1 n1 k1) (.slice a2 n2 k2)
  have hg1 : g1 < w.heap.size := World.block_lt_of_cell? w _ hf
  have hg2 : g2 < w.heap.size := World.block_lt_of_cell? w _ hf2
  have hg3 : g3 < w.heap.size := World.block_lt_of_cell? w _ hk
  have HT : Hid (∀ w, Calls Try.prog 30 #[.bool true] w fun e w' => e = .returned (.agg #[.bool true, .int .i64 1]) ∧ Below w.heap.size w w') := fun w => truth_any true w
  subst h0
  subst h1
  unfold EvP at *
  simp only at *
  go_enter Try.func72, Try.ntmps72
  go_wp2_with (first
    | (go_at_call 30; refine (HT.out _).mono ?_; rintro e w3 ⟨rfl, HB3⟩; have H3 : Hid (Fra1 w w3 (.slice a1 n1 k1) (.slice a2 n2 k2) w2.heap.size (.bool t) (.int .i64 x)) := H2.out.1.below HB3; clear HB3; obtain ⟨q1, c0, c1, f0, f1⟩ := H3.out.fra.room)
    | (have := HP; refine (HP.out _ HF.out.low (HV.out.below HF.out.low)).mono ?_; clear HP; rintro e w1 ⟨rfl, HB1⟩; have L1 : Hid (Below w.heap.size w w1) := (HF.out.below HB1).low; have hk1 := (L1.out.cell (p := ⟨g3, 0, none⟩) hg3).trans hk; have hg31 := Nat.lt_of_lt_of_le hg3 L1.out.size; have hf21 := (L1.out.cell (p := ⟨g2, 0, none⟩) hg2).trans hf2; have hg21 := Nat.lt_of_lt_of_le hg2 L1.out.size; have H1 : Hid (Fra1 w _ (.slice a1 n1 k1) (.slice a2 n2 k2) w1.heap.size (.bool t) (.int .i64 x)) := (HF.out.below HB1).is (.bool t) (.int .i64 x); clear HB1; obtain ⟨q1, c0, c1, f0, f1⟩ := H1.out.fra.room; obtain ⟨q4, v0, v1, y0, y1⟩ := H1.out.fra.vars)
    | (have := HP2; refine (HP2.out _ H1.out.fra.low (HV.out.below H1.out.fra.low)).mono ?_; clear HP2; rintro e w2 ⟨rfl, HB2⟩; have L2 : Hid (Below w.heap.size w w2) := H1.out.fra.low.trans (HB2.mono H1.out.fra.low.size); have hk2 := (L2.out.cell (p := ⟨g3, 0, none⟩) hg3).trans hk; have hg32 := Nat.lt_of_lt_of_le hg3 L2.out.size; have H2 : Hid (Fra1 w _ (.slice a1 n1 k1) (.slice a2 n2 k2) w2.heap.size (.bool t) (.int .i64 x) ∧ V.Two w2 w1.heap.size (.bool t) (.int .i64 x)) := ⟨(H1.out.below HB2).fra.is (.bool t) (.int .i64 x), (H1.out.below HB2).is⟩; clear HB2; obtain ⟨q1, c0, c1, f0, f1⟩ := H2.out.1.fra.room; obtain ⟨q5, d0, d1, e0, e1⟩ := H2.out.2))
  refine bodyPost_ret (v := .tuple #[.agg #[.bool true, .int .i64 1], .int .i64 0]) (by simp [results, Try.results72, go_sem, c0, c1]) rfl ⟨rfl, H3.out.fra.put _ _⟩
set_option maxRecDepth 100000 in
set_option maxHeartbeats 800000 in
theorem between_ne (l : V.VL) (v f f2 : Value) (g1 g2 g3 : Nat) (a b : Va) (w : World) (hv : Vok l v w) (hf : w.cell? ⟨g1, 0, none⟩ = some f) (hf2 : w.cell? ⟨g2, 0, none⟩ = some f2) (hk : w.cell? ⟨g3, 0, none⟩ = some (.int .i64 11)) (hp : PartV l v w f a) (hp2 : PartV l v w f2 b) (t : Bool) (x y : Int) (hxy : x ≠ y) (h0 : a = ⟨t, x, 0⟩) (h1 : b = ⟨t, y, 0⟩) : Calls Try.prog 72 #[v, .pointer (some ⟨g1, 0, none⟩), .pointer (some ⟨g2, 0, none⟩), .pointer (some ⟨g3, 0, none⟩)] w (EvP ⟨true, 0, 0⟩ w) := by
  obtain ⟨n, cap, rfl, heg, hp⟩ := hp
  have HP : Hid (∀ w', Below w.heap.size w w' → Vok l v w' → Calls Try.prog n (#[v] ++ cap) w' (EvP a w')) := hp
  clear hp
  obtain ⟨m, cap2, rfl, heg2, hp2⟩ := hp2
  have HP2 : Hid (∀ w', Below w.heap.size w w' → Vok l v w' → Calls Try.prog m (#[v] ++ cap2) w' (EvP b w')) := hp2
  clear hp2
  have HV : Hid (Vok l v w) := hv
  obtain ⟨a1, n1, k1, a2, n2, k2, rfl⟩ := hv.form
  clear hv
  have HF : Hid (Fra w _ (.slice a1 n1 k1) (.slice a2 n2 k2)) := Fra.new w (.slice a1 n1 k1) (.slice a2 n2 k2)
  have hg1 : g1 < w.heap.size := World.block_lt_of_cell? w _ hf
  have hg2 : g2 < w.heap.size := World.block_lt_of_cell? w _ hf2
  have hg3 : g3 < w.heap.size := World.block_lt_of_cell? w _ hk
  have HT : Hid (∀ w, Calls Try.prog 30 #[.bool false] w fun e w' => e = .returned (.agg #[.bool true, .int .i64 0]) ∧ Below w.heap.size w w') := fun w => truth_any false w
  have hxs : (x == y) = false := by simpa using hxy
  have hxd : decide (x = y) = false := by simpa using hxy
  subst h0
  subst h1
  unfold EvP at *
  simp only at *
  go_enter Try.func72, Try.ntmps72
  go_wp2_with (first
    | (go_at_call 30; refine (HT.out _).mono ?_; rintro e w3 ⟨rfl, HB3⟩; have H3 : Hid (Fra1 w w3 (.slice a1 n1 k1) (.slice a2 n2 k2) w2.heap.size (.bool t) (.int .i64 y)) := H2.out.1.below HB3; clear HB3; obtain ⟨q1, c0, c1, f0, f1⟩ := H3.out.fra.room)
    | (have := HP; refine (HP.out _ HF.out.low (HV.out.below HF.out.low)).mono ?_; clear HP; rintro e w1 ⟨rfl, HB1⟩; have L1 : Hid (Below w.heap.size w w1) := (HF.out.below HB1).low; have hk1 := (L1.out.cell (p := ⟨g3, 0, none⟩) hg3).trans hk; have hg31 := Nat.lt_of_lt_of_le hg3 L1.out.size; have hf21 := (L1.out.cell (p := ⟨g2, 0, none⟩) hg2).trans hf2; have hg21 := Nat.lt_of_lt_of_le hg2 L1.out.size; have H1 : Hid (Fra1 w _ (.slice a1 n1 k1) (.slice a2 n2 k2) w1.heap.size (.bool t) (.int .i64 x)) := (HF.out.below HB1).is (.bool t) (.int .i64 x); clear HB1; obtain ⟨q1, c0, c1, f0, f1⟩ := H1.out.fra.room; obtain ⟨q4, v0, v1, y0, y1⟩ := H1.out.fra.vars)
    | (have := HP2; refine (HP2.out _ H1.out.fra.low (HV.out.below H1.out.fra.low)).mono ?_; clear HP2; rintro e w2 ⟨rfl, HB2⟩; have L2 : Hid (Below w.heap.size w w2) := H1.out.fra.low.trans (HB2.mono H1.out.fra.low.size); have hk2 := (L2.out.cell (p := ⟨g3, 0, none⟩) hg3).trans hk; have hg32 := Nat.lt_of_lt_of_le hg3 L2.out.size; have H2 : Hid (Fra1 w _ (.slice a1 n1 k1) (.slice a2 n2 k2) w2.heap.size (.bool t) (.int .i64 y) ∧ V.Two w2 w1.heap.size (.bool t) (.int .i64 x)) := ⟨(H1.out.below HB2).fra.is (.bool t) (.int .i64 y), (H1.out.below HB2).is⟩; clear HB2; obtain ⟨q1, c0, c1, f0, f1⟩ := H2.out.1.fra.room; obtain ⟨q5, d0, d1, e0, e1⟩ := H2.out.2))
  refine bodyPost_ret (v := .tuple #[.agg #[.bool true, .int .i64 0], .int .i64 0]) (by simp [results, Try.results72, go_sem, c0, c1]) rfl ⟨rfl, H3.out.fra.put _ _⟩
set_option maxRecDepth 100000 in
set_option maxHeartbeats 800000 in
theorem between_lt (l : V.VL) (v f f2 : Value) (g1 g2 g3 : Nat) (a b : Va) (w : World) (hv : Vok l v w) (hf : w.cell? ⟨g1, 0, none⟩ = some f) (hf2 : w.cell? ⟨g2, 0, none⟩ = some f2) (hk : w.cell? ⟨g3, 0, none⟩ = some (.int .i64 12)) (hp : PartV l v w f a) (hp2 : PartV l v w f2 b) (h0 : a.e = 0) (h1 : b.e = 0) : Calls Try.prog 72 #[v, .pointer (some ⟨g1, 0, none⟩), .pointer (some ⟨g2, 0, none⟩), .pointer (some ⟨g3, 0, none⟩)] w (EvP (truV (decide (a.n < b.n))) w) := by
  obtain ⟨n, cap, rfl, heg, hp⟩ := hp
  have HP : Hid (∀ w', Below w.heap.size w w' → Vok l v w' → Calls Try.prog n (#[v] ++ cap) w' (EvP a w')) := hp
  clear hp
  obtain ⟨m, cap2, rfl, heg2, hp2⟩ := hp2
  have HP2 : Hid (∀ w', Below w.heap.size w w' → Vok l v w' → Calls Try.prog m (#[v] ++ cap2) w' (EvP b w')) := hp2
  clear hp2
  have HV : Hid (Vok l v w) := hv
  obtain ⟨a1, n1, k1, a2, n2, k2, rfl⟩ := hv.form
  clear hv
  have HF : Hid (Fra w _ (.slice a1 n1 k1) (.slice a2 n2 k2)) := Fra.new w (.slice a1 n1 k1) (.slice a2 n2 k2)
  have hg1 : g1 < w.heap.size := World.block_lt_of_cell? w _ hf
  have hg2 : g2 < w.heap.size := World.block_lt_of_cell? w _ hf2
  have hg3 : g3 < w.heap.size := World.block_lt_of_cell? w _ hk
  obtain ⟨ab, an, ae⟩ := a
  obtain ⟨bb, bn, be⟩ := b
  simp only at h0 h1
  subst h0
  subst h1
  have HT : Hid (∀ w, Calls Try.prog 30 #[.bool (decide (an < bn))] w fun e w' => e = .returned (.agg #[.bool true, .int .i64 (if decide (an < bn) = true then 1 else 0)]) ∧ Below w.heap.size w w') := fun w => truth_any (decide (an < bn)) w
  unfold EvP truV at *
  simp only at *
  obtain ⟨dl, hdl⟩ : ∃ dl, decide (an < bn) = dl := ⟨_, rfl⟩
  rw [hdl] at HT ⊢
  obtain ⟨z, hz⟩ : ∃ z : Int, (if dl = true then 1 else 0) = z := ⟨_, rfl⟩
  rw [hz] at HT ⊢
  clear hz
  go_enter Try.func72, Try.ntmps72
  go_wp2_with (first
    | (go_at_call 30; refine (HT.out _).mono ?_; rintro e w3 ⟨rfl, HB3⟩; have H3 : Hid (Fra1 w w3 (.slice a1 n1 k1) (.slice a2 n2 k2) w2.heap.size (.bool bb) (.int .i64 bn)) := H2.out.1.below HB3; clear HB3; obtain ⟨q1, c0, c1, f0, f1⟩ := H3.out.fra.room)
    | (have := HP; refine (HP.out _ HF.out.low (HV.out.below HF.out.low)).mono ?_; clear HP; rintro e w1 ⟨rfl, HB1⟩; have L1 : Hid (Below w.heap.size w w1) := (HF.out.below HB1).low; have hk1 := (L1.out.cell (p := ⟨g3, 0, none⟩) hg3).trans hk; have hg31 := Nat.lt_of_lt_of_le hg3 L1.out.size; have hf21 := (L1.out.cell (p := ⟨g2, 0, none⟩) hg2).trans hf2; have hg21 := Nat.lt_of_lt_of_le hg2 L1.out.size; have H1 : Hid (Fra1 w _ (.slice a1 n1 k1) (.slice a2 n2 k2) w1.heap.size (.bool ab) (.int .i64 an)) := (HF.out.below HB1).is (.bool ab) (.int .i64 an); clear HB1; obtain ⟨q1, c0, c1, f0, f1⟩ := H1.out.fra.room; obtain ⟨q4, v0, v1, y0, y1⟩ := H1.out.fra.vars)
    | (have := HP2; refine (HP2.out _ H1.out.fra.low (HV.out.below H1.out.fra.low)).mono ?_; clear HP2; rintro e w2 ⟨rfl, HB2⟩; have L2 : Hid (Below w.heap.size w w2) := H1.out.fra.low.trans (HB2.mono H1.out.fra.low.size); have hk2 := (L2.out.cell (p := ⟨g3, 0, none⟩) hg3).trans hk; have hg32 := Nat.lt_of_lt_of_le hg3 L2.out.size; have H2 : Hid (Fra1 w _ (.slice a1 n1 k1) (.slice a2 n2 k2) w2.heap.size (.bool bb) (.int .i64 bn) ∧ V.Two w2 w1.heap.size (.bool ab) (.int .i64 an)) := ⟨(H1.out.below HB2).fra.is (.bool bb) (.int .i64 bn), (H1.out.below HB2).is⟩; clear HB2; obtain ⟨q1, c0, c1, f0, f1⟩ := H2.out.1.fra.room; obtain ⟨q5, d0, d1, e0, e1⟩ := H2.out.2))
  refine bodyPost_ret (v := .tuple #[.agg #[.bool true, .int .i64 z], .int .i64 0]) (by simp [results, Try.results72, go_sem, c0, c1]) rfl ⟨rfl, H3.out.fra.put _ _⟩
set_option maxRecDepth 100000 in
set_option maxHeartbeats 800000 in
theorem between_num (l : V.VL) (v f f2 : Value) (g1 g2 g3 : Nat) (k : Int) (a b : Va) (w : World) (hv : Vok l v w) (hf : w.cell? ⟨g1, 0, none⟩ = some f) (hf2 : w.cell? ⟨g2, 0, none⟩ = some f2) (hk : w.cell? ⟨g3, 0, none⟩ = some (.int .i64 k)) (hp : PartV l v w f a) (hp2 : PartV l v w f2 b) (h7 : 7 ≤ k) (h10 : k ≤ 10) (h0 : a.e = 0) (h1 : b.e = 0) (ha : InR a.n) (hb : InR b.n) : Calls Try.prog 72 #[v, .pointer (some ⟨g1, 0, none⟩), .pointer (some ⟨g2, 0, none⟩), .pointer (some ⟨g3, 0, none⟩)] w (EvP (numV (twoA k a.n b.n)) w) := by
  obtain ⟨n, cap, rfl, heg, hp⟩ := hp
  have HP : Hid (∀ w', Below w.heap.size w w' → Vok l v w' → Calls Try.prog n (#[v] ++ cap) w' (EvP a w')) := hp
  clear hp
  obtain ⟨m, cap2, rfl, heg2, hp2⟩ := hp2
  have HP2 : Hid (∀ w', Below w.heap.size w w' → Vok l v w' → Calls Try.prog m (#[v] ++ cap2) w' (EvP b w')) := hp2
  clear hp2
  have HV : Hid (Vok l v w) := hv
  obtain ⟨a1, n1, k1, a2, n2, k2, rfl⟩ := hv.form
  clear hv
  have HF : Hid (Fra w _ (.slice a1 n1 k1) (.slice a2 n2 k2)) := Fra.new w (.slice a1 n1 k1) (.slice a2 n2 k2)
  have hg1 : g1 < w.heap.size := World.block_lt_of_cell? w _ hf
  have hg2 : g2 < w.heap.size := World.block_lt_of_cell? w _ hf2
  have hg3 : g3 < w.heap.size := World.block_lt_of_cell? w _ hk
  have HR : Hid (∀ w, Calls Try.prog 70 #[.int .i64 k, .int .i64 a.n, .int .i64 b.n] w (EvP (numV (twoA k a.n b.n)) w)) := fun w => reckon_any k a.n b.n h7 h10 ha hb w
  clear ha hb
  obtain ⟨ab, an, ae⟩ := a
  obtain ⟨bb, bn, be⟩ := b
  simp only at *
  subst h0
  subst h1
  have k11 : (k == 11) = false := by simp; omega
  have k12 : (k == 12) = false := by simp; omega
  unfold EvP numV at *
  simp only at *
  generalize (twoA k an bn).1 = x at *
  generalize (twoA k an bn).2 = y at *
  go_enter Try.func72, Try.ntmps72
  go_wp2_with (first
    | (go_at_call 70; refine (HR.out _).mono ?_; rintro e w3 ⟨rfl, HB3⟩; have H3 : Hid (Fra1 w w3 (.slice a1 n1 k1) (.slice a2 n2 k2) w2.heap.size (.bool bb) (.int .i64 bn)) := H2.out.1.below HB3; clear HB3; obtain ⟨q1, c0, c1, f0, f1⟩ := H3.out.fra.room)
    | (have := HP; refine (HP.out _ HF.out.low (HV.out.below HF.out.low)).mono ?_; clear HP; rintro e w1 ⟨rfl, HB1⟩; have L1 : Hid (Below w.heap.size w w1) := (HF.out.below HB1).low; have hk1 := (L1.out.cell (p := ⟨g3, 0, none⟩) hg3).trans hk; have hg31 := Nat.lt_of_lt_of_le hg3 L1.out.size; have hf21 := (L1.out.cell (p := ⟨g2, 0, none⟩) hg2).trans hf2; have hg21 := Nat.lt_of_lt_of_le hg2 L1.out.size; have H1 : Hid (Fra1 w _ (.slice a1 n1 k1) (.slice a2 n2 k2) w1.heap.size (.bool ab) (.int .i64 an)) := (HF.out.below HB1).is (.bool ab) (.int .i64 an); clear HB1; obtain ⟨q1, c0, c1, f0, f1⟩ := H1.out.fra.room; obtain ⟨q4, v0, v1, y0, y1⟩ := H1.out.fra.vars)
    | (have := HP2; refine (HP2.out _ H1.out.fra.low (HV.out.below H1.out.fra.low)).mono ?_; clear HP2; rintro e w2 ⟨rfl, HB2⟩; have L2 : Hid (Below w.heap.size w w2) := H1.out.fra.low.trans (HB2.mono H1.out.fra.low.size); have hk2 := (L2.out.cell (p := ⟨g3, 0, none⟩) hg3).trans hk; have hg32 := Nat.lt_of_lt_of_le hg3 L2.out.size; have H2 : Hid (Fra1 w _ (.slice a1 n1 k1) (.slice a2 n2 k2) w2.heap.size (.bool bb) (.int .i64 bn) ∧ V.Two w2 w1.heap.size (.bool ab) (.int .i64 an)) := ⟨(H1.out.below HB2).fra.is (.bool bb) (.int .i64 bn), (H1.out.below HB2).is⟩; clear HB2; obtain ⟨q1, c0, c1, f0, f1⟩ := H2.out.1.fra.room; obtain ⟨q5, d0, d1, e0, e1⟩ := H2.out.2))
  refine bodyPost_ret (v := .tuple #[.agg #[.bool false, .int .i64 x], .int .i64 (y : Nat)]) (by simp [results, Try.results72, go_sem, c0, c1]) rfl ⟨rfl, H3.out.fra.put _ _⟩
end
end Go.Proofs.Ytfjphlejhcdbaaa
