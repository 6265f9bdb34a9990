/-
  The parts of a tree, as the program makes them: a sign ahead of one side.
-/
import Derived.Test.YtfjphlejhcdbaaaEvX
import Derived.Test.YtfjphlejhcdbaaaVRPut
import Derived.RegionTactic
namespace Go.Proofs.Ytfjphlejhcdbaaa
open Go.RowKit
set_option linter.unusedVariables false

/-- What a part has laid behind one call: the answer's cells too. -/
structure Fra1 (w w1 : World) (x y : Value) (q : Nat) (u0 u1 : Value) : Prop where
  fra : Fra w w1 x y
  is : V.Two w1 q u0 u1
  far : w.heap.size + 1 < q
theorem Fra.is {w w1 : World} {x y : Value} (h : Fra w w1 x y) (u0 u1 : Value) : Fra1 w (w1.alloc (.cells #[u0, u1] 32)) x y w1.heap.size u0 u1 :=
  ⟨h.below ((Below.refl _ _).alloc (Nat.le_refl _) _), V.Two.new w1 u0 u1 32, h.room.lt⟩
theorem Fra1.below {w w1 w2 : World} {x y : Value} {q : Nat} {u0 u1 : Value} (h : Fra1 w w1 x y q u0 u1) (hb : Below w1.heap.size w1 w2) : Fra1 w w2 x y q u0 u1 := ⟨h.fra.below hb, h.is.below hb, h.far⟩
theorem nz {e : Nat} (h : e ≠ 0) : ((e : Int) != 0) = true := by simp; omega
set_option maxRecDepth 100000 in
set_option maxHeartbeats 800000 in
theorem ahead_err (l : V.VL) (v f : Value) (g1 g2 : Nat) (k : Int) (r : Va) (w : World) (hv : Vok l v w) (hf : w.cell? ⟨g1, 0, none⟩ = some f) (hk : w.cell? ⟨g2, 0, none⟩ = some (.int .i64 k)) (hp : PartV l v w f r) (h0 : r.e ≠ 0) : Calls Try.prog 69 #[v, .pointer (some ⟨g1, 0, none⟩), .pointer (some ⟨g2, 0, none⟩)] w (EvP (errV r.e) w) := by
  obtain ⟨n, cap, rfl, heg, hp⟩ := hp
  have HP : Hid (∀ w', Below w.heap.size w w' → Vok l v w' → Calls Try.prog n (#[v] ++ cap) w' (EvP r w')) := hp
  clear hp
  have HV : Hid (Vok l v w) := hv
  obtain ⟨a1, n1, k1, a2, n2, k2, rfl⟩ := hv.form
  clear hv
  have HF : Hid (Fra w _ (.slice a1 n1 k1) (.slice a2 n2 k2)) := Fra.new w (.slice a1 n1 k1) (.slice a2 n2 k2)
  have hg1 : g1 < w.heap.size := World.block_lt_of_cell? w _ hf
  have hg2 : g2 < w.heap.size := World.block_lt_of_cell? w _ hk
  have hz := nz h0
  obtain ⟨rb, rn, re⟩ := r
  simp only at h0 hz
  unfold EvP errV at *
  simp only at *
  go_enter Try.func69, Try.ntmps69
  go_wp2_with (refine (HP.out _ HF.out.low (HV.out.below HF.out.low)).mono ?_; rintro e w1 ⟨rfl, HB1⟩; have L1 : Hid (Below w.heap.size w w1) := (HF.out.below HB1).low; have hk1 := (L1.out.cell (p := ⟨g2, 0, none⟩) hg2).trans hk; have hg3 := Nat.lt_of_lt_of_le hg2 L1.out.size; have H1 : Hid (Fra1 w _ (.slice a1 n1 k1) (.slice a2 n2 k2) w1.heap.size (.bool rb) (.int .i64 rn)) := (HF.out.below HB1).is (.bool rb) (.int .i64 rn); clear HB1; obtain ⟨q1, c0, c1, f0, f1⟩ := H1.out.fra.room)
  refine bodyPost_ret (v := .tuple #[.agg #[.bool false, .int .i64 0], .int .i64 (re : Nat)]) (by simp [results, Try.results69, go_sem, c0, c1]) rfl ⟨rfl, H1.out.fra.put _ _⟩
set_option maxRecDepth 100000 in
set_option maxHeartbeats 800000 in
theorem ahead_not0 (l : V.VL) (v f : Value) (g1 g2 : Nat) (r : Va) (w : World) (hv : Vok l v w) (hf : w.cell? ⟨g1, 0, none⟩ = some f) (hk : w.cell? ⟨g2, 0, none⟩ = some (.int .i64 6)) (hp : PartV l v w f r) (h0 : r = ⟨true, 0, 0⟩) : Calls Try.prog 69 #[v, .pointer (some ⟨g1, 0, none⟩), .pointer (some ⟨g2, 0, none⟩)] w (EvP ⟨true, 1, 0⟩ w) := by
  obtain ⟨n, cap, rfl, heg, hp⟩ := hp
  have HP : Hid (∀ w', Below w.heap.size w w' → Vok l v w' → Calls Try.prog n (#[v] ++ cap) w' (EvP r w')) := hp
  clear hp
  have HV : Hid (Vok l v w) := hv
  obtain ⟨a1, n1, k1, a2, n2, k2, rfl⟩ := hv.form
  clear hv
  have HF : Hid (Fra w _ (.slice a1 n1 k1) (.slice a2 n2 k2)) := Fra.new w (.slice a1 n1 k1) (.slice a2 n2 k2)
  have hg1 : g1 < w.heap.size := World.block_lt_of_cell? w _ hf
  have hg2 : g2 < w.heap.size := World.block_lt_of_cell? w _ hk
  have HT : Hid (∀ w, Calls Try.prog 30 #[.bool false] w fun e w' => e = .returned (.agg #[.bool true, .int .i64 0]) ∧ Below w.heap.size w w') := fun w => truth_any false w
  have HT2 : Hid (∀ w, Calls Try.prog 30 #[.bool true] w fun e w' => e = .returned (.agg #[.bool true, .int .i64 1]) ∧ Below w.heap.size w w') := fun w => truth_any true w
  subst h0
  unfold EvP at *
  simp only at *
  go_enter Try.func69, Try.ntmps69
  go_wp2_with (refine (HP.out _ HF.out.low (HV.out.below HF.out.low)).mono ?_; rintro e w1 ⟨rfl, HB1⟩; have L1 : Hid (Below w.heap.size w w1) := (HF.out.below HB1).low; have hk1 := (L1.out.cell (p := ⟨g2, 0, none⟩) hg2).trans hk; have hg3 := Nat.lt_of_lt_of_le hg2 L1.out.size; have H1 : Hid (Fra1 w _ (.slice a1 n1 k1) (.slice a2 n2 k2) w1.heap.size (.bool true) (.int .i64 0)) := (HF.out.below HB1).is (.bool true) (.int .i64 0); clear HB1; obtain ⟨q1, c0, c1, f0, f1⟩ := H1.out.fra.room)
  generalize hwx : w1.alloc (.cells #[.bool true, .int .i64 0] 32) = wx at *
  obtain ⟨q2, d0, d1, e0, e1⟩ := H1.out.is
  go_region_with (first
    | (go_at_call 30; have := HA; refine (HT2.out _).mono ?_; rintro e w3 ⟨rfl, HB3⟩; have H3 : Hid (Fra1 w w3 (.slice a1 n1 k1) (.slice a2 n2 k2) w1.heap.size (.bool true) (.int .i64 0)) := HA.out.below HB3; clear HB3; obtain ⟨q1, c0, c1, f0, f1⟩ := H3.out.fra.room)
    | (go_at_call 30; refine (HT.out _).mono ?_; rintro e w2 ⟨rfl, HB2⟩; have HA : Hid (Fra1 w w2 (.slice a1 n1 k1) (.slice a2 n2 k2) w1.heap.size (.bool true) (.int .i64 0)) := H1.out.below (V.below_drew HB2); clear HB2; obtain ⟨q2, d0, d1, e0, e1⟩ := HA.out.is))
  all_goals (
    go_wp2
    refine bodyPost_ret (v := .tuple #[.agg #[.bool true, .int .i64 1], .int .i64 0]) (by simp [results, Try.results69, go_sem, c0, c1]) rfl ⟨rfl, H3.out.fra.put _ _⟩)
set_option maxRecDepth 100000 in
set_option maxHeartbeats 800000 in
theorem ahead_not1 (l : V.VL) (v f : Value) (g1 g2 : Nat) (r : Va) (w : World) (hv : Vok l v w) (hf : w.cell? ⟨g1, 0, none⟩ = some f) (hk : w.cell? ⟨g2, 0, none⟩ = some (.int .i64 6)) (hp : PartV l v w f r) (h0 : r = ⟨true, 1, 0⟩) : Calls Try.prog 69 #[v, .pointer (some ⟨g1, 0, none⟩), .pointer (some ⟨g2, 0, none⟩)] w (EvP ⟨true, 0, 0⟩ w) := by
  obtain ⟨n, cap, rfl, heg, hp⟩ := hp
  have HP : Hid (∀ w', Below w.heap.size w w' → Vok l v w' → Calls Try.prog n (#[v] ++ cap) w' (EvP r w')) := hp
  clear hp
  have HV : Hid (Vok l v w) := hv
  obtain ⟨a1, n1, k1, a2, n2, k2, rfl⟩ := hv.form
  clear hv
  have HF : Hid (Fra w _ (.slice a1 n1 k1) (.slice a2 n2 k2)) := Fra.new w (.slice a1 n1 k1) (.slice a2 n2 k2)
  have hg1 : g1 < w.heap.size := World.block_lt_of_cell? w _ hf
  have hg2 : g2 < w.heap.size := World.block_lt_of_cell? w _ hk
  have HT : Hid (∀ w, Calls Try.prog 30 #[.bool false] w fun e w' => e = .returned (.agg #[.bool true, .int .i64 0]) ∧ Below w.heap.size w w') := fun w => truth_any false w
  have HT2 : Hid (∀ w, Calls Try.prog 30 #[.bool false] w fun e w' => e = .returned (.agg #[.bool true, .int .i64 0]) ∧ Below w.heap.size w w') := fun w => truth_any false w
  subst h0
  unfold EvP at *
  simp only at *
  go_enter Try.func69, Try.ntmps69
  go_wp2_with (refine (HP.out _ HF.out.low (HV.out.below HF.out.low)).mono ?_; rintro e w1 ⟨rfl, HB1⟩; have L1 : Hid (Below w.heap.size w w1) := (HF.out.below HB1).low; have hk1 := (L1.out.cell (p := ⟨g2, 0, none⟩) hg2).trans hk; have hg3 := Nat.lt_of_lt_of_le hg2 L1.out.size; have H1 : Hid (Fra1 w _ (.slice a1 n1 k1) (.slice a2 n2 k2) w1.heap.size (.bool true) (.int .i64 1)) := (HF.out.below HB1).is (.bool true) (.int .i64 1); clear HB1; obtain ⟨q1, c0, c1, f0, f1⟩ := H1.out.fra.room)
  generalize hwx : w1.alloc (.cells #[.bool true, .int .i64 1] 32) = wx at *
  obtain ⟨q2, d0, d1, e0, e1⟩ := H1.out.is
  go_region_with (first
    | (go_at_call 30; have := HA; refine (HT2.out _).mono ?_; rintro e w3 ⟨rfl, HB3⟩; have H3 : Hid (Fra1 w w3 (.slice a1 n1 k1) (.slice a2 n2 k2) w1.heap.size (.bool true) (.int .i64 1)) := HA.out.below HB3; clear HB3; obtain ⟨q1, c0, c1, f0, f1⟩ := H3.out.fra.room)
    | (go_at_call 30; refine (HT.out _).mono ?_; rintro e w2 ⟨rfl, HB2⟩; have HA : Hid (Fra1 w w2 (.slice a1 n1 k1) (.slice a2 n2 k2) w1.heap.size (.bool true) (.int .i64 1)) := H1.out.below (V.below_drew HB2); clear HB2; obtain ⟨q2, d0, d1, e0, e1⟩ := HA.out.is))
  all_goals (
    go_wp2
    refine bodyPost_ret (v := .tuple #[.agg #[.bool true, .int .i64 0], .int .i64 0]) (by simp [results, Try.results69, go_sem, c0, c1]) rfl ⟨rfl, H3.out.fra.put _ _⟩)
set_option maxRecDepth 100000 in
set_option maxHeartbeats 800000 in
theorem ahead_neg (l : V.VL) (v f : Value) (g1 g2 : Nat) (r : Va) (w : World) (hv : Vok l v w) (hf : w.cell? ⟨g1, 0, none⟩ = some f) (hk : w.cell? ⟨g2, 0, none⟩ = some (.int .i64 5)) (hp : PartV l v w f r) (h0 : r.e = 0) (hn : InR r.n) : Calls Try.prog 69 #[v, .pointer (some ⟨g1, 0, none⟩), .pointer (some ⟨g2, 0, none⟩)] w (EvP (numV (twoA 8 0 r.n)) w) := by
  obtain ⟨n, cap, rfl, heg, hp⟩ := hp
  have HP : Hid (∀ w', Below w.heap.size w w' → Vok l v w' → Calls Try.prog n (#[v] ++ cap) w' (EvP r w')) := hp
  clear hp
  have HV : Hid (Vok l v w) := hv
  obtain ⟨a1, n1, k1, a2, n2, k2, rfl⟩ := hv.form
  clear hv
  have HF : Hid (Fra w _ (.slice a1 n1 k1) (.slice a2 n2 k2)) := Fra.new w (.slice a1 n1 k1) (.slice a2 n2 k2)
  have hg1 : g1 < w.heap.size := World.block_lt_of_cell? w _ hf
  have hg2 : g2 < w.heap.size := World.block_lt_of_cell? w _ hk
  have HR : Hid (∀ w, Calls Try.prog 70 #[.int .i64 8, .int .i64 0, .int .i64 r.n] w (EvP (numV (twoA 8 0 r.n)) w)) := fun w => reckon_any 8 0 r.n (by decide) (by decide) inR_zero hn w
  clear hn
  obtain ⟨rb, rn, re⟩ := r
  simp only at *
  subst h0
  unfold EvP numV at *
  simp only at *
  generalize (twoA 8 0 rn).1 = x at *
  generalize (twoA 8 0 rn).2 = y at *
  go_enter Try.func69, Try.ntmps69
  go_wp2_with (first
    | (go_at_call 70; refine (HR.out _).mono ?_; rintro e w2 ⟨rfl, HB2⟩; have H2 : Hid (Fra1 w w2 (.slice a1 n1 k1) (.slice a2 n2 k2) w1.heap.size (.bool rb) (.int .i64 rn)) := H1.out.below HB2; clear HB2; obtain ⟨q1, c0, c1, f0, f1⟩ := H2.out.fra.room)
    | (refine (HP.out _ HF.out.low (HV.out.below HF.out.low)).mono ?_; rintro e w1 ⟨rfl, HB1⟩; have L1 : Hid (Below w.heap.size w w1) := (HF.out.below HB1).low; have hk1 := (L1.out.cell (p := ⟨g2, 0, none⟩) hg2).trans hk; have hg3 := Nat.lt_of_lt_of_le hg2 L1.out.size; have H1 : Hid (Fra1 w _ (.slice a1 n1 k1) (.slice a2 n2 k2) w1.heap.size (.bool rb) (.int .i64 rn)) := (HF.out.below HB1).is (.bool rb) (.int .i64 rn); clear HB1; obtain ⟨q1, c0, c1, f0, f1⟩ := H1.out.fra.room))
  refine bodyPost_ret (v := .tuple #[.agg #[.bool false, .int .i64 x], .int .i64 (y : Nat)]) (by simp [results, Try.results69, go_sem, c0, c1]) rfl ⟨rfl, H2.out.fra.put _ _⟩
end Go.Proofs.Ytfjphlejhcdbaaa
