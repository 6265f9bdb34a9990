/-
  The document's two: sums and differences: contracts.
-/
import Derived.Test.YtfjphlejhcdbaaaBigA
namespace Go.Proofs.Ytfjphlejhcdbaaa
section
open Go.RowKit
set_option linter.unusedVariables false

/-- A number, if it fits. -/
def fitA (v : Int) : Int × Nat := if inB v = true then (v, 0) else (0, 13)
theorem big_any (n : Int) (h : InR n) : ∃ (m : Bool) (d0 d1 : Nat), d0 < 4294967296 ∧ d1 < 4294967296 ∧ valB m d0 d1 0 = n ∧ d1 * 4294967296 + d0 = n.natAbs ∧ ∀ w, Calls Try.prog 73 #[.int .i64 n] w fun e w' => e = .returned (.agg #[.bool m, .int .u64 d0, .int .u64 d1, .int .u64 0]) ∧ Below w.heap.size w w' := by
  obtain ⟨h0, h1⟩ := h
  by_cases hn : n < 0
  · obtain ⟨u, rfl⟩ : ∃ u : Nat, n = -(u : Int) := ⟨n.natAbs, by omega⟩
    refine ⟨true, u % 4294967296, u / 4294967296, by omega, by omega, ?_, by omega, fun w => big_neg u (by omega) (by omega) w⟩
    unfold valB; simp only [if_true]; omega
  · obtain ⟨u, rfl⟩ : ∃ u : Nat, n = (u : Int) := ⟨n.natAbs, by omega⟩
    refine ⟨false, u % 4294967296, u / 4294967296, by omega, by omega, ?_, by omega, fun w => big_pos u (by omega) w⟩
    unfold valB; simp only [Bool.false_eq_true, if_false]; omega
/-- Three blocks of the call's own: what comes of it, and the two. -/
structure Tw (w wX : World) (xb yb : Nat) (m1 : Bool) (a0 a1 : Nat) (m2 : Bool) (b0 b1 : Nat) : Prop where
  low : Below w.heap.size w wX
  r : Cell4 wX w.heap.size (.bool false) (.int .u64 0) (.int .u64 0) (.int .u64 0)
  x : Cell4 wX xb (.bool m1) (.int .u64 a0) (.int .u64 a1) (.int .u64 0)
  y : Cell4 wX yb (.bool m2) (.int .u64 b0) (.int .u64 b1) (.int .u64 0)
theorem Tw.below {w wX w' : World} {xb yb a0 a1 b0 b1 : Nat} {m1 m2 : Bool} (h : Tw w wX xb yb m1 a0 a1 m2 b0 b1) (hb : Below wX.heap.size wX w') : Tw w w' xb yb m1 a0 a1 m2 b0 b1 :=
  ⟨h.low.trans (hb.mono h.low.size), h.r.below hb, h.x.below hb, h.y.below hb⟩
def SumQ (w : World) (v : Int) (e : Ending) (w' : World) : Prop := (∃ m r0 r1 r2, e = .returned (.agg #[.bool m, .int .u64 ((r0 : Nat) : Int), .int .u64 ((r1 : Nat) : Int), .int .u64 ((r2 : Nat) : Int)]) ∧ r0 < 4294967296 ∧ r1 < 4294967296 ∧ r2 < 4294967296 ∧ valB m r0 r1 r2 = v) ∧ Below w.heap.size w w'
set_option maxRecDepth 100000 in
set_option maxHeartbeats 1000000 in
theorem radd_yes (a b v : Int) (m1 m2 : Bool) (a0 a1 b0 b1 : Nat) (w : World) (hv : inB v = true)
    (H1 : Hid (∀ w, Calls Try.prog 73 #[.int .i64 a] w fun e w' => e = .returned (.agg #[.bool m1, .int .u64 a0, .int .u64 a1, .int .u64 0]) ∧ Below w.heap.size w w')) (H2 : Hid (∀ w, Calls Try.prog 73 #[.int .i64 b] w fun e w' => e = .returned (.agg #[.bool m2, .int .u64 b0, .int .u64 b1, .int .u64 0]) ∧ Below w.heap.size w w'))
    (H3 : Hid (∀ w, Calls Try.prog 74 #[.agg #[.bool m1, .int .u64 a0, .int .u64 a1, .int .u64 0], .agg #[.bool m2, .int .u64 b0, .int .u64 b1, .int .u64 0]] w (SumQ w v))) :
    Calls Try.prog 52 #[.int .i64 7, .int .i64 a, .int .i64 b] w fun e w' => e = .returned (.tuple #[.int .i64 v, .int .i64 0]) ∧ Below w.heap.size w w' := by
  have H5 : Hid (∀ (m : Bool) (r0 r1 r2 : Nat) (w : World), r0 < 4294967296 → r1 < 4294967296 → r2 < 4294967296 → valB m r0 r1 r2 = v → Calls Try.prog 76 #[.agg #[.bool m, .int .u64 r0, .int .u64 r1, .int .u64 r2]] w (SmP w true v)) := fun m r0 r1 r2 w h0 h1 h2 he => by
    have := small_any m r0 r1 r2 h0 h1 (by omega) w
    rw [he, hv] at this
    exact this
  clear hv
  go_enter Try.func52, Try.ntmps52
  go_wp2_with (first
    | (go_at_call 76; have := M3; refine (H5.out _ _ _ _ _ M3.out.1 M3.out.2.1 M3.out.2.2.1 M3.out.2.2.2).mono ?_; rintro e w5 ⟨⟨z, rfl, hz⟩, HB⟩; obtain rfl := hz rfl; have HF : Hid (Below w.heap.size w w5) := (below_four HL3.out (M := w.heap.size) (o := 0) (Nat.le_refl _)).trans (HB.mono (below_four HL3.out (M := w.heap.size) (o := 0) (Nat.le_refl _)).size); clear HB M3)
    | (go_at_call 74; have := M2; refine (H3.out _).mono ?_; rintro e w3 ⟨⟨rm, r0, r1, r2, rfl, g0, g1, g2, gv⟩, HB⟩; have M3 : Hid (r0 < 4294967296 ∧ r1 < 4294967296 ∧ r2 < 4294967296 ∧ valB rm r0 r1 r2 = v) := ⟨g0, g1, g2, gv⟩; have HL3 : Hid (Below w.heap.size w w3) := (M2.out.below HB).low; obtain ⟨s0, s1, s2, s3, s4⟩ := (M2.out.below HB).r; have l3 := World.block_lt_of_cell? _ _ s0; clear HB M2 g0 g1 g2 gv)
    | (go_at_call 73; have := M1; refine (H2.out _).mono ?_; rintro e w2 ⟨rfl, HB⟩; have M2 : Hid (Tw w (w2.alloc (.cells #[.bool m2, .int .u64 b0, .int .u64 b1, .int .u64 0] 103)) w1.heap.size w2.heap.size m1 a0 a1 m2 b0 b1) := ⟨((M1.out.1.alloc M1.out.1.size _).trans (HB.mono (Nat.le_trans M1.out.1.size (le_alloc _ _)))).alloc (Nat.le_trans (Nat.le_trans M1.out.1.size (le_alloc _ _)) HB.size) _, ((M1.out.2.alloc _).below HB).alloc _, ((Cell4.new w1 _ _ _ _ 103).below HB).alloc _, Cell4.new w2 _ _ _ _ 103⟩; obtain ⟨p0, p1, p2, p3, p4⟩ := (Cell4.new w1 (.bool m1) (.int .u64 a0) (.int .u64 a1) (.int .u64 0) 103).below HB; have l2 : w1.heap.size < w2.heap.size := World.block_lt_of_cell? _ _ p0; clear HB M1)
    | (go_at_call 73; refine (H1.out _).mono ?_; rintro e w1 ⟨rfl, HB⟩; have M1 : Hid (Below w.heap.size w w1 ∧ Cell4 w1 w.heap.size (.bool false) (.int .u64 0) (.int .u64 0) (.int .u64 0)) := ⟨((Below.refl _ _).alloc (Nat.le_refl _) _).trans (HB.mono (le_alloc _ _)), (Cell4.new w _ _ _ _ 103).below HB⟩; clear HB))
  go_ret2
  exact ⟨rfl, HF.out⟩
set_option maxRecDepth 100000 in
set_option maxHeartbeats 1000000 in
theorem radd_no (a b v : Int) (m1 m2 : Bool) (a0 a1 b0 b1 : Nat) (w : World) (hv : inB v = false)
    (H1 : Hid (∀ w, Calls Try.prog 73 #[.int .i64 a] w fun e w' => e = .returned (.agg #[.bool m1, .int .u64 a0, .int .u64 a1, .int .u64 0]) ∧ Below w.heap.size w w')) (H2 : Hid (∀ w, Calls Try.prog 73 #[.int .i64 b] w fun e w' => e = .returned (.agg #[.bool m2, .int .u64 b0, .int .u64 b1, .int .u64 0]) ∧ Below w.heap.size w w'))
    (H3 : Hid (∀ w, Calls Try.prog 74 #[.agg #[.bool m1, .int .u64 a0, .int .u64 a1, .int .u64 0], .agg #[.bool m2, .int .u64 b0, .int .u64 b1, .int .u64 0]] w (SumQ w v))) :
    Calls Try.prog 52 #[.int .i64 7, .int .i64 a, .int .i64 b] w fun e w' => e = .returned (.tuple #[.int .i64 0, .int .i64 13]) ∧ Below w.heap.size w w' := by
  have H5 : Hid (∀ (m : Bool) (r0 r1 r2 : Nat) (w : World), r0 < 4294967296 → r1 < 4294967296 → r2 < 4294967296 → valB m r0 r1 r2 = v → Calls Try.prog 76 #[.agg #[.bool m, .int .u64 r0, .int .u64 r1, .int .u64 r2]] w (SmP w false v)) := fun m r0 r1 r2 w h0 h1 h2 he => by
    have := small_any m r0 r1 r2 h0 h1 (by omega) w
    rw [he, hv] at this
    exact this
  clear hv
  go_enter Try.func52, Try.ntmps52
  go_wp2_with (first
    | (go_at_call 76; have := M3; refine (H5.out _ _ _ _ _ M3.out.1 M3.out.2.1 M3.out.2.2.1 M3.out.2.2.2).mono ?_; rintro e w5 ⟨⟨z, rfl, hz⟩, HB⟩; have HF : Hid (Below w.heap.size w w5) := (below_four HL3.out (M := w.heap.size) (o := 0) (Nat.le_refl _)).trans (HB.mono (below_four HL3.out (M := w.heap.size) (o := 0) (Nat.le_refl _)).size); clear HB M3)
    | (go_at_call 74; have := M2; refine (H3.out _).mono ?_; rintro e w3 ⟨⟨rm, r0, r1, r2, rfl, g0, g1, g2, gv⟩, HB⟩; have M3 : Hid (r0 < 4294967296 ∧ r1 < 4294967296 ∧ r2 < 4294967296 ∧ valB rm r0 r1 r2 = v) := ⟨g0, g1, g2, gv⟩; have HL3 : Hid (Below w.heap.size w w3) := (M2.out.below HB).low; obtain ⟨s0, s1, s2, s3, s4⟩ := (M2.out.below HB).r; have l3 := World.block_lt_of_cell? _ _ s0; clear HB M2 g0 g1 g2 gv)
    | (go_at_call 73; have := M1; refine (H2.out _).mono ?_; rintro e w2 ⟨rfl, HB⟩; have M2 : Hid (Tw w (w2.alloc (.cells #[.bool m2, .int .u64 b0, .int .u64 b1, .int .u64 0] 103)) w1.heap.size w2.heap.size m1 a0 a1 m2 b0 b1) := ⟨((M1.out.1.alloc M1.out.1.size _).trans (HB.mono (Nat.le_trans M1.out.1.size (le_alloc _ _)))).alloc (Nat.le_trans (Nat.le_trans M1.out.1.size (le_alloc _ _)) HB.size) _, ((M1.out.2.alloc _).below HB).alloc _, ((Cell4.new w1 _ _ _ _ 103).below HB).alloc _, Cell4.new w2 _ _ _ _ 103⟩; obtain ⟨p0, p1, p2, p3, p4⟩ := (Cell4.new w1 (.bool m1) (.int .u64 a0) (.int .u64 a1) (.int .u64 0) 103).below HB; have l2 : w1.heap.size < w2.heap.size := World.block_lt_of_cell? _ _ p0; clear HB M1)
    | (go_at_call 73; refine (H1.out _).mono ?_; rintro e w1 ⟨rfl, HB⟩; have M1 : Hid (Below w.heap.size w w1 ∧ Cell4 w1 w.heap.size (.bool false) (.int .u64 0) (.int .u64 0) (.int .u64 0)) := ⟨((Below.refl _ _).alloc (Nat.le_refl _) _).trans (HB.mono (le_alloc _ _)), (Cell4.new w _ _ _ _ 103).below HB⟩; clear HB))
  go_ret2
  exact ⟨rfl, HF.out⟩
set_option maxRecDepth 100000 in
set_option maxHeartbeats 1000000 in
theorem rsub_yes (a b v : Int) (m1 m2 : Bool) (a0 a1 b0 b1 : Nat) (w : World) (hv : inB v = true)
    (H1 : Hid (∀ w, Calls Try.prog 73 #[.int .i64 a] w fun e w' => e = .returned (.agg #[.bool m1, .int .u64 a0, .int .u64 a1, .int .u64 0]) ∧ Below w.heap.size w w')) (H2 : Hid (∀ w, Calls Try.prog 73 #[.int .i64 b] w fun e w' => e = .returned (.agg #[.bool m2, .int .u64 b0, .int .u64 b1, .int .u64 0]) ∧ Below w.heap.size w w'))
    (H3 : Hid (∀ w, Calls Try.prog 74 #[.agg #[.bool m1, .int .u64 a0, .int .u64 a1, .int .u64 0], .agg #[.bool (!m2), .int .u64 b0, .int .u64 b1, .int .u64 0]] w (SumQ w v))) :
    Calls Try.prog 52 #[.int .i64 8, .int .i64 a, .int .i64 b] w fun e w' => e = .returned (.tuple #[.int .i64 v, .int .i64 0]) ∧ Below w.heap.size w w' := by
  have H5 : Hid (∀ (m : Bool) (r0 r1 r2 : Nat) (w : World), r0 < 4294967296 → r1 < 4294967296 → r2 < 4294967296 → valB m r0 r1 r2 = v → Calls Try.prog 76 #[.agg #[.bool m, .int .u64 r0, .int .u64 r1, .int .u64 r2]] w (SmP w true v)) := fun m r0 r1 r2 w h0 h1 h2 he => by
    have := small_any m r0 r1 r2 h0 h1 (by omega) w
    rw [he, hv] at this
    exact this
  clear hv
  go_enter Try.func52, Try.ntmps52
  go_wp2_with (first
    | (go_at_call 76; have := M3; refine (H5.out _ _ _ _ _ M3.out.1 M3.out.2.1 M3.out.2.2.1 M3.out.2.2.2).mono ?_; rintro e w5 ⟨⟨z, rfl, hz⟩, HB⟩; obtain rfl := hz rfl; have HF : Hid (Below w.heap.size w w5) := (below_four HL3.out (M := w.heap.size) (o := 0) (Nat.le_refl _)).trans (HB.mono (below_four HL3.out (M := w.heap.size) (o := 0) (Nat.le_refl _)).size); clear HB M3)
    | (go_at_call 74; have := M2; refine (H3.out _).mono ?_; rintro e w3 ⟨⟨rm, r0, r1, r2, rfl, g0, g1, g2, gv⟩, HB⟩; have M3 : Hid (r0 < 4294967296 ∧ r1 < 4294967296 ∧ r2 < 4294967296 ∧ valB rm r0 r1 r2 = v) := ⟨g0, g1, g2, gv⟩; have HL3 : Hid (Below w.heap.size w w3) := (M2.out.below HB).low; obtain ⟨s0, s1, s2, s3, s4⟩ := (M2.out.below HB).r; have l3 := World.block_lt_of_cell? _ _ s0; clear HB M2 g0 g1 g2 gv)
    | (go_at_call 73; have := M1; refine (H2.out _).mono ?_; rintro e w2 ⟨rfl, HB⟩; have M2 : Hid (Tw w (w2.alloc (.cells #[.bool m2, .int .u64 b0, .int .u64 b1, .int .u64 0] 103)) w1.heap.size w2.heap.size m1 a0 a1 m2 b0 b1) := ⟨((M1.out.1.alloc M1.out.1.size _).trans (HB.mono (Nat.le_trans M1.out.1.size (le_alloc _ _)))).alloc (Nat.le_trans (Nat.le_trans M1.out.1.size (le_alloc _ _)) HB.size) _, ((M1.out.2.alloc _).below HB).alloc _, ((Cell4.new w1 _ _ _ _ 103).below HB).alloc _, Cell4.new w2 _ _ _ _ 103⟩; obtain ⟨p0, p1, p2, p3, p4⟩ := (Cell4.new w1 (.bool m1) (.int .u64 a0) (.int .u64 a1) (.int .u64 0) 103).below HB; have l2 : w1.heap.size < w2.heap.size := World.block_lt_of_cell? _ _ p0; clear HB M1)
    | (go_at_call 73; refine (H1.out _).mono ?_; rintro e w1 ⟨rfl, HB⟩; have M1 : Hid (Below w.heap.size w w1 ∧ Cell4 w1 w.heap.size (.bool false) (.int .u64 0) (.int .u64 0) (.int .u64 0)) := ⟨((Below.refl _ _).alloc (Nat.le_refl _) _).trans (HB.mono (le_alloc _ _)), (Cell4.new w _ _ _ _ 103).below HB⟩; clear HB))
  go_ret2
  exact ⟨rfl, HF.out⟩
set_option maxRecDepth 100000 in
set_option maxHeartbeats 1000000 in
theorem rsub_no (a b v : Int) (m1 m2 : Bool) (a0 a1 b0 b1 : Nat) (w : World) (hv : inB v = false)
    (H1 : Hid (∀ w, Calls Try.prog 73 #[.int .i64 a] w fun e w' => e = .returned (.agg #[.bool m1, .int .u64 a0, .int .u64 a1, .int .u64 0]) ∧ Below w.heap.size w w')) (H2 : Hid (∀ w, Calls Try.prog 73 #[.int .i64 b] w fun e w' => e = .returned (.agg #[.bool m2, .int .u64 b0, .int .u64 b1, .int .u64 0]) ∧ Below w.heap.size w w'))
    (H3 : Hid (∀ w, Calls Try.prog 74 #[.agg #[.bool m1, .int .u64 a0, .int .u64 a1, .int .u64 0], .agg #[.bool (!m2), .int .u64 b0, .int .u64 b1, .int .u64 0]] w (SumQ w v))) :
    Calls Try.prog 52 #[.int .i64 8, .int .i64 a, .int .i64 b] w fun e w' => e = .returned (.tuple #[.int .i64 0, .int .i64 13]) ∧ Below w.heap.size w w' := by
  have H5 : Hid (∀ (m : Bool) (r0 r1 r2 : Nat) (w : World), r0 < 4294967296 → r1 < 4294967296 → r2 < 4294967296 → valB m r0 r1 r2 = v → Calls Try.prog 76 #[.agg #[.bool m, .int .u64 r0, .int .u64 r1, .int .u64 r2]] w (SmP w false v)) := fun m r0 r1 r2 w h0 h1 h2 he => by
    have := small_any m r0 r1 r2 h0 h1 (by omega) w
    rw [he, hv] at this
    exact this
  clear hv
  go_enter Try.func52, Try.ntmps52
  go_wp2_with (first
    | (go_at_call 76; have := M3; refine (H5.out _ _ _ _ _ M3.out.1 M3.out.2.1 M3.out.2.2.1 M3.out.2.2.2).mono ?_; rintro e w5 ⟨⟨z, rfl, hz⟩, HB⟩; have HF : Hid (Below w.heap.size w w5) := (below_four HL3.out (M := w.heap.size) (o := 0) (Nat.le_refl _)).trans (HB.mono (below_four HL3.out (M := w.heap.size) (o := 0) (Nat.le_refl _)).size); clear HB M3)
    | (go_at_call 74; have := M2; refine (H3.out _).mono ?_; rintro e w3 ⟨⟨rm, r0, r1, r2, rfl, g0, g1, g2, gv⟩, HB⟩; have M3 : Hid (r0 < 4294967296 ∧ r1 < 4294967296 ∧ r2 < 4294967296 ∧ valB rm r0 r1 r2 = v) := ⟨g0, g1, g2, gv⟩; have HL3 : Hid (Below w.heap.size w w3) := (M2.out.below HB).low; obtain ⟨s0, s1, s2, s3, s4⟩ := (M2.out.below HB).r; have l3 := World.block_lt_of_cell? _ _ s0; clear HB M2 g0 g1 g2 gv)
    | (go_at_call 73; have := M1; refine (H2.out _).mono ?_; rintro e w2 ⟨rfl, HB⟩; have M2 : Hid (Tw w (w2.alloc (.cells #[.bool m2, .int .u64 b0, .int .u64 b1, .int .u64 0] 103)) w1.heap.size w2.heap.size m1 a0 a1 m2 b0 b1) := ⟨((M1.out.1.alloc M1.out.1.size _).trans (HB.mono (Nat.le_trans M1.out.1.size (le_alloc _ _)))).alloc (Nat.le_trans (Nat.le_trans M1.out.1.size (le_alloc _ _)) HB.size) _, ((M1.out.2.alloc _).below HB).alloc _, ((Cell4.new w1 _ _ _ _ 103).below HB).alloc _, Cell4.new w2 _ _ _ _ 103⟩; obtain ⟨p0, p1, p2, p3, p4⟩ := (Cell4.new w1 (.bool m1) (.int .u64 a0) (.int .u64 a1) (.int .u64 0) 103).below HB; have l2 : w1.heap.size < w2.heap.size := World.block_lt_of_cell? _ _ p0; clear HB M1)
    | (go_at_call 73; refine (H1.out _).mono ?_; rintro e w1 ⟨rfl, HB⟩; have M1 : Hid (Below w.heap.size w w1 ∧ Cell4 w1 w.heap.size (.bool false) (.int .u64 0) (.int .u64 0) (.int .u64 0)) := ⟨((Below.refl _ _).alloc (Nat.le_refl _) _).trans (HB.mono (le_alloc _ _)), (Cell4.new w _ _ _ _ 103).below HB⟩; clear HB))
  go_ret2
  exact ⟨rfl, HF.out⟩
end
section
open Go.RowKit
set_option linter.unusedVariables false

def PrQ (w : World) (v : Int) (e : Ending) (w' : World) : Prop := (∃ m r0 r1 r2, e = .returned (.tuple #[.agg #[.bool m, .int .u64 ((r0 : Nat) : Int), .int .u64 ((r1 : Nat) : Int), .int .u64 ((r2 : Nat) : Int)], .bool true]) ∧ r0 < 4294967296 ∧ r1 < 4294967296 ∧ r2 < 18446744073709551616 ∧ valB m r0 r1 r2 = v) ∧ Below w.heap.size w w'
set_option maxRecDepth 100000 in
set_option maxHeartbeats 1000000 in
theorem rmul_yes (a b v : Int) (m1 m2 : Bool) (a0 a1 b0 b1 : Nat) (w : World) (hv : inB v = true)
    (H1 : Hid (∀ w, Calls Try.prog 73 #[.int .i64 a] w fun e w' => e = .returned (.agg #[.bool m1, .int .u64 a0, .int .u64 a1, .int .u64 0]) ∧ Below w.heap.size w w')) (H2 : Hid (∀ w, Calls Try.prog 73 #[.int .i64 b] w fun e w' => e = .returned (.agg #[.bool m2, .int .u64 b0, .int .u64 b1, .int .u64 0]) ∧ Below w.heap.size w w'))
    (H3 : Hid (∀ w, Calls Try.prog 75 #[.agg #[.bool m1, .int .u64 a0, .int .u64 a1, .int .u64 0], .agg #[.bool m2, .int .u64 b0, .int .u64 b1, .int .u64 0]] w (PrQ w v))) :
    Calls Try.prog 52 #[.int .i64 9, .int .i64 a, .int .i64 b] w fun e w' => e = .returned (.tuple #[.int .i64 v, .int .i64 0]) ∧ Below w.heap.size w w' := by
  have H5 : Hid (∀ (m : Bool) (r0 r1 r2 : Nat) (w : World), r0 < 4294967296 → r1 < 4294967296 → r2 < 18446744073709551616 → valB m r0 r1 r2 = v → Calls Try.prog 76 #[.agg #[.bool m, .int .u64 r0, .int .u64 r1, .int .u64 r2]] w (SmP w true v)) := fun m r0 r1 r2 w h0 h1 h2 he => by
    have := small_any m r0 r1 r2 h0 h1 h2 w
    rw [he, hv] at this
    exact this
  clear hv
  go_enter Try.func52, Try.ntmps52
  go_wp2_with (first
    | (go_at_call 76; have := M3; refine (H5.out _ _ _ _ _ M3.out.1 M3.out.2.1 M3.out.2.2.1 M3.out.2.2.2).mono ?_; rintro e w5 ⟨⟨z, rfl, hz⟩, HB⟩; obtain rfl := hz rfl; have HF : Hid (Below w.heap.size w w5) := ((below_four HL3.out (M := w.heap.size) (o := 0) (Nat.le_refl _)).alloc (below_four HL3.out (M := w.heap.size) (o := 0) (Nat.le_refl _)).size _).trans (HB.mono ((below_four HL3.out (M := w.heap.size) (o := 0) (Nat.le_refl _)).alloc (below_four HL3.out (M := w.heap.size) (o := 0) (Nat.le_refl _)).size _).size); clear HB M3)
    | (go_at_call 75; have := M2; refine (H3.out _).mono ?_; rintro e w3 ⟨⟨rm, r0, r1, r2, rfl, g0, g1, g2, gv⟩, HB⟩; have M3 : Hid (r0 < 4294967296 ∧ r1 < 4294967296 ∧ r2 < 18446744073709551616 ∧ valB rm r0 r1 r2 = v) := ⟨g0, g1, g2, gv⟩; have HL3 : Hid (Below w.heap.size w w3) := (M2.out.below HB).low; obtain ⟨s0, s1, s2, s3, s4⟩ := (M2.out.below HB).r; have l3 := World.block_lt_of_cell? _ _ s0; clear HB M2 g0 g1 g2 gv)
    | (go_at_call 73; have := M1; refine (H2.out _).mono ?_; rintro e w2 ⟨rfl, HB⟩; have M2 : Hid (Tw w (w2.alloc (.cells #[.bool m2, .int .u64 b0, .int .u64 b1, .int .u64 0] 103)) w1.heap.size w2.heap.size m1 a0 a1 m2 b0 b1) := ⟨((M1.out.1.alloc M1.out.1.size _).trans (HB.mono (Nat.le_trans M1.out.1.size (le_alloc _ _)))).alloc (Nat.le_trans (Nat.le_trans M1.out.1.size (le_alloc _ _)) HB.size) _, ((M1.out.2.alloc _).below HB).alloc _, ((Cell4.new w1 _ _ _ _ 103).below HB).alloc _, Cell4.new w2 _ _ _ _ 103⟩; obtain ⟨p0, p1, p2, p3, p4⟩ := (Cell4.new w1 (.bool m1) (.int .u64 a0) (.int .u64 a1) (.int .u64 0) 103).below HB; have l2 : w1.heap.size < w2.heap.size := World.block_lt_of_cell? _ _ p0; clear HB M1)
    | (go_at_call 73; refine (H1.out _).mono ?_; rintro e w1 ⟨rfl, HB⟩; have M1 : Hid (Below w.heap.size w w1 ∧ Cell4 w1 w.heap.size (.bool false) (.int .u64 0) (.int .u64 0) (.int .u64 0)) := ⟨((Below.refl _ _).alloc (Nat.le_refl _) _).trans (HB.mono (le_alloc _ _)), (Cell4.new w _ _ _ _ 103).below HB⟩; clear HB))
  go_ret2
  exact ⟨rfl, HF.out⟩
set_option maxRecDepth 100000 in
set_option maxHeartbeats 1000000 in
theorem rmul_no (a b v : Int) (m1 m2 : Bool) (a0 a1 b0 b1 : Nat) (w : World) (hv : inB v = false)
    (H1 : Hid (∀ w, Calls Try.prog 73 #[.int .i64 a] w fun e w' => e = .returned (.agg #[.bool m1, .int .u64 a0, .int .u64 a1, .int .u64 0]) ∧ Below w.heap.size w w')) (H2 : Hid (∀ w, Calls Try.prog 73 #[.int .i64 b] w fun e w' => e = .returned (.agg #[.bool m2, .int .u64 b0, .int .u64 b1, .int .u64 0]) ∧ Below w.heap.size w w'))
    (H3 : Hid (∀ w, Calls Try.prog 75 #[.agg #[.bool m1, .int .u64 a0, .int .u64 a1, .int .u64 0], .agg #[.bool m2, .int .u64 b0, .int .u64 b1, .int .u64 0]] w (PrQ w v))) :
    Calls Try.prog 52 #[.int .i64 9, .int .i64 a, .int .i64 b] w fun e w' => e = .returned (.tuple #[.int .i64 0, .int .i64 13]) ∧ Below w.heap.size w w' := by
  have H5 : Hid (∀ (m : Bool) (r0 r1 r2 : Nat) (w : World), r0 < 4294967296 → r1 < 4294967296 → r2 < 18446744073709551616 → valB m r0 r1 r2 = v → Calls Try.prog 76 #[.agg #[.bool m, .int .u64 r0, .int .u64 r1, .int .u64 r2]] w (SmP w false v)) := fun m r0 r1 r2 w h0 h1 h2 he => by
    have := small_any m r0 r1 r2 h0 h1 h2 w
    rw [he, hv] at this
    exact this
  clear hv
  go_enter Try.func52, Try.ntmps52
  go_wp2_with (first
    | (go_at_call 76; have := M3; refine (H5.out _ _ _ _ _ M3.out.1 M3.out.2.1 M3.out.2.2.1 M3.out.2.2.2).mono ?_; rintro e w5 ⟨⟨z, rfl, hz⟩, HB⟩; have HF : Hid (Below w.heap.size w w5) := ((below_four HL3.out (M := w.heap.size) (o := 0) (Nat.le_refl _)).alloc (below_four HL3.out (M := w.heap.size) (o := 0) (Nat.le_refl _)).size _).trans (HB.mono ((below_four HL3.out (M := w.heap.size) (o := 0) (Nat.le_refl _)).alloc (below_four HL3.out (M := w.heap.size) (o := 0) (Nat.le_refl _)).size _).size); clear HB M3)
    | (go_at_call 75; have := M2; refine (H3.out _).mono ?_; rintro e w3 ⟨⟨rm, r0, r1, r2, rfl, g0, g1, g2, gv⟩, HB⟩; have M3 : Hid (r0 < 4294967296 ∧ r1 < 4294967296 ∧ r2 < 18446744073709551616 ∧ valB rm r0 r1 r2 = v) := ⟨g0, g1, g2, gv⟩; have HL3 : Hid (Below w.heap.size w w3) := (M2.out.below HB).low; obtain ⟨s0, s1, s2, s3, s4⟩ := (M2.out.below HB).r; have l3 := World.block_lt_of_cell? _ _ s0; clear HB M2 g0 g1 g2 gv)
    | (go_at_call 73; have := M1; refine (H2.out _).mono ?_; rintro e w2 ⟨rfl, HB⟩; have M2 : Hid (Tw w (w2.alloc (.cells #[.bool m2, .int .u64 b0, .int .u64 b1, .int .u64 0] 103)) w1.heap.size w2.heap.size m1 a0 a1 m2 b0 b1) := ⟨((M1.out.1.alloc M1.out.1.size _).trans (HB.mono (Nat.le_trans M1.out.1.size (le_alloc _ _)))).alloc (Nat.le_trans (Nat.le_trans M1.out.1.size (le_alloc _ _)) HB.size) _, ((M1.out.2.alloc _).below HB).alloc _, ((Cell4.new w1 _ _ _ _ 103).below HB).alloc _, Cell4.new w2 _ _ _ _ 103⟩; obtain ⟨p0, p1, p2, p3, p4⟩ := (Cell4.new w1 (.bool m1) (.int .u64 a0) (.int .u64 a1) (.int .u64 0) 103).below HB; have l2 : w1.heap.size < w2.heap.size := World.block_lt_of_cell? _ _ p0; clear HB M1)
    | (go_at_call 73; refine (H1.out _).mono ?_; rintro e w1 ⟨rfl, HB⟩; have M1 : Hid (Below w.heap.size w w1 ∧ Cell4 w1 w.heap.size (.bool false) (.int .u64 0) (.int .u64 0) (.int .u64 0)) := ⟨((Below.refl _ _).alloc (Nat.le_refl _) _).trans (HB.mono (le_alloc _ _)), (Cell4.new w _ _ _ _ 103).below HB⟩; clear HB))
  go_ret2
  exact ⟨rfl, HF.out⟩
set_option maxRecDepth 100000 in
set_option maxHeartbeats 1000000 in
theorem rmul_far (a b : Int) (m1 m2 : Bool) (a0 a1 b0 b1 : Nat) (w : World)
    (H1 : Hid (∀ w, Calls Try.prog 73 #[.int .i64 a] w fun e w' => e = .returned (.agg #[.bool m1, .int .u64 a0, .int .u64 a1, .int .u64 0]) ∧ Below w.heap.size w w')) (H2 : Hid (∀ w, Calls Try.prog 73 #[.int .i64 b] w fun e w' => e = .returned (.agg #[.bool m2, .int .u64 b0, .int .u64 b1, .int .u64 0]) ∧ Below w.heap.size w w'))
    (H3 : Hid (∀ w, Calls Try.prog 75 #[.agg #[.bool m1, .int .u64 a0, .int .u64 a1, .int .u64 0], .agg #[.bool m2, .int .u64 b0, .int .u64 b1, .int .u64 0]] w fun e w' => e = .returned (.tuple #[.agg #[.bool false, .int .u64 0, .int .u64 0, .int .u64 0], .bool false]) ∧ Below w.heap.size w w')) :
    Calls Try.prog 52 #[.int .i64 9, .int .i64 a, .int .i64 b] w fun e w' => e = .returned (.tuple #[.int .i64 0, .int .i64 13]) ∧ Below w.heap.size w w' := by
  have H5 : Hid (∀ w, Calls Try.prog 76 #[.agg #[.bool false, .int .u64 0, .int .u64 0, .int .u64 0]] w (SmP w true 0)) := fun w => small_any false 0 0 0 (by omega) (by omega) (by omega) w
  go_enter Try.func52, Try.ntmps52
  go_wp2_with (first
    | (go_at_call 76; have := HL3; refine (H5.out _).mono ?_; rintro e w5 ⟨⟨z, rfl, hz⟩, HB⟩; have HF : Hid (Below w.heap.size w w5) := ((below_four HL3.out (M := w.heap.size) (o := 0) (Nat.le_refl _)).alloc (below_four HL3.out (M := w.heap.size) (o := 0) (Nat.le_refl _)).size _).trans (HB.mono ((below_four HL3.out (M := w.heap.size) (o := 0) (Nat.le_refl _)).alloc (below_four HL3.out (M := w.heap.size) (o := 0) (Nat.le_refl _)).size _).size); clear HB)
    | (go_at_call 75; have := M2; refine (H3.out _).mono ?_; rintro e w3 ⟨rfl, HB⟩; have HL3 : Hid (Below w.heap.size w w3) := (M2.out.below HB).low; obtain ⟨s0, s1, s2, s3, s4⟩ := (M2.out.below HB).r; have l3 := World.block_lt_of_cell? _ _ s0; clear HB M2)
    | (go_at_call 73; have := M1; refine (H2.out _).mono ?_; rintro e w2 ⟨rfl, HB⟩; have M2 : Hid (Tw w (w2.alloc (.cells #[.bool m2, .int .u64 b0, .int .u64 b1, .int .u64 0] 103)) w1.heap.size w2.heap.size m1 a0 a1 m2 b0 b1) := ⟨((M1.out.1.alloc M1.out.1.size _).trans (HB.mono (Nat.le_trans M1.out.1.size (le_alloc _ _)))).alloc (Nat.le_trans (Nat.le_trans M1.out.1.size (le_alloc _ _)) HB.size) _, ((M1.out.2.alloc _).below HB).alloc _, ((Cell4.new w1 _ _ _ _ 103).below HB).alloc _, Cell4.new w2 _ _ _ _ 103⟩; obtain ⟨p0, p1, p2, p3, p4⟩ := (Cell4.new w1 (.bool m1) (.int .u64 a0) (.int .u64 a1) (.int .u64 0) 103).below HB; have l2 : w1.heap.size < w2.heap.size := World.block_lt_of_cell? _ _ p0; clear HB M1)
    | (go_at_call 73; refine (H1.out _).mono ?_; rintro e w1 ⟨rfl, HB⟩; have M1 : Hid (Below w.heap.size w w1 ∧ Cell4 w1 w.heap.size (.bool false) (.int .u64 0) (.int .u64 0) (.int .u64 0)) := ⟨((Below.refl _ _).alloc (Nat.le_refl _) _).trans (HB.mono (le_alloc _ _)), (Cell4.new w _ _ _ _ 103).below HB⟩; clear HB))
  go_ret2
  exact ⟨rfl, HF.out⟩
end
section
open Go.RowKit
set_option linter.unusedVariables false

set_option maxRecDepth 100000 in
set_option maxHeartbeats 600000 in
theorem rdiv_zero (a : Int) (m1 m2 : Bool) (a0 a1 b0 b1 : Nat) (w : World)
    (H1 : Hid (∀ w, Calls Try.prog 73 #[.int .i64 a] w fun e w' => e = .returned (.agg #[.bool m1, .int .u64 a0, .int .u64 a1, .int .u64 0]) ∧ Below w.heap.size w w')) (H2 : Hid (∀ w, Calls Try.prog 73 #[.int .i64 0] w fun e w' => e = .returned (.agg #[.bool m2, .int .u64 b0, .int .u64 b1, .int .u64 0]) ∧ Below w.heap.size w w')) :
    Calls Try.prog 52 #[.int .i64 10, .int .i64 a, .int .i64 0] w fun e w' => e = .returned (.tuple #[.int .i64 0, .int .i64 12]) ∧ Below w.heap.size w w' := by
  go_enter Try.func52, Try.ntmps52
  go_wp2_with (first
    | (go_at_call 73; have := M1; refine (H2.out _).mono ?_; rintro e w2 ⟨rfl, HB⟩; have HL3 : Hid (Below w.heap.size w w2) := (M1.out.1.alloc M1.out.1.size _).trans (HB.mono (Nat.le_trans M1.out.1.size (le_alloc _ _))); obtain ⟨s0, s1, s2, s3, s4⟩ := (M1.out.2.alloc _).below HB; have l3 := World.block_lt_of_cell? _ _ s0; clear HB M1)
    | (go_at_call 73; refine (H1.out _).mono ?_; rintro e w1 ⟨rfl, HB⟩; have M1 : Hid (Below w.heap.size w w1 ∧ Cell4 w1 w.heap.size (.bool false) (.int .u64 0) (.int .u64 0) (.int .u64 0)) := ⟨((Below.refl _ _).alloc (Nat.le_refl _) _).trans (HB.mono (le_alloc _ _)), (Cell4.new w _ _ _ _ 103).below HB⟩; clear HB))
  go_ret2
  exact ⟨rfl, HL3.out.alloc HL3.out.size _⟩
set_option maxRecDepth 100000 in
set_option maxHeartbeats 600000 in
theorem rdiv_pp_yes (U D v : Int) (q r0 r1 : Nat) (hU0 : 0 ≤ U) (hU : U ≤ 9223372036854775807) (hD0 : 1 ≤ D) (hD : D ≤ 9223372036854775807) (hq : U / D = q) (hq2 : (q : Int) ≤ 9223372036854775808) (hr0 : (q : Int) % 4294967296 = r0) (hr1 : (q : Int) / 4294967296 = r1) (m1 m2 : Bool) (a0 a1 b0 b1 : Nat) (w : World) (hv : inB v = true) (he : valB false r0 r1 0 = v)
    (H1 : Hid (∀ w, Calls Try.prog 73 #[.int .i64 U] w fun e w' => e = .returned (.agg #[.bool m1, .int .u64 a0, .int .u64 a1, .int .u64 0]) ∧ Below w.heap.size w w')) (H2 : Hid (∀ w, Calls Try.prog 73 #[.int .i64 D] w fun e w' => e = .returned (.agg #[.bool m2, .int .u64 b0, .int .u64 b1, .int .u64 0]) ∧ Below w.heap.size w w')) :
    Calls Try.prog 52 #[.int .i64 10, .int .i64 U, .int .i64 D] w fun e w' => e = .returned (.tuple #[.int .i64 v, .int .i64 0]) ∧ Below w.heap.size w w' := by
  have H5 : Hid (∀ (w : World), Calls Try.prog 76 #[.agg #[.bool false, .int .u64 r0, .int .u64 r1, .int .u64 0]] w (SmP w true v)) := fun w => by
    have := small_any false r0 r1 0 (by omega) (by omega) (by omega) w
    rw [he, hv] at this
    exact this
  clear hv he
  have nU : ¬ U < 0 := by omega
  have dU : decide (U < 0) = false := decide_eq_false nU
  have nD : ¬ D < 0 := by omega
  have dD : decide (D < 0) = false := decide_eq_false nD
  have nD0 : (D == 0) = false := by rw [beq_eq_false_iff_ne]; omega
  go_enter Try.func52, Try.ntmps52
  go_wp2_with (first
    | (go_at_call 76; have := HL3; refine (H5.out _).mono ?_; rintro e w5 ⟨⟨z, rfl, hz⟩, HB⟩; obtain rfl := hz rfl; have HF : Hid (Below w.heap.size w w5) := ((below_four HL3.out (M := w.heap.size) (o := 0) (Nat.le_refl _)).alloc (below_four HL3.out (M := w.heap.size) (o := 0) (Nat.le_refl _)).size _).trans (HB.mono ((below_four HL3.out (M := w.heap.size) (o := 0) (Nat.le_refl _)).alloc (below_four HL3.out (M := w.heap.size) (o := 0) (Nat.le_refl _)).size _).size); clear HB)
    | (go_at_call 73; have := M1; refine (H2.out _).mono ?_; rintro e w2 ⟨rfl, HB⟩; have HL3 : Hid (Below w.heap.size w w2) := (M1.out.1.alloc M1.out.1.size _).trans (HB.mono (Nat.le_trans M1.out.1.size (le_alloc _ _))); obtain ⟨s0, s1, s2, s3, s4⟩ := (M1.out.2.alloc _).below HB; have l3 := World.block_lt_of_cell? _ _ s0; clear HB M1)
    | (go_at_call 73; refine (H1.out _).mono ?_; rintro e w1 ⟨rfl, HB⟩; have M1 : Hid (Below w.heap.size w w1 ∧ Cell4 w1 w.heap.size (.bool false) (.int .u64 0) (.int .u64 0) (.int .u64 0)) := ⟨((Below.refl _ _).alloc (Nat.le_refl _) _).trans (HB.mono (le_alloc _ _)), (Cell4.new w _ _ _ _ 103).below HB⟩; clear HB))
  go_ret2
  exact ⟨rfl, HF.out⟩
set_option maxRecDepth 100000 in
set_option maxHeartbeats 600000 in
theorem rdiv_pn_yes (U D v : Int) (q r0 r1 : Nat) (hU0 : 0 ≤ U) (hU : U ≤ 9223372036854775807) (hD0 : 1 ≤ D) (hD : D ≤ 9223372036854775808) (hq : U / D = q) (hq2 : (q : Int) ≤ 9223372036854775808) (hr0 : (q : Int) % 4294967296 = r0) (hr1 : (q : Int) / 4294967296 = r1) (m1 m2 : Bool) (a0 a1 b0 b1 : Nat) (w : World) (hv : inB v = true) (he : valB true r0 r1 0 = v)
    (H1 : Hid (∀ w, Calls Try.prog 73 #[.int .i64 U] w fun e w' => e = .returned (.agg #[.bool m1, .int .u64 a0, .int .u64 a1, .int .u64 0]) ∧ Below w.heap.size w w')) (H2 : Hid (∀ w, Calls Try.prog 73 #[.int .i64 (-D)] w fun e w' => e = .returned (.agg #[.bool m2, .int .u64 b0, .int .u64 b1, .int .u64 0]) ∧ Below w.heap.size w w')) :
    Calls Try.prog 52 #[.int .i64 10, .int .i64 U, .int .i64 (-D)] w fun e w' => e = .returned (.tuple #[.int .i64 v, .int .i64 0]) ∧ Below w.heap.size w w' := by
  have H5 : Hid (∀ (w : World), Calls Try.prog 76 #[.agg #[.bool true, .int .u64 r0, .int .u64 r1, .int .u64 0]] w (SmP w true v)) := fun w => by
    have := small_any true r0 r1 0 (by omega) (by omega) (by omega) w
    rw [he, hv] at this
    exact this
  clear hv he
  have nU : ¬ U < 0 := by omega
  have dU : decide (U < 0) = false := decide_eq_false nU
  have nD : -D < 0 := by omega
  have dD : decide (-D < 0) = true := decide_eq_true nD
  have wD1 : IntKind.u64.wrap (-D) = 18446744073709551616 - D := by rw [IntKind.wrap_u64]; omega
  have wD2 : IntKind.u64.wrap (-(18446744073709551616 - D)) = D := by rw [IntKind.wrap_u64]; omega
  have wD3 : IntKind.u64.wrap (D - 18446744073709551616) = D := by rw [IntKind.wrap_u64]; omega
  have nD0 : (-D == 0) = false := by rw [beq_eq_false_iff_ne]; omega
  go_enter Try.func52, Try.ntmps52
  go_wp2_with (first
    | (go_at_call 76; have := HL3; refine (H5.out _).mono ?_; rintro e w5 ⟨⟨z, rfl, hz⟩, HB⟩; obtain rfl := hz rfl; have HF : Hid (Below w.heap.size w w5) := ((below_four HL3.out (M := w.heap.size) (o := 0) (Nat.le_refl _)).alloc (below_four HL3.out (M := w.heap.size) (o := 0) (Nat.le_refl _)).size _).trans (HB.mono ((below_four HL3.out (M := w.heap.size) (o := 0) (Nat.le_refl _)).alloc (below_four HL3.out (M := w.heap.size) (o := 0) (Nat.le_refl _)).size _).size); clear HB)
    | (go_at_call 73; have := M1; refine (H2.out _).mono ?_; rintro e w2 ⟨rfl, HB⟩; have HL3 : Hid (Below w.heap.size w w2) := (M1.out.1.alloc M1.out.1.size _).trans (HB.mono (Nat.le_trans M1.out.1.size (le_alloc _ _))); obtain ⟨s0, s1, s2, s3, s4⟩ := (M1.out.2.alloc _).below HB; have l3 := World.block_lt_of_cell? _ _ s0; clear HB M1)
    | (go_at_call 73; refine (H1.out _).mono ?_; rintro e w1 ⟨rfl, HB⟩; have M1 : Hid (Below w.heap.size w w1 ∧ Cell4 w1 w.heap.size (.bool false) (.int .u64 0) (.int .u64 0) (.int .u64 0)) := ⟨((Below.refl _ _).alloc (Nat.le_refl _) _).trans (HB.mono (le_alloc _ _)), (Cell4.new w _ _ _ _ 103).below HB⟩; clear HB))
  go_ret2
  exact ⟨rfl, HF.out⟩
set_option maxRecDepth 100000 in
set_option maxHeartbeats 600000 in
theorem rdiv_np_yes (U D v : Int) (q r0 r1 : Nat) (hU0 : 1 ≤ U) (hU : U ≤ 9223372036854775808) (hD0 : 1 ≤ D) (hD : D ≤ 9223372036854775807) (hq : U / D = q) (hq2 : (q : Int) ≤ 9223372036854775808) (hr0 : (q : Int) % 4294967296 = r0) (hr1 : (q : Int) / 4294967296 = r1) (m1 m2 : Bool) (a0 a1 b0 b1 : Nat) (w : World) (hv : inB v = true) (he : valB true r0 r1 0 = v)
    (H1 : Hid (∀ w, Calls Try.prog 73 #[.int .i64 (-U)] w fun e w' => e = .returned (.agg #[.bool m1, .int .u64 a0, .int .u64 a1, .int .u64 0]) ∧ Below w.heap.size w w')) (H2 : Hid (∀ w, Calls Try.prog 73 #[.int .i64 D] w fun e w' => e = .returned (.agg #[.bool m2, .int .u64 b0, .int .u64 b1, .int .u64 0]) ∧ Below w.heap.size w w')) :
    Calls Try.prog 52 #[.int .i64 10, .int .i64 (-U), .int .i64 D] w fun e w' => e = .returned (.tuple #[.int .i64 v, .int .i64 0]) ∧ Below w.heap.size w w' := by
  have H5 : Hid (∀ (w : World), Calls Try.prog 76 #[.agg #[.bool true, .int .u64 r0, .int .u64 r1, .int .u64 0]] w (SmP w true v)) := fun w => by
    have := small_any true r0 r1 0 (by omega) (by omega) (by omega) w
    rw [he, hv] at this
    exact this
  clear hv he
  have nU : -U < 0 := by omega
  have dU : decide (-U < 0) = true := decide_eq_true nU
  have wU1 : IntKind.u64.wrap (-U) = 18446744073709551616 - U := by rw [IntKind.wrap_u64]; omega
  have wU2 : IntKind.u64.wrap (-(18446744073709551616 - U)) = U := by rw [IntKind.wrap_u64]; omega
  have wU3 : IntKind.u64.wrap (U - 18446744073709551616) = U := by rw [IntKind.wrap_u64]; omega
  have nD : ¬ D < 0 := by omega
  have dD : decide (D < 0) = false := decide_eq_false nD
  have nD0 : (D == 0) = false := by rw [beq_eq_false_iff_ne]; omega
  go_enter Try.func52, Try.ntmps52
  go_wp2_with (first
    | (go_at_call 76; have := HL3; refine (H5.out _).mono ?_; rintro e w5 ⟨⟨z, rfl, hz⟩, HB⟩; obtain rfl := hz rfl; have HF : Hid (Below w.heap.size w w5) := ((below_four HL3.out (M := w.heap.size) (o := 0) (Nat.le_refl _)).alloc (below_four HL3.out (M := w.heap.size) (o := 0) (Nat.le_refl _)).size _).trans (HB.mono ((below_four HL3.out (M := w.heap.size) (o := 0) (Nat.le_refl _)).alloc (below_four HL3.out (M := w.heap.size) (o := 0) (Nat.le_refl _)).size _).size); clear HB)
    | (go_at_call 73; have := M1; refine (H2.out _).mono ?_; rintro e w2 ⟨rfl, HB⟩; have HL3 : Hid (Below w.heap.size w w2) := (M1.out.1.alloc M1.out.1.size _).trans (HB.mono (Nat.le_trans M1.out.1.size (le_alloc _ _))); obtain ⟨s0, s1, s2, s3, s4⟩ := (M1.out.2.alloc _).below HB; have l3 := World.block_lt_of_cell? _ _ s0; clear HB M1)
    | (go_at_call 73; refine (H1.out _).mono ?_; rintro e w1 ⟨rfl, HB⟩; have M1 : Hid (Below w.heap.size w w1 ∧ Cell4 w1 w.heap.size (.bool false) (.int .u64 0) (.int .u64 0) (.int .u64 0)) := ⟨((Below.refl _ _).alloc (Nat.le_refl _) _).trans (HB.mono (le_alloc _ _)), (Cell4.new w _ _ _ _ 103).below HB⟩; clear HB))
  go_ret2
  exact ⟨rfl, HF.out⟩
set_option maxRecDepth 100000 in
set_option maxHeartbeats 600000 in
theorem rdiv_nn_yes (U D v : Int) (q r0 r1 : Nat) (hU0 : 1 ≤ U) (hU : U ≤ 9223372036854775808) (hD0 : 1 ≤ D) (hD : D ≤ 9223372036854775808) (hq : U / D = q) (hq2 : (q : Int) ≤ 9223372036854775808) (hr0 : (q : Int) % 4294967296 = r0) (hr1 : (q : Int) / 4294967296 = r1) (m1 m2 : Bool) (a0 a1 b0 b1 : Nat) (w : World) (hv : inB v = true) (he : valB false r0 r1 0 = v)
    (H1 : Hid (∀ w, Calls Try.prog 73 #[.int .i64 (-U)] w fun e w' => e = .returned (.agg #[.bool m1, .int .u64 a0, .int .u64 a1, .int .u64 0]) ∧ Below w.heap.size w w')) (H2 : Hid (∀ w, Calls Try.prog 73 #[.int .i64 (-D)] w fun e w' => e = .returned (.agg #[.bool m2, .int .u64 b0, .int .u64 b1, .int .u64 0]) ∧ Below w.heap.size w w')) :
    Calls Try.prog 52 #[.int .i64 10, .int .i64 (-U), .int .i64 (-D)] w fun e w' => e = .returned (.tuple #[.int .i64 v, .int .i64 0]) ∧ Below w.heap.size w w' := by
  have H5 : Hid (∀ (w : World), Calls Try.prog 76 #[.agg #[.bool false, .int .u64 r0, .int .u64 r1, .int .u64 0]] w (SmP w true v)) := fun w => by
    have := small_any false r0 r1 0 (by omega) (by omega) (by omega) w
    rw [he, hv] at this
    exact this
  clear hv he
  have nU : -U < 0 := by omega
  have dU : decide (-U < 0) = true := decide_eq_true nU
  have wU1 : IntKind.u64.wrap (-U) = 18446744073709551616 - U := by rw [IntKind.wrap_u64]; omega
  have wU2 : IntKind.u64.wrap (-(18446744073709551616 - U)) = U := by rw [IntKind.wrap_u64]; omega
  have wU3 : IntKind.u64.wrap (U - 18446744073709551616) = U := by rw [IntKind.wrap_u64]; omega
  have nD : -D < 0 := by omega
  have dD : decide (-D < 0) = true := decide_eq_true nD
  have wD1 : IntKind.u64.wrap (-D) = 18446744073709551616 - D := by rw [IntKind.wrap_u64]; omega
  have wD2 : IntKind.u64.wrap (-(18446744073709551616 - D)) = D := by rw [IntKind.wrap_u64]; omega
  have wD3 : IntKind.u64.wrap (D - 18446744073709551616) = D := by rw [IntKind.wrap_u64]; omega
  have nD0 : (-D == 0) = false := by rw [beq_eq_false_iff_ne]; omega
  go_enter Try.func52, Try.ntmps52
  go_wp2_with (first
    | (go_at_call 76; have := HL3; refine (H5.out _).mono ?_; rintro e w5 ⟨⟨z, rfl, hz⟩, HB⟩; obtain rfl := hz rfl; have HF : Hid (Below w.heap.size w w5) := ((below_four HL3.out (M := w.heap.size) (o := 0) (Nat.le_refl _)).alloc (below_four HL3.out (M := w.heap.size) (o := 0) (Nat.le_refl _)).size _).trans (HB.mono ((below_four HL3.out (M := w.heap.size) (o := 0) (Nat.le_refl _)).alloc (below_four HL3.out (M := w.heap.size) (o := 0) (Nat.le_refl _)).size _).size); clear HB)
    | (go_at_call 73; have := M1; refine (H2.out _).mono ?_; rintro e w2 ⟨rfl, HB⟩; have HL3 : Hid (Below w.heap.size w w2) := (M1.out.1.alloc M1.out.1.size _).trans (HB.mono (Nat.le_trans M1.out.1.size (le_alloc _ _))); obtain ⟨s0, s1, s2, s3, s4⟩ := (M1.out.2.alloc _).below HB; have l3 := World.block_lt_of_cell? _ _ s0; clear HB M1)
    | (go_at_call 73; refine (H1.out _).mono ?_; rintro e w1 ⟨rfl, HB⟩; have M1 : Hid (Below w.heap.size w w1 ∧ Cell4 w1 w.heap.size (.bool false) (.int .u64 0) (.int .u64 0) (.int .u64 0)) := ⟨((Below.refl _ _).alloc (Nat.le_refl _) _).trans (HB.mono (le_alloc _ _)), (Cell4.new w _ _ _ _ 103).below HB⟩; clear HB))
  go_ret2
  exact ⟨rfl, HF.out⟩
set_option maxRecDepth 100000 in
set_option maxHeartbeats 600000 in
theorem rdiv_nn_no (U D v : Int) (q r0 r1 : Nat) (hU0 : 1 ≤ U) (hU : U ≤ 9223372036854775808) (hD0 : 1 ≤ D) (hD : D ≤ 9223372036854775808) (hq : U / D = q) (hq2 : (q : Int) ≤ 9223372036854775808) (hr0 : (q : Int) % 4294967296 = r0) (hr1 : (q : Int) / 4294967296 = r1) (m1 m2 : Bool) (a0 a1 b0 b1 : Nat) (w : World) (hv : inB v = false) (he : valB false r0 r1 0 = v)
    (H1 : Hid (∀ w, Calls Try.prog 73 #[.int .i64 (-U)] w fun e w' => e = .returned (.agg #[.bool m1, .int .u64 a0, .int .u64 a1, .int .u64 0]) ∧ Below w.heap.size w w')) (H2 : Hid (∀ w, Calls Try.prog 73 #[.int .i64 (-D)] w fun e w' => e = .returned (.agg #[.bool m2, .int .u64 b0, .int .u64 b1, .int .u64 0]) ∧ Below w.heap.size w w')) :
    Calls Try.prog 52 #[.int .i64 10, .int .i64 (-U), .int .i64 (-D)] w fun e w' => e = .returned (.tuple #[.int .i64 0, .int .i64 13]) ∧ Below w.heap.size w w' := by
  have H5 : Hid (∀ (w : World), Calls Try.prog 76 #[.agg #[.bool false, .int .u64 r0, .int .u64 r1, .int .u64 0]] w (SmP w false v)) := fun w => by
    have := small_any false r0 r1 0 (by omega) (by omega) (by omega) w
    rw [he, hv] at this
    exact this
  clear hv he
  have nU : -U < 0 := by omega
  have dU : decide (-U < 0) = true := decide_eq_true nU
  have wU1 : IntKind.u64.wrap (-U) = 18446744073709551616 - U := by rw [IntKind.wrap_u64]; omega
  have wU2 : IntKind.u64.wrap (-(18446744073709551616 - U)) = U := by rw [IntKind.wrap_u64]; omega
  have wU3 : IntKind.u64.wrap (U - 18446744073709551616) = U := by rw [IntKind.wrap_u64]; omega
  have nD : -D < 0 := by omega
  have dD : decide (-D < 0) = true := decide_eq_true nD
  have wD1 : IntKind.u64.wrap (-D) = 18446744073709551616 - D := by rw [IntKind.wrap_u64]; omega
  have wD2 : IntKind.u64.wrap (-(18446744073709551616 - D)) = D := by rw [IntKind.wrap_u64]; omega
  have wD3 : IntKind.u64.wrap (D - 18446744073709551616) = D := by rw [IntKind.wrap_u64]; omega
  have nD0 : (-D == 0) = false := by rw [beq_eq_false_iff_ne]; omega
  go_enter Try.func52, Try.ntmps52
  go_wp2_with (first
    | (go_at_call 76; have := HL3; refine (H5.out _).mono ?_; rintro e w5 ⟨⟨z, rfl, hz⟩, HB⟩; have HF : Hid (Below w.heap.size w w5) := ((below_four HL3.out (M := w.heap.size) (o := 0) (Nat.le_refl _)).alloc (below_four HL3.out (M := w.heap.size) (o := 0) (Nat.le_refl _)).size _).trans (HB.mono ((below_four HL3.out (M := w.heap.size) (o := 0) (Nat.le_refl _)).alloc (below_four HL3.out (M := w.heap.size) (o := 0) (Nat.le_refl _)).size _).size); clear HB)
    | (go_at_call 73; have := M1; refine (H2.out _).mono ?_; rintro e w2 ⟨rfl, HB⟩; have HL3 : Hid (Below w.heap.size w w2) := (M1.out.1.alloc M1.out.1.size _).trans (HB.mono (Nat.le_trans M1.out.1.size (le_alloc _ _))); obtain ⟨s0, s1, s2, s3, s4⟩ := (M1.out.2.alloc _).below HB; have l3 := World.block_lt_of_cell? _ _ s0; clear HB M1)
    | (go_at_call 73; refine (H1.out _).mono ?_; rintro e w1 ⟨rfl, HB⟩; have M1 : Hid (Below w.heap.size w w1 ∧ Cell4 w1 w.heap.size (.bool false) (.int .u64 0) (.int .u64 0) (.int .u64 0)) := ⟨((Below.refl _ _).alloc (Nat.le_refl _) _).trans (HB.mono (le_alloc _ _)), (Cell4.new w _ _ _ _ 103).below HB⟩; clear HB))
  go_ret2
  exact ⟨rfl, HF.out⟩
end
section
open Go.RowKit
set_option linter.unusedVariables false

/-- What two numbers come to, exactly. -/
def twoA (k a b : Int) : Int × Nat := if k = 7 then fitA (a + b) else if k = 8 then fitA (a - b) else if k = 9 then fitA (a * b) else if b = 0 then (0, 12) else fitA (a.tdiv b)
theorem valB_not (m : Bool) (a b c : Nat) : valB (!m) a b c = -valB m a b c := by
  unfold valB
  cases m
  · simp only [Bool.not_false, if_true, Bool.false_eq_true, if_false]
  · simp only [Bool.not_true, if_true, Bool.false_eq_true, if_false]; omega
def sgn (m : Bool) (A : Nat) : Int := if m = true then -(A : Int) else A
theorem valB_sgn (m : Bool) (a b c : Nat) : valB m a b c = sgn m (c * 18446744073709551616 + b * 4294967296 + a) := rfl
theorem sgn_mul (m1 m2 : Bool) (A B : Nat) : sgn m1 A * sgn m2 B = sgn (m1 != m2) (A * B) := by
  unfold sgn
  cases m1 <;> cases m2 <;> simp [Int.neg_mul, Int.mul_neg]
theorem mag_is {low mid : Nat} (h : low ≤ 18446744065119617025) (h2 : mid ≤ 18446744065119617025) : (mid / 4294967296 + (low / 4294967296 + mid % 4294967296) / 4294967296) * 18446744073709551616 + (low / 4294967296 + mid % 4294967296) % 4294967296 * 4294967296 + low % 4294967296 = mid * 4294967296 + low := by omega
set_option maxRecDepth 100000 in
theorem product_is (m1 m2 : Bool) (a0 a1 b0 b1 : Nat) (ha0 : a0 < 4294967296) (ha1 : a1 < 4294967296) (hb0 : b0 < 4294967296) (hb1 : b1 < 4294967296) (h : a1 = 0 ∨ b1 = 0) (w : World) : Calls Try.prog 75 #[.agg #[.bool m1, .int .u64 a0, .int .u64 a1, .int .u64 0], .agg #[.bool m2, .int .u64 b0, .int .u64 b1, .int .u64 0]] w (PrQ w (valB m1 a0 a1 0 * valB m2 b0 b1 0)) := by
  rw [valB_sgn, valB_sgn, sgn_mul]
  by_cases e : a1 = 0
  · subst e
    have hl := mul_small ha0 hb0
    have hm := mul_small ha0 hb1
    refine (product_right m1 m2 a0 b0 b1 ha0 hb0 hb1 w _ _ _ rfl rfl rfl).mono fun e w' h' => ⟨⟨_, _, _, _, h'.1, by omega, by omega, by omega, ?_⟩, h'.2⟩
    rw [valB_sgn]
    have ea : (0 * 18446744073709551616 + 0 * 4294967296 + a0) * (0 * 18446744073709551616 + b1 * 4294967296 + b0) = a0 * b1 * 4294967296 + a0 * b0 := by
      rw [show 0 * 18446744073709551616 + 0 * 4294967296 + a0 = a0 from by omega, show 0 * 18446744073709551616 + b1 * 4294967296 + b0 = b1 * 4294967296 + b0 from by omega, Nat.mul_add, Nat.mul_assoc]
    rw [ea]
    exact congrArg (sgn _) (mag_is hl hm)
  · obtain rfl : b1 = 0 := by omega
    have hl := mul_small ha0 hb0
    have hm := mul_small ha1 hb0
    refine (product_left m1 m2 a0 a1 b0 ha0 (by omega) ha1 hb0 w _ _ _ rfl rfl rfl).mono fun e w' h' => ⟨⟨_, _, _, _, h'.1, by omega, by omega, by omega, ?_⟩, h'.2⟩
    rw [valB_sgn]
    have ea : (0 * 18446744073709551616 + a1 * 4294967296 + a0) * (0 * 18446744073709551616 + 0 * 4294967296 + b0) = a1 * b0 * 4294967296 + a0 * b0 := by
      rw [show 0 * 18446744073709551616 + 0 * 4294967296 + b0 = b0 from by omega, show 0 * 18446744073709551616 + a1 * 4294967296 + a0 = a1 * 4294967296 + a0 from by omega, Nat.add_mul, Nat.mul_right_comm]
    rw [ea]
    exact congrArg (sgn _) (mag_is hl hm)
end
section
open Go.RowKit
set_option linter.unusedVariables false

theorem mul_far {a b : Int} (ha : 4294967296 ≤ a.natAbs) (hb : 4294967296 ≤ b.natAbs) : inB (a * b) = false := by
  have h1 : 4294967296 * 4294967296 ≤ (a * b).natAbs := by rw [Int.natAbs_mul]; exact Nat.mul_le_mul ha hb
  unfold inB
  refine decide_eq_false ?_
  omega
theorem quo_is (u d : Nat) : ∃ q : Nat, (u : Int) / (d : Int) = q ∧ (u : Int).tdiv (d : Int) = q ∧ q ≤ u := ⟨u / d, (Int.natCast_ediv u d).symm, rfl, Nat.div_le_self u d⟩
theorem fit_yes {v : Int} (h : inB v = true) : fitA v = (v, 0) := by unfold fitA; rw [if_pos h]
theorem fit_no {v : Int} (h : inB v = false) : fitA v = (0, 13) := by unfold fitA; rw [if_neg (by rw [h]; decide)]
/-- What a call of two answers. -/
def TwoP (w : World) (r : Int × Nat) (e : Ending) (w' : World) : Prop := e = .returned (.tuple #[.int .i64 r.1, .int .i64 (r.2 : Nat)]) ∧ Below w.heap.size w w'
theorem TwoP.yes {w w' : World} {v : Int} {e : Ending} (hv : inB v = true) (h : e = .returned (.tuple #[.int .i64 v, .int .i64 0]) ∧ Below w.heap.size w w') : TwoP w (fitA v) e w' := by rw [fit_yes hv]; exact h
theorem TwoP.no {w w' : World} {v : Int} {e : Ending} (hv : inB v = false) (h : e = .returned (.tuple #[.int .i64 0, .int .i64 13]) ∧ Below w.heap.size w w') : TwoP w (fitA v) e w' := by rw [fit_no hv]; exact h
theorem valF (q : Nat) : valB false (q % 4294967296) (q / 4294967296) 0 = (q : Int) := by unfold valB; simp only [Bool.false_eq_true, if_false]; omega
theorem valT (q : Nat) : valB true (q % 4294967296) (q / 4294967296) 0 = -(q : Int) := by unfold valB; simp only [if_true]; omega
theorem cutE (q : Nat) : (q : Int) % 4294967296 = ((q % 4294967296 : Nat) : Int) := by omega
theorem cutD (q : Nat) : (q : Int) / 4294967296 = ((q / 4294967296 : Nat) : Int) := by omega
theorem inB_yes {v : Int} (h1 : -9223372036854775808 ≤ v) (h2 : v ≤ 9223372036854775807) : inB v = true := decide_eq_true ⟨h1, h2⟩
theorem div_pp (u d : Nat) (hu0 : 0 ≤ u) (hu : u ≤ 9223372036854775807) (hd0 : 1 ≤ d) (hd : d ≤ 9223372036854775807) (m1 m2 : Bool) (a0 a1 b0 b1 : Nat) (w : World) (H1 : ∀ w, Calls Try.prog 73 #[.int .i64 (u : Int)] w fun e w' => e = .returned (.agg #[.bool m1, .int .u64 a0, .int .u64 a1, .int .u64 0]) ∧ Below w.heap.size w w') (H2 : ∀ w, Calls Try.prog 73 #[.int .i64 (d : Int)] w fun e w' => e = .returned (.agg #[.bool m2, .int .u64 b0, .int .u64 b1, .int .u64 0]) ∧ Below w.heap.size w w') : Calls Try.prog 52 #[.int .i64 10, .int .i64 (u : Int), .int .i64 (d : Int)] w (TwoP w (fitA (Int.tdiv (u : Int) (d : Int)))) := by
  obtain ⟨q, hqi, htd, hq⟩ := quo_is u d
  have ev : Int.tdiv (u : Int) (d : Int) = (q : Int) := by exact htd
  rw [ev]
  have h : inB ((q : Int)) = true := inB_yes (by omega) (by omega)
  exact (rdiv_pp_yes u d _ q (q % 4294967296) (q / 4294967296) (by omega) (by omega) (by omega) (by omega) hqi (by omega) (cutE q) (cutD q) m1 m2 a0 a1 b0 b1 w h (valF q) H1 H2).mono fun e w' k => TwoP.yes h k
theorem div_pn (u d : Nat) (hu0 : 0 ≤ u) (hu : u ≤ 9223372036854775807) (hd0 : 1 ≤ d) (hd : d ≤ 9223372036854775808) (m1 m2 : Bool) (a0 a1 b0 b1 : Nat) (w : World) (H1 : ∀ w, Calls Try.prog 73 #[.int .i64 (u : Int)] w fun e w' => e = .returned (.agg #[.bool m1, .int .u64 a0, .int .u64 a1, .int .u64 0]) ∧ Below w.heap.size w w') (H2 : ∀ w, Calls Try.prog 73 #[.int .i64 (-(d : Int))] w fun e w' => e = .returned (.agg #[.bool m2, .int .u64 b0, .int .u64 b1, .int .u64 0]) ∧ Below w.heap.size w w') : Calls Try.prog 52 #[.int .i64 10, .int .i64 (u : Int), .int .i64 (-(d : Int))] w (TwoP w (fitA (Int.tdiv (u : Int) (-(d : Int))))) := by
  obtain ⟨q, hqi, htd, hq⟩ := quo_is u d
  have ev : Int.tdiv (u : Int) (-(d : Int)) = -(q : Int) := by rw [Int.tdiv_neg, htd]
  rw [ev]
  have h : inB (-(q : Int)) = true := inB_yes (by omega) (by omega)
  exact (rdiv_pn_yes u d _ q (q % 4294967296) (q / 4294967296) (by omega) (by omega) (by omega) (by omega) hqi (by omega) (cutE q) (cutD q) m1 m2 a0 a1 b0 b1 w h (valT q) H1 H2).mono fun e w' k => TwoP.yes h k
theorem div_np (u d : Nat) (hu0 : 1 ≤ u) (hu : u ≤ 9223372036854775808) (hd0 : 1 ≤ d) (hd : d ≤ 9223372036854775807) (m1 m2 : Bool) (a0 a1 b0 b1 : Nat) (w : World) (H1 : ∀ w, Calls Try.prog 73 #[.int .i64 (-(u : Int))] w fun e w' => e = .returned (.agg #[.bool m1, .int .u64 a0, .int .u64 a1, .int .u64 0]) ∧ Below w.heap.size w w') (H2 : ∀ w, Calls Try.prog 73 #[.int .i64 (d : Int)] w fun e w' => e = .returned (.agg #[.bool m2, .int .u64 b0, .int .u64 b1, .int .u64 0]) ∧ Below w.heap.size w w') : Calls Try.prog 52 #[.int .i64 10, .int .i64 (-(u : Int)), .int .i64 (d : Int)] w (TwoP w (fitA (Int.tdiv (-(u : Int)) (d : Int)))) := by
  obtain ⟨q, hqi, htd, hq⟩ := quo_is u d
  have ev : Int.tdiv (-(u : Int)) (d : Int) = -(q : Int) := by rw [Int.neg_tdiv, htd]
  rw [ev]
  have h : inB (-(q : Int)) = true := inB_yes (by omega) (by omega)
  exact (rdiv_np_yes u d _ q (q % 4294967296) (q / 4294967296) (by omega) (by omega) (by omega) (by omega) hqi (by omega) (cutE q) (cutD q) m1 m2 a0 a1 b0 b1 w h (valT q) H1 H2).mono fun e w' k => TwoP.yes h k
theorem div_nn (u d : Nat) (hu0 : 1 ≤ u) (hu : u ≤ 9223372036854775808) (hd0 : 1 ≤ d) (hd : d ≤ 9223372036854775808) (m1 m2 : Bool) (a0 a1 b0 b1 : Nat) (w : World) (H1 : ∀ w, Calls Try.prog 73 #[.int .i64 (-(u : Int))] w fun e w' => e = .returned (.agg #[.bool m1, .int .u64 a0, .int .u64 a1, .int .u64 0]) ∧ Below w.heap.size w w') (H2 : ∀ w, Calls Try.prog 73 #[.int .i64 (-(d : Int))] w fun e w' => e = .returned (.agg #[.bool m2, .int .u64 b0, .int .u64 b1, .int .u64 0]) ∧ Below w.heap.size w w') : Calls Try.prog 52 #[.int .i64 10, .int .i64 (-(u : Int)), .int .i64 (-(d : Int))] w (TwoP w (fitA (Int.tdiv (-(u : Int)) (-(d : Int))))) := by
  obtain ⟨q, hqi, htd, hq⟩ := quo_is u d
  have ev : Int.tdiv (-(u : Int)) (-(d : Int)) = (q : Int) := by rw [Int.neg_tdiv, Int.tdiv_neg, htd, Int.neg_neg]
  rw [ev]
  cases h : inB ((q : Int)) with
  | true => exact (rdiv_nn_yes u d _ q (q % 4294967296) (q / 4294967296) (by omega) (by omega) (by omega) (by omega) hqi (by omega) (cutE q) (cutD q) m1 m2 a0 a1 b0 b1 w h (valF q) H1 H2).mono fun e w' k => TwoP.yes h k
  | false => exact (rdiv_nn_no u d _ q (q % 4294967296) (q / 4294967296) (by omega) (by omega) (by omega) (by omega) hqi (by omega) (cutE q) (cutD q) m1 m2 a0 a1 b0 b1 w h (valF q) H1 H2).mono fun e w' k => TwoP.no h k
end
section
open Go.RowKit
set_option linter.unusedVariables false

theorem two_seven (a b : Int) (ha : InR a) (hb : InR b) (w : World) : Calls Try.prog 52 #[.int .i64 7, .int .i64 a, .int .i64 b] w (TwoP w (fitA (a + b))) := by
  obtain ⟨m1, a0, a1, ha0, ha1, hav, haa, H1⟩ := big_any a ha
  obtain ⟨m2, b0, b1, hb0, hb1, hbv, hbb, H2⟩ := big_any b hb
  have H3 : ∀ w, Calls Try.prog 74 #[.agg #[.bool m1, .int .u64 a0, .int .u64 a1, .int .u64 0], .agg #[.bool m2, .int .u64 b0, .int .u64 b1, .int .u64 0]] w (SumQ w (a + b)) := fun w => by
    have := sum_any m1 m2 a0 a1 b0 b1 ha0 ha1 hb0 hb1 w
    rw [hav, hbv] at this
    exact this
  cases h : inB (a + b) with
  | true => exact (radd_yes a b _ m1 m2 a0 a1 b0 b1 w h H1 H2 H3).mono fun e w' k => TwoP.yes h k
  | false => exact (radd_no a b _ m1 m2 a0 a1 b0 b1 w h H1 H2 H3).mono fun e w' k => TwoP.no h k
theorem two_eight (a b : Int) (ha : InR a) (hb : InR b) (w : World) : Calls Try.prog 52 #[.int .i64 8, .int .i64 a, .int .i64 b] w (TwoP w (fitA (a - b))) := by
  obtain ⟨m1, a0, a1, ha0, ha1, hav, haa, H1⟩ := big_any a ha
  obtain ⟨m2, b0, b1, hb0, hb1, hbv, hbb, H2⟩ := big_any b hb
  have H3 : ∀ w, Calls Try.prog 74 #[.agg #[.bool m1, .int .u64 a0, .int .u64 a1, .int .u64 0], .agg #[.bool (!m2), .int .u64 b0, .int .u64 b1, .int .u64 0]] w (SumQ w (a - b)) := fun w => by
    have := sum_any m1 (!m2) a0 a1 b0 b1 ha0 ha1 hb0 hb1 w
    rw [valB_not, hav, hbv] at this
    exact this
  cases h : inB (a - b) with
  | true => exact (rsub_yes a b _ m1 m2 a0 a1 b0 b1 w h H1 H2 H3).mono fun e w' k => TwoP.yes h k
  | false => exact (rsub_no a b _ m1 m2 a0 a1 b0 b1 w h H1 H2 H3).mono fun e w' k => TwoP.no h k
theorem two_nine (a b : Int) (ha : InR a) (hb : InR b) (w : World) : Calls Try.prog 52 #[.int .i64 9, .int .i64 a, .int .i64 b] w (TwoP w (fitA (a * b))) := by
  obtain ⟨m1, a0, a1, ha0, ha1, hav, haa, H1⟩ := big_any a ha
  obtain ⟨m2, b0, b1, hb0, hb1, hbv, hbb, H2⟩ := big_any b hb
  by_cases hz : a1 = 0 ∨ b1 = 0
  · have H3 : ∀ w, Calls Try.prog 75 #[.agg #[.bool m1, .int .u64 a0, .int .u64 a1, .int .u64 0], .agg #[.bool m2, .int .u64 b0, .int .u64 b1, .int .u64 0]] w (PrQ w (a * b)) := fun w => by
      have := product_is m1 m2 a0 a1 b0 b1 ha0 ha1 hb0 hb1 hz w
      rw [hav, hbv] at this
      exact this
    cases h : inB (a * b) with
    | true => exact (rmul_yes a b _ m1 m2 a0 a1 b0 b1 w h H1 H2 H3).mono fun e w' k => TwoP.yes h k
    | false => exact (rmul_no a b _ m1 m2 a0 a1 b0 b1 w h H1 H2 H3).mono fun e w' k => TwoP.no h k
  · have h : inB (a * b) = false := mul_far (by omega) (by omega)
    exact (rmul_far a b m1 m2 a0 a1 b0 b1 w H1 H2 fun w => product_no m1 m2 a0 a1 b0 b1 (by omega) (by omega) w).mono fun e w' k => TwoP.no h k
theorem two_ten (a b : Int) (ha : InR a) (hb : InR b) (w : World) : Calls Try.prog 52 #[.int .i64 10, .int .i64 a, .int .i64 b] w (TwoP w (if b = 0 then (0, 12) else fitA (a.tdiv b))) := by
  obtain ⟨m1, a0, a1, ha0, ha1, hav, haa, H1⟩ := big_any a ha
  obtain ⟨m2, b0, b1, hb0, hb1, hbv, hbb, H2⟩ := big_any b hb
  clear hav hbv haa hbb ha0 ha1 hb0 hb1
  obtain ⟨hA0, hA1⟩ := ha
  obtain ⟨hB0, hB1⟩ := hb
  by_cases hz : b = 0
  · rw [if_pos hz]
    subst hz
    exact rdiv_zero a m1 m2 a0 a1 b0 b1 w H1 H2
  · rw [if_neg hz]
    by_cases na : a < 0
    · obtain ⟨u, rfl⟩ : ∃ u : Nat, a = -(u : Int) := ⟨a.natAbs, by omega⟩
      by_cases nb : b < 0
      · obtain ⟨d, rfl⟩ : ∃ d : Nat, b = -(d : Int) := ⟨b.natAbs, by omega⟩
        exact div_nn u d (by omega) (by omega) (by omega) (by omega) m1 m2 a0 a1 b0 b1 w H1 H2
      · obtain ⟨d, rfl⟩ : ∃ d : Nat, b = (d : Int) := ⟨b.natAbs, by omega⟩
        exact div_np u d (by omega) (by omega) (by omega) (by omega) m1 m2 a0 a1 b0 b1 w H1 H2
    · obtain ⟨u, rfl⟩ : ∃ u : Nat, a = (u : Int) := ⟨a.natAbs, by omega⟩
      by_cases nb : b < 0
      · obtain ⟨d, rfl⟩ : ∃ d : Nat, b = -(d : Int) := ⟨b.natAbs, by omega⟩
        exact div_pn u d (by omega) (by omega) (by omega) (by omega) m1 m2 a0 a1 b0 b1 w H1 H2
      · obtain ⟨d, rfl⟩ : ∃ d : Nat, b = (d : Int) := ⟨b.natAbs, by omega⟩
        exact div_pp u d (by omega) (by omega) (by omega) (by omega) m1 m2 a0 a1 b0 b1 w H1 H2
theorem numTwo_any (k a b : Int) (h7 : 7 ≤ k) (h10 : k ≤ 10) (ha : InR a) (hb : InR b) (w : World) : Calls Try.prog 52 #[.int .i64 k, .int .i64 a, .int .i64 b] w (TwoP w (twoA k a b)) := by
  have hk : k = 7 ∨ k = 8 ∨ k = 9 ∨ k = 10 := by omega
  unfold twoA
  rcases hk with rfl | rfl | rfl | rfl
  · rw [if_pos rfl]; exact two_seven a b ha hb w
  · rw [if_neg (by decide), if_pos rfl]; exact two_eight a b ha hb w
  · rw [if_neg (by decide), if_neg (by decide), if_pos rfl]; exact two_nine a b ha hb w
  · rw [if_neg (by decide), if_neg (by decide), if_neg (by decide)]; exact two_ten a b ha hb w
end
end Go.Proofs.Ytfjphlejhcdbaaa
