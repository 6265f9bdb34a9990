/-
  The law's example, 'works': a contract.
-/
import Derived.Test.YtepdcpdageeipaaDoorSplit
namespace Go.Proofs.YtepdcpdageeipaaDoor
open Go.RowKit Go.Maps
set_option linter.unusedVariables false

def sA : ByteArray := ⟨#[97, 49, 32, 60, 32, 50, 48, 38, 33, 98]⟩
def sB : ByteArray := ⟨#[97, 32, 50, 98]⟩
def sC : ByteArray := ⟨#[57, 50, 50, 51, 51, 55, 50, 48, 51, 54, 56, 53, 52, 55, 55, 53, 56, 48, 56]⟩
theorem outA : lexOut sA = ⟨[⟨2, [97, 49], 0, 0⟩, ⟨3, [60], 0, 3⟩, ⟨1, [], 20, 5⟩, ⟨3, [38], 0, 7⟩, ⟨3, [33], 0, 8⟩, ⟨2, [98], 0, 9⟩], 0, 0⟩ := by kernel_rfl
theorem outB : lexOut sB = ⟨[], 3, 3⟩ := by kernel_rfl
theorem outC : lexOut sC = ⟨[], 13, 0⟩ := by kernel_rfl

theorem callA (w : World) (hw : Held w) : Calls Tryd.prog 9 #[.string ⟨#[97, 49, 32, 60, 32, 50, 48, 38, 33, 98]⟩] w fun e w' => ∃ b cap, e = .returned (.tuple #[.slice (some ⟨b, 0, none⟩) 6 cap, .agg #[.int .i64 0, .int .i64 0]]) ∧ 6 ≤ cap ∧ b < w'.heap.size ∧
    (w'.cell? ⟨b, 1, none⟩ = some (.string ⟨#[97, 49]⟩) ∧ w'.cell? ⟨b, 10, none⟩ = some (.int .i64 20) ∧ w'.cell? ⟨b, 11, none⟩ = some (.int .i64 5) ∧ w'.cell? ⟨b, 17, none⟩ = some (.string ⟨#[33]⟩)) ∧ Below w.heap.size w w' := by
  refine (split_any sA (by unfold maxLen; decide) w hw).mono ?_
  rintro e w' ⟨v, rfl, hV, hB⟩
  rw [outA] at hV ⊢
  obtain ⟨a, cap, rfl, h2, h3, h4⟩ := hV
  rcases h4 with h4 | ⟨b, rfl, hc⟩
  · simp at h4
  · have k0 := hc 0 (by decide)
    have k2 := hc 2 (by decide)
    have k4 := hc 4 (by decide)
    exact ⟨b, cap, rfl, h2, World.block_lt_of_cell? w' _ k0.c0, ⟨k0.c1, k2.c2, k2.c3, k4.c1⟩, hB⟩
theorem callB (w : World) (hw : Held w) : Calls Tryd.prog 9 #[.string ⟨#[97, 32, 50, 98]⟩] w fun e w' => ∃ v, e = .returned (.tuple #[v, .agg #[.int .i64 3, .int .i64 3]]) ∧ Below w.heap.size w w' := by
  refine (split_any sB (by unfold maxLen; decide) w hw).mono ?_
  rintro e w' ⟨v, rfl, hV, hB⟩
  rw [outB]
  exact ⟨v, rfl, hB⟩
theorem callC (w : World) (hw : Held w) : Calls Tryd.prog 9 #[.string ⟨#[57, 50, 50, 51, 51, 55, 50, 48, 51, 54, 56, 53, 52, 55, 55, 53, 56, 48, 56]⟩] w fun e w' => ∃ v, e = .returned (.tuple #[v, .agg #[.int .i64 13, .int .i64 0]]) ∧ Below w.heap.size w w' := by
  refine (split_any sC (by unfold maxLen; decide) w hw).mono ?_
  rintro e w' ⟨v, rfl, hV, hB⟩
  rw [outC]
  exact ⟨v, rfl, hB⟩

theorem kept {w w1 : World} {b i : Nat} {x : Value} (h : w.cell? ⟨b, i, none⟩ = some x) (hB : Below w.heap.size w w1) : w1.cell? ⟨b, i, none⟩ = some x := (hB.cell (p := ⟨b, i, none⟩) (World.block_lt_of_cell? w _ h)).trans h
theorem kept_new {w w1 : World} {o : Obj} {b i : Nat} {x : Value} (h : w.cell? ⟨b, i, none⟩ = some x) (hB : Below (w.alloc o).heap.size (w.alloc o) w1) : w1.cell? ⟨b, i, none⟩ = some x := kept (kept h ((Below.refl _ _).alloc (Nat.le_refl _) o)) hB
theorem new_kept {w w1 : World} {cs : Array Value} {t : TypeId} {i : Nat} {x : Value} (h : cs[i]? = some x) (hB : Below (w.alloc (.cells cs t)).heap.size (w.alloc (.cells cs t)) w1) : w1.cell? ⟨w.heap.size, i, none⟩ = some x := by
  refine kept ?_ hB
  rw [cell_of_row _ w.heap.size i _ t (0, 0) (heap_alloc_new w _)]; exact h
theorem below_new {w0 w w1 : World} {o : Obj} (h : Below w0.heap.size w0 w) (hB : Below (w.alloc o).heap.size (w.alloc o) w1) : Below w0.heap.size w0 w1 := (h.alloc h.size o).trans (hB.mono (Nat.le_trans h.size (le_alloc _ _)))
theorem lt_new {w w1 : World} {o : Obj} (hB : Below (w.alloc o).heap.size (w.alloc o) w1) : w.heap.size < w1.heap.size := by have h1 := hB.size; rw [size_alloc] at h1; omega
theorem Held.new {w : World} (h : Held w) (o : Obj) : Held (w.alloc o) := h.below (Nat.le_refl _) ((Below.refl _ _).alloc (Nat.le_refl _) o)

set_option maxRecDepth 100000 in
set_option maxHeartbeats 400000 in
theorem works_any (w : World) (hw : Held w) : Calls Tryd.prog 8 #[] w fun e w' => e = .returned (.bool true) ∧ Below w.heap.size w w' := by
  have HW : Hid (Held w) := hw
  have D0 : Hid True := trivial
  clear hw
  go_enter Tryd.func8, Tryd.ntmps8
  go_wp2_with (first
    | (have := D2; go_at_call 9; refine (callC _ H2.out).mono ?_; rintro e w3 ⟨v3, rfl, HB⟩; have j0 := kept_new a0 HB; have j1 := kept_new a1 HB; have j2 := kept_new a2 HB; have j3 := kept_new a3 HB; have j4 := kept_new z0 HB; have y0 := new_kept (i := 0) rfl HB; have y1 := new_kept (i := 1) rfl HB; have lb2 := lt_new HB; have lb1 : w1.heap.size < w3.heap.size := (Nat.lt_trans la1 lb2); have lb0 : b < w3.heap.size := (Nat.lt_trans la0 lb2); have HB3 : Hid (Below w.heap.size w w3) := below_new HB2.out HB; clear HB D2 a0 a1 a2 a3 z0 la0 la1)
    | (have := D1; go_at_call 9; refine (callB _ H1.out).mono ?_; rintro e w2 ⟨v2, rfl, HB⟩; have a0 := kept_new h0 HB; have a1 := kept_new h1 HB; have a2 := kept_new h2 HB; have a3 := kept_new h3 HB; have z0 := new_kept (i := 0) rfl HB; have la1 := lt_new HB; have la0 : b < w2.heap.size := (Nat.lt_trans hb la1); have HB2 : Hid (Below w.heap.size w w2) := below_new HB1.out HB; have D2 : Hid True := trivial; have H2 : Hid (Held (w2.alloc (.cells #[.int .i64 3, .int .i64 3] 26))) := ((HW.out.below (Nat.le_refl _) HB2.out).new _); clear HB D1 h0 h1 h2 h3 hb)
    | (have := D0; go_at_call 9; refine (callA _ HW.out).mono ?_; rintro e w1 ⟨b, cap, rfl, hcap, hb, ⟨h0, h1, h2, h3⟩, HB⟩; have HB1 : Hid (Below w.heap.size w w1) := HB; have D1 : Hid True := trivial; have H1 : Hid (Held (w1.alloc (.cells #[.int .i64 0, .int .i64 0] 26))) := ((HW.out.below (Nat.le_refl _) HB).new _); clear HB D0))
  go_ret
  exact ⟨rfl, HB3.out.alloc HB3.out.size _⟩

end Go.Proofs.YtepdcpdageeipaaDoor
