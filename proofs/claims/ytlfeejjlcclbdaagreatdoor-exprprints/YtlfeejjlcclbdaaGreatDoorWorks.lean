/-
  works: a contract.
-/
import Derived.Test.YtlfeejjlcclbdaaGreatDoorPrint
namespace Go.Proofs.YtlfeejjlcclbdaaGreatDoor
open Go.RowKit
set_option linter.unusedVariables false


def oneT : Tr := ⟨1, 1, [], []⟩
def twoT : Tr := ⟨1, 2, [], []⟩
def aT : Tr := ⟨2, 0, [97], []⟩
def bT : Tr := ⟨2, 0, [98], []⟩
def mulT : Tr := ⟨9, 0, [], [oneT, twoT]⟩
def addT : Tr := ⟨7, 0, [], [aT, mulT]⟩
def ltT : Tr := ⟨12, 0, [], [addT, bT]⟩
def notT : Tr := ⟨6, 0, [], [⟨4, 0, [], []⟩]⟩
def orT : Tr := ⟨14, 0, [], [ltT, notT]⟩
def litS : ByteArray := ⟨#[97, 43, 49, 42, 50, 60, 98, 32, 124, 32, 33, 40, 110, 111, 41]⟩
def litT : Bs := [97, 32, 43, 32, 49, 32, 42, 32, 50, 32, 60, 32, 98, 32, 124, 32, 33, 110, 111]
def litB : ByteArray := ⟨#[97, 32, 60, 32, 98, 32, 60, 32, 99]⟩
theorem lit_parse : parseM litS = ⟨orT, 0, 0⟩ := by kernel_rfl
theorem lit_back : parseM (ba litT) = ⟨orT, 0, 0⟩ := by kernel_rfl
theorem lit_bad : parseM litB = ⟨zeroT, 3, 6⟩ := by kernel_rfl
theorem lit_check : checkM 16 orT = 0 := by kernel_rfl
theorem zero_check : checkM 16 zeroT = 1 := by kernel_rfl
theorem itoa_one : Lib.itoa 1 = [49] := by
  rw [show (1 : Int) = ((1 : Nat) : Int) from rfl, Lib.itoa_nonneg, Lib.decDigits_one (by decide)]; rfl
theorem itoa_two : Lib.itoa 2 = [50] := by
  rw [show (2 : Int) = ((2 : Nat) : Int) from rfl, Lib.itoa_nonneg, Lib.decDigits_one (by decide)]; rfl
theorem text_one : textT oneT = [49] := itoa_one
theorem text_two : textT twoT = [50] := itoa_two
theorem text_mul : textT mulT = [49, 32, 42, 32, 50] := by
  show nodeT 9 0 [] [(1, textT oneT), (1, textT twoT)] = _
  rw [text_one, text_two]; rfl
theorem text_add : textT addT = [97, 32, 43, 32, 49, 32, 42, 32, 50] := by
  show nodeT 7 0 [] [(2, [97]), (9, textT mulT)] = _
  rw [text_mul]; rfl
theorem text_lt : textT ltT = [97, 32, 43, 32, 49, 32, 42, 32, 50, 32, 60, 32, 98] := by
  show nodeT 12 0 [] [(7, textT addT), (2, [98])] = _
  rw [text_add]; rfl
theorem text_or : textT orT = litT := by
  show nodeT 14 0 [] [(12, textT ltT), (6, [33, 110, 111])] = _
  rw [text_lt]; rfl
theorem lit_print {s : Bs} {x : Nat} (h : PrintR orT s x) : s = litT ∧ x = 0 := by
  unfold PrintR at h
  rw [text_or, lit_back, lit_check] at h
  rcases h with ⟨h, _⟩ | ⟨_, h, _⟩ | ⟨_, _, _, h1, h2⟩
  · exact absurd rfl h
  · rcases h with h | h
    · exact absurd rfl h
    · exact absurd rfl h
  · exact ⟨h1, h2⟩
theorem two_cell {w1 w2 : World} {o : Obj} {x y : Value} (HB : Below ((w1.alloc o).alloc (.cells #[x, y] 33)).heap.size ((w1.alloc o).alloc (.cells #[x, y] 33)) w2) : w2.cell? ⟨w1.heap.size + 1, 0, none⟩ = some x := by
  have k := heap_alloc_new (w1.alloc o) (.cells #[x, y] 33)
  rw [size_alloc] at k
  have h : ((w1.alloc o).alloc (.cells #[x, y] 33)).cell? ⟨w1.heap.size + 1, 0, none⟩ = some x := by rw [cell_of_row _ _ _ _ 33 (0, 0) k]; rfl
  exact (HB.cell (p := ⟨w1.heap.size + 1, 0, none⟩) (World.block_lt_of_cell? _ _ h)).trans h
set_option maxRecDepth 100000 in
set_option maxHeartbeats 1600000 in
theorem works_any (w : World) (HD : Hid (Ready w)) : Calls Tryz.prog 5 #[] w fun e w' => e = .returned (.bool true) ∧ Below w.heap.size w w' := by
  have H1 : Hid (∀ w, Ready w → Calls Tryz.prog 11 #[.string ⟨#[97, 43, 49, 42, 50, 60, 98, 32, 124, 32, 33, 40, 110, 111, 41]⟩] w fun e w' => ∃ n s a l c, e = .returned (.tuple #[.agg #[.int .i64 14, .int .i64 n, .string s, .slice a l c], .agg #[.int .i64 0, .int .i64 0]]) ∧ Tre w' (fun g => w.heap.size ≤ g) (.agg #[.int .i64 14, .int .i64 n, .string s, .slice a l c]) orT ∧ Below w.heap.size w w') := fun w h => by
    have := parse_any litS (by decide) w h.held
    rw [lit_parse] at this
    refine this.mono ?_
    rintro e w' ⟨⟨k, n, s, a, l, c, rfl, hT⟩, hB⟩
    obtain ⟨a', c', e⟩ := hT.four
    simp only [Value.agg.injEq, Array.mk.injEq, List.cons.injEq, Value.int.injEq, true_and, and_true] at e
    obtain ⟨rfl, rfl, _, _⟩ := e
    exact ⟨_, _, _, _, _, rfl, hT, hB⟩
  have H2 : Hid (∀ w v P, Ready w → Tre w P v orT → Calls Tryz.prog 6 #[v] w fun e w' => e = .returned (.tuple #[.string ⟨#[97, 32, 43, 32, 49, 32, 42, 32, 50, 32, 60, 32, 98, 32, 124, 32, 33, 110, 111]⟩, .int .i64 0]) ∧ Below w.heap.size w w') := fun w v P h hT => by
    refine (print_any P orT v w hT h).mono ?_
    rintro e w' ⟨⟨s, x, rfl, hp⟩, hB⟩
    obtain ⟨rfl, rfl⟩ := lit_print hp
    exact ⟨rfl, hB⟩
  have H3 : Hid (∀ w, Ready w → Calls Tryz.prog 11 #[.string ⟨#[97, 32, 60, 32, 98, 32, 60, 32, 99]⟩] w fun e w' => ∃ k n s a l c, e = .returned (.tuple #[.agg #[.int .i64 k, .int .i64 n, .string s, .slice a l c], .agg #[.int .i64 3, .int .i64 6]]) ∧ Below w.heap.size w w') := fun w h => by
    have := parse_any litB (by decide) w h.held
    rw [lit_bad] at this
    refine this.mono ?_
    rintro e w' ⟨⟨k, n, s, a, l, c, rfl, hT⟩, hB⟩
    exact ⟨_, _, _, _, _, _, rfl, hB⟩
  have H4 : Hid (∀ w, Calls Tryz.prog 8 #[.agg #[.int .i64 0, .int .i64 0, .string ⟨#[]⟩, .slice none 0 0]] w fun e w' => e = .returned (.int .i64 1) ∧ Below w.heap.size w w') := fun w => by
    have := Check_any (fun _ => True) zeroT 0 0 ⟨#[]⟩ none 0 0 w (Tre.leaf w _ inR_zero inR_zero [] (Nat.zero_le _))
    rw [zero_check] at this
    exact this
  have H5 : Hid (∀ w v P, Tre w P v orT → Calls Tryz.prog 12 #[v, v] w fun e w' => e = .returned (.bool true) ∧ Below w.heap.size w w') := fun w v P h => (same_any orT P P orT v v w h h).mono fun e w' h => ⟨h.1.of_yes rfl, h.2⟩
  go_enter Tryz.func5, Tryz.ntmps5
  go_wp2_with (first
    | (go_at_call 12; have := M4; refine (H5.out _ _ _ M4.out.2).mono ?_; rintro e w6 ⟨rfl, HB⟩; have M5 : Hid (Below w.heap.size w w6) := M4.out.1.trans (HB.mono M4.out.1.size); clear HB M4)
    | (go_at_call 8; have := M3; refine (H4.out _).mono ?_; rintro e w5 ⟨rfl, HB⟩; have M4 : Hid (Below w.heap.size w w5 ∧ Tre w5 (fun g => w.heap.size ≤ g) (.agg #[.int .i64 14, .int .i64 n, .string s, .slice a l c]) orT) := ⟨((M3.out.1.alloc M3.out.1.size _).alloc (Nat.le_trans M3.out.1.size (le_alloc _ _)) _).trans (HB.mono (Nat.le_trans M3.out.1.size (Nat.le_trans (le_alloc _ _) (le_alloc _ _)))), ((M3.out.2.1.alloc _).alloc _).below HB⟩; obtain ⟨p0, p1, p2, p3, p4⟩ := ((M3.out.2.2.alloc _).alloc _).below HB; clear HB M3)
    | (go_at_call 11; have := M2; refine (H3.out _ M2.out.1).mono ?_; rintro e w4 ⟨k2, n2, s2, a2, l2, c2, rfl, HB⟩; have M3 : Hid (Below w.heap.size w w4 ∧ Tre w4 (fun g => w.heap.size ≤ g) (.agg #[.int .i64 14, .int .i64 n, .string s, .slice a l c]) orT ∧ Cell4 w4 w1.heap.size (.int .i64 14) (.int .i64 n) (.string s) (.slice a l c)) := ⟨M2.out.2.1.trans (HB.mono M2.out.2.1.size), M2.out.2.2.1.below HB, M2.out.2.2.2.1.below HB⟩; obtain ⟨p0, p1, p2, p3, p4⟩ := M3.out.2.2; have r0 : w4.cell? ⟨w1.heap.size + 1, 0, none⟩ = some (.int .i64 0) := (HB.cell (p := ⟨w1.heap.size + 1, 0, none⟩) (World.block_lt_of_cell? _ _ M2.out.2.2.2.2)).trans M2.out.2.2.2.2; have hl1 : w1.heap.size < w4.heap.size := M3.out.2.2.lt; have hl2 : w1.heap.size + 1 < w4.heap.size := World.block_lt_of_cell? _ _ r0; clear HB M2)
    | (go_at_call 6; have := M1; refine (H2.out _ _ _ ((M1.out.1.alloc _).alloc _) ((M1.out.2.2.alloc _).alloc _)).mono ?_; rintro e w2 ⟨rfl, HB⟩; have M2 : Hid (Ready w2 ∧ Below w.heap.size w w2 ∧ Tre w2 (fun g => w.heap.size ≤ g) (.agg #[.int .i64 14, .int .i64 n, .string s, .slice a l c]) orT ∧ Cell4 w2 w1.heap.size (.int .i64 14) (.int .i64 n) (.string s) (.slice a l c) ∧ w2.cell? ⟨w1.heap.size + 1, 0, none⟩ = some (.int .i64 0)) := ⟨((M1.out.1.alloc _).alloc _).below HB, ((M1.out.2.1.alloc M1.out.2.1.size _).alloc (Nat.le_trans M1.out.2.1.size (le_alloc _ _)) _).trans (HB.mono (Nat.le_trans M1.out.2.1.size (Nat.le_trans (le_alloc _ _) (le_alloc _ _)))), ((M1.out.2.2.alloc _).alloc _).below HB, ((Cell4.new w1 _ _ _ _ 24).alloc _).below HB, two_cell HB⟩; clear HB M1)
    | (go_at_call 11; refine (H1.out _ HD.out).mono ?_; rintro e w1 ⟨n, s, a, l, c, rfl, HT, HB⟩; have M1 : Hid (Ready w1 ∧ Below w.heap.size w w1 ∧ Tre w1 (fun g => w.heap.size ≤ g) (.agg #[.int .i64 14, .int .i64 n, .string s, .slice a l c]) orT) := ⟨HD.out.below HB, HB, HT⟩; clear HB HT))
  go_ret
  exact ⟨rfl, M5.out⟩
end Go.Proofs.YtlfeejjlcclbdaaGreatDoor
