/-
  The walk of LexSplits.
-/
import Derived.Test.YtepdcpdageeipaaDoorRSplit
import Derived.Test.YtepdcpdageeipaaDoorSame
namespace Go.Proofs.YtepdcpdageeipaaDoor
open Go.RowKit Go.Maps
set_option linter.unusedVariables false

set_option maxRecDepth 100000 in
set_option maxHeartbeats 400000 in
theorem splits_walk (s : ByteArray) (n E P : Nat) (ws : List W) (hs : s.size ≤ 5000) (hn : n ≤ 4096) (HL : Hid (ws.length = n))
    (H1 : Hid (∀ w, Held w → Calls Tryd.prog 9 #[.string s] w fun e w' => ∃ (a : Option Addr) (cap : Nat), e = .returned (.tuple #[.slice a n cap, .agg #[.int .i64 E, .int .i64 P]]) ∧ n ≤ cap ∧ RowV w' a ws ∧ Below w.heap.size w w'))
    (H2 : Hid (∀ w, Calls Tryd.prog 10 #[.string s] w fun e w' => ∃ (a : Option Addr) (cap : Nat), e = .returned (.tuple #[.slice a n cap, .agg #[.int .i64 E, .int .i64 P]]) ∧ n ≤ cap ∧ RowV w' a ws ∧ Below w.heap.size w w')) (w : World) (HW : Hid (Held w)) :
    Calls Tryd.prog 3 #[.string s] w fun e w' => e = .returned (.bool true) ∧ Below w.heap.size w w' := by
  go_enter Tryd.func3, Tryd.ntmps3
  go_wp2_with (first
    | (have := HB3; go_at_call 8; refine (works_any _ ((HW.out.below (Nat.le_refl _) HB3.out))).mono ?_; rintro e w4 ⟨rfl, HB⟩; have HB4 : Hid (Below w.heap.size w w4) := HB3.out.trans (HB.mono HB3.out.size); clear HB)
    | (have := HB2; go_at_call 11; refine (same_walk a b n capa capb ws hn hca hcb HL.out _ (rax.out.below ((Below.refl _ _).alloc (Nat.le_refl _) _)) (rbx.out.below ((Below.refl _ _).alloc (Nat.le_refl _) _))).mono ?_; rintro e w3 ⟨rfl, HB⟩; have HB3 : Hid (Below w.heap.size w w3) := below_new HB2.out HB; clear HB)
    | (go_at_call 10; refine (H2.out _).mono ?_; rintro e w2 ⟨b, capb, rfl, hcb, hrb, HB⟩; have rbx : Hid (RowV w2 b ws) := hrb; have rax : Hid (RowV w2 a ws) := (RA.out.below HB); have c0 := new_kept (i := 0) rfl HB; have c1 := new_kept (i := 1) rfl HB; have lt1 := lt_new HB; have HB2 : Hid (Below w.heap.size w w2) := below_new HB1.out HB; clear HB hrb RA)
    | (go_at_call 9; refine (H1.out _ HW.out).mono ?_; rintro e w1 ⟨a, capa, rfl, hca, hra, HB⟩; have HB1 : Hid (Below w.heap.size w w1) := HB; have RA : Hid (RowV (w1.alloc (.cells #[.int .i64 E, .int .i64 P] 26)) a ws) := hra.below ((Below.refl _ _).alloc (Nat.le_refl _) _); clear HB hra))
  go_ret
  exact ⟨rfl, HB4.out⟩

set_option maxRecDepth 100000 in
theorem splits_all (s : ByteArray) (w : World) (w0 : s.size ≤ maxLen) (hw : Held w) : Calls Tryd.prog 3 #[.string s] w fun e w' => e = .returned (.bool true) ∧ Below w.heap.size w w' := by
  by_cases hbig : 5000 < s.size
  · have HW : Hid (Held w) := hw
    unfold maxLen at w0
    clear hw
    go_enter Tryd.func3, Tryd.ntmps3
    go_wp2_with (go_at_call 8; refine (works_any _ HW.out).mono ?_; rintro e w' ⟨rfl, HB⟩)
    go_ret
    exact ⟨rfl, HB⟩
  · refine splits_walk s (lexOut s).ws.length (lexOut s).err (lexOut s).pos (lexOut s).ws (by omega) (lex_few s) rfl ?_ ?_ w hw
    · intro w hw
      refine (split_any s w0 w hw).mono ?_
      rintro e w' ⟨v, rfl, hV, hB⟩
      obtain ⟨a, cap, rfl, h1, _, h2⟩ := hV.row
      exact ⟨a, cap, rfl, h1, h2, hB⟩
    · intro w
      refine (rsplit_any s w0 w).mono ?_
      rintro e w' ⟨v, rfl, hV, hB⟩
      obtain ⟨a, cap, rfl, h1, _, h2⟩ := hV.row
      exact ⟨a, cap, rfl, h1, h2, hB⟩

end Go.Proofs.YtepdcpdageeipaaDoor
