/-
  TypesOf: the walk.
-/
import Derived.Test.YtdnpbnhfakjhoaaWrkA
import Derived.Test.YtdnpbnhfakjhoaaWeigh
namespace Go.Proofs.Ytdnpbnhfakjhoaa
open Go.RowKit
set_option linter.unusedVariables false

set_option maxRecDepth 100000 in
set_option maxHeartbeats 1000000 in
theorem of_walk (t : Tr) (a : Option Addr) (c : Nat) (w : World) (hT : Tre w (fun _ => True) (.agg #[.int .i64 t.kind, .int .i64 t.n, .string (ba t.name), .slice a t.kids.length c]) t) : Calls Try.prog 3 #[.agg #[.int .i64 t.kind, .int .i64 t.n, .string (ba t.name), .slice a t.kids.length c]] w fun e w' => e = .returned (.bool true) ∧ Below w.heap.size w w' := by
  have HT : Hid (Tre w (fun _ => True) (.agg #[.int .i64 t.kind, .int .i64 t.n, .string (ba t.name), .slice a t.kids.length c]) t) := hT
  have H7 : Hid (∀ w, Tre w (fun _ => True) (.agg #[.int .i64 t.kind, .int .i64 t.n, .string (ba t.name), .slice a t.kids.length c]) t → Calls Try.prog 7 #[.agg #[.int .i64 t.kind, .int .i64 t.n, .string (ba t.name), .slice a t.kids.length c]] w fun e w' => ∃ b, e = .returned (.bool b) ∧ Below w.heap.size w w') := fun w h => light_any _ _ _ _ _ _ _ _ w h
  have H9 : Hid (∀ w, Tre w (fun _ => True) (.agg #[.int .i64 t.kind, .int .i64 t.n, .string (ba t.name), .slice a t.kids.length c]) t → Calls Try.prog 9 #[.agg #[.int .i64 t.kind, .int .i64 t.n, .string (ba t.name), .slice a t.kids.length c]] w fun e w' => e = .returned (.tuple #[.bool (truthM t).1, .int .i64 (truthM t).2]) ∧ Below w.heap.size w w') := fun w h => Truth_any _ t _ _ _ _ _ _ w h
  have H10 : Hid (∀ w, Tre w (fun _ => True) (.agg #[.int .i64 t.kind, .int .i64 t.n, .string (ba t.name), .slice a t.kids.length c]) t → Calls Try.prog 10 #[.agg #[.int .i64 t.kind, .int .i64 t.n, .string (ba t.name), .slice a t.kids.length c]] w fun e w' => e = .returned (.tuple #[.bool (truthM t).1, .int .i64 (truthM t).2]) ∧ Below w.heap.size w w') := fun w h => RTruth_any _ t _ _ _ _ _ w h
  have H8 : Hid (∀ w, Calls Try.prog 8 #[] w fun e w' => e = .returned (.bool true) ∧ Below w.heap.size w w') := works_any
  clear hT
  generalize (truthM t).1 = rb at *
  generalize (truthM t).2 = rn at *
  generalize t.kind = tk at *
  generalize t.n = tn at *
  generalize ba t.name = ts at *
  generalize t.kids.length = tl at *
  go_enter Try.func3, Try.ntmps3
  go_wp2_with (first
    | (go_at_call 8; have := M3; refine (H8.out _).mono ?_; rintro e w4 ⟨rfl, HB⟩; have M4 : Hid (Below w.heap.size w w4) := M3.out.trans (HB.mono M3.out.size); clear HB M3)
    | (go_at_call 8; have := M1; refine (H8.out _).mono ?_; rintro e w4 ⟨rfl, HB⟩; have M4 : Hid (Below w.heap.size w w4) := M1.out.1.trans (HB.mono M1.out.1.size); clear HB M1)
    | (go_at_call 10; have := M2; refine (H10.out _ (HT.out.below M2.out.1)).mono ?_; rintro e w3 ⟨rfl, HB⟩; have M3 : Hid (Below w.heap.size w w3) := M2.out.1.trans (HB.mono M2.out.1.size); clear HB M2)
    | (go_at_call 9; have := M1; refine (H9.out _ (HT.out.below M1.out.1)).mono ?_; rintro e w2 ⟨rfl, HB⟩; have M2 : Hid (Below w.heap.size w w2 ∧ Cell4 w2 w.heap.size (.int .i64 tk) (.int .i64 tn) (.string ts) (.slice a tl c)) := ⟨M1.out.1.trans (HB.mono M1.out.1.size), M1.out.2.below HB⟩; obtain ⟨q0, q1, q2, q3, q4⟩ := M2.out.2; have hq := World.block_lt_of_cell? _ _ q0; clear HB M1)
    | (go_at_call 7; refine (H7.out _ (HT.out.alloc _)).mono ?_; rintro e w1 ⟨lb, rfl, HB⟩; have M1 : Hid (Below w.heap.size w w1 ∧ Cell4 w1 w.heap.size (.int .i64 tk) (.int .i64 tn) (.string ts) (.slice a tl c)) := ⟨((Below.refl _ _).alloc (Nat.le_refl _) _).trans (HB.mono (le_alloc _ _)), (Cell4.new w _ _ _ _ 24).below HB⟩; obtain ⟨q0, q1, q2, q3, q4⟩ := M1.out.2; have hq := World.block_lt_of_cell? _ _ q0; clear HB))
  all_goals go_ret
  all_goals exact ⟨rfl, M4.out⟩
end Go.Proofs.Ytdnpbnhfakjhoaa
