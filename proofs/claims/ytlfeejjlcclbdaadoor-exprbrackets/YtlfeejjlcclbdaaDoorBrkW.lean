/-
  ExprBrackets: the walk.
-/
import Derived.Test.YtlfeejjlcclbdaaDoorBrk2
namespace Go.Proofs.YtlfeejjlcclbdaaDoor
open Go.RowKit
set_option linter.unusedVariables false

theorem in_parts (s : ByteArray) : ((⟨#[40]⟩ : ByteArray) ++ s) ++ ⟨#[41]⟩ = inB s := by
  apply ByteArray.ext
  simp [inB, ba, shutB]
set_option maxRecDepth 100000 in
set_option maxHeartbeats 1000000 in
theorem brk_long (s : ByteArray) (hm : s.size ≤ maxLen) (hs : 1500 < s.size) (w : World) (HD : Hid (Ready w)) : Calls Tryd.prog 7 #[.string s] w fun e w' => e = .returned (.bool true) ∧ Below w.heap.size w w' := by
  have C8 : Hid (∀ w, Ready w → Calls Tryd.prog 8 #[] w fun e w' => e = .returned (.bool true) ∧ Below w.heap.size w w') := fun w h => works_any w h
  have hm2 : s.size ≤ 9223372036854775807 := hm
  go_enter Tryd.func7, Tryd.ntmps7
  go_wp2_with (go_at_call 8; refine (C8.out _ HD.out).mono ?_; rintro e w1 ⟨rfl, HB⟩)
  go_ret
  exact ⟨rfl, HB⟩
set_option maxRecDepth 100000 in
set_option maxHeartbeats 1000000 in
theorem brk_free (s : ByteArray) (hs : s.size ≤ 1500) (s1 s2 : ByteArray) (hs1 : (⟨#[40]⟩ : ByteArray) ++ s = s1) (hs2 : s1 ++ ⟨#[41]⟩ = s2) (z1 : s1.size = s.size + 1) (z2 : s2.size = s.size + 2) (t u : Tr) (x p y q : Nat) (hx : ¬ x = 0 ∨ y = 6) (w : World) (HD : Hid (Ready w))
    (C9 : Hid (∀ w, Ready w → Calls Tryd.prog 9 #[.string s] w (PPost w ⟨t, x, p⟩))) (C9b : Hid (∀ w, Ready w → Calls Tryd.prog 9 #[.string s2] w (PPost w ⟨u, y, q⟩))) : Calls Tryd.prog 7 #[.string s] w fun e w' => e = .returned (.bool true) ∧ Below w.heap.size w w' := by
  have C8 : Hid (∀ w, Ready w → Calls Tryd.prog 8 #[] w fun e w' => e = .returned (.bool true) ∧ Below w.heap.size w w') := fun w h => works_any w h
  have hs9 : ¬ (1500 : Int) < (s.size : Int) := by omega
  have hn : ¬ (x : Int) = 0 ∨ (x = 0 ∧ y = 6) := by omega
  clear hx
  rcases hn with hx | ⟨rfl, rfl⟩
  · have hx2 : ((x : Int) != 0) = true := by simp; omega
    go_enter Tryd.func7, Tryd.ntmps7
    go_wp2_with (first
      | (go_at_call 8; have := D2; refine (C8.out _ ((D2.out.1.alloc _).alloc _)).mono ?_; rintro e w4 ⟨rfl, HB⟩; have HF : Hid (Below w.heap.size w w4) := ((D2.out.2.alloc D2.out.2.size _).alloc (Nat.le_trans D2.out.2.size (le_alloc _ _)) _).trans (HB.mono (Nat.le_trans D2.out.2.size (Nat.le_trans (le_alloc _ _) (le_alloc _ _)))); clear HB D2)
      | (go_at_call 9; have := D1; refine (C9b.out _ ((D1.out.1.alloc _).alloc _)).mono ?_; rintro e w2 ⟨⟨yk, yn, ys, ya, yl, yc, rfl, hT⟩, HB⟩; have D2 : Hid (Ready w2 ∧ Below w.heap.size w w2) := ⟨((D1.out.1.alloc _).alloc _).below HB, ((D1.out.2.1.alloc D1.out.2.1.size _).alloc (Nat.le_trans D1.out.2.1.size (le_alloc _ _)) _).trans (HB.mono (Nat.le_trans D1.out.2.1.size (Nat.le_trans (le_alloc _ _) (le_alloc _ _))))⟩; have z0 := two_cell HB; have hl2 : w1.heap.size + 1 < w2.heap.size := World.block_lt_of_cell? _ _ z0; obtain ⟨p0, p1, p2, p3, p4⟩ := ((Cell4.new w1 (.int .i64 tk) (.int .i64 tn) (.string ts) (.slice ta tl tc) 25).alloc _).below HB; have hl3 : w1.heap.size < w2.heap.size := World.block_lt_of_cell? _ _ p0; clear HB hT D1)
      | (go_at_call 9; refine (C9.out _ HD.out).mono ?_; rintro e w1 ⟨⟨tk, tn, ts, ta, tl, tc, rfl, hT⟩, HB⟩; have D1 : Hid (Ready w1 ∧ Below w.heap.size w w1 ∧ True) := ⟨HD.out.below HB, HB, trivial⟩; clear HB hT HD))
    go_ret
    exact ⟨rfl, HF.out⟩
  · go_enter Tryd.func7, Tryd.ntmps7
    go_wp2_with (first
      | (go_at_call 8; have := D2; refine (C8.out _ ((D2.out.1.alloc _).alloc _)).mono ?_; rintro e w4 ⟨rfl, HB⟩; have HF : Hid (Below w.heap.size w w4) := ((D2.out.2.alloc D2.out.2.size _).alloc (Nat.le_trans D2.out.2.size (le_alloc _ _)) _).trans (HB.mono (Nat.le_trans D2.out.2.size (Nat.le_trans (le_alloc _ _) (le_alloc _ _)))); clear HB D2)
      | (go_at_call 9; have := D1; refine (C9b.out _ ((D1.out.1.alloc _).alloc _)).mono ?_; rintro e w2 ⟨⟨yk, yn, ys, ya, yl, yc, rfl, hT⟩, HB⟩; have D2 : Hid (Ready w2 ∧ Below w.heap.size w w2) := ⟨((D1.out.1.alloc _).alloc _).below HB, ((D1.out.2.1.alloc D1.out.2.1.size _).alloc (Nat.le_trans D1.out.2.1.size (le_alloc _ _)) _).trans (HB.mono (Nat.le_trans D1.out.2.1.size (Nat.le_trans (le_alloc _ _) (le_alloc _ _))))⟩; have z0 := two_cell HB; have hl2 : w1.heap.size + 1 < w2.heap.size := World.block_lt_of_cell? _ _ z0; obtain ⟨p0, p1, p2, p3, p4⟩ := ((Cell4.new w1 (.int .i64 tk) (.int .i64 tn) (.string ts) (.slice ta tl tc) 25).alloc _).below HB; have hl3 : w1.heap.size < w2.heap.size := World.block_lt_of_cell? _ _ p0; clear HB hT D1)
      | (go_at_call 9; refine (C9.out _ HD.out).mono ?_; rintro e w1 ⟨⟨tk, tn, ts, ta, tl, tc, rfl, hT⟩, HB⟩; have D1 : Hid (Ready w1 ∧ Below w.heap.size w w1 ∧ True) := ⟨HD.out.below HB, HB, trivial⟩; clear HB hT HD))
    go_ret
    exact ⟨rfl, HF.out⟩
set_option maxRecDepth 100000 in
set_option maxHeartbeats 1000000 in
theorem brk_good (s : ByteArray) (hs : s.size ≤ 1500) (s1 s2 : ByteArray) (hs1 : (⟨#[40]⟩ : ByteArray) ++ s = s1) (hs2 : s1 ++ ⟨#[41]⟩ = s2) (z1 : s1.size = s.size + 1) (z2 : s2.size = s.size + 2) (t : Tr) (p q : Nat) (w : World) (HD : Hid (Ready w))
    (C9 : Hid (∀ w, Ready w → Calls Tryd.prog 9 #[.string s] w (PPost w ⟨t, 0, p⟩))) (C9b : Hid (∀ w, Ready w → Calls Tryd.prog 9 #[.string s2] w (PPost w ⟨t, 0, q⟩))) : Calls Tryd.prog 7 #[.string s] w fun e w' => e = .returned (.bool true) ∧ Below w.heap.size w w' := by
  have C8 : Hid (∀ w, Ready w → Calls Tryd.prog 8 #[] w fun e w' => e = .returned (.bool true) ∧ Below w.heap.size w w') := fun w h => works_any w h
  have C11 : Hid (∀ v u w P Q, Tre w P v t → Tre w Q u t → Calls Tryd.prog 11 #[v, u] w fun e w' => e = .returned (.bool true) ∧ Below w.heap.size w w') := fun v u w P Q h1 h2 => (rsame_any t P Q t _ _ w h1 h2).mono fun e w' h => ⟨h.1.of_yes rfl, h.2⟩
  have hs9 : ¬ (1500 : Int) < (s.size : Int) := by omega
  go_enter Tryd.func7, Tryd.ntmps7
  go_wp2_with (first
    | (go_at_call 8; have := D3; refine (C8.out _ D3.out.1).mono ?_; rintro e w4 ⟨rfl, HB⟩; have HF : Hid (Below w.heap.size w w4) := D3.out.2.trans (HB.mono D3.out.2.size); clear HB D3)
    | (go_at_call 11; have := D2; refine (C11.out _ _ _ _ _ ((D2.out.2.2.1.alloc _).alloc _) ((D2.out.2.2.2.alloc _).alloc _)).mono ?_; rintro e w3 ⟨rfl, HB⟩; have D3 : Hid (Ready w3 ∧ Below w.heap.size w w3) := ⟨((D2.out.1.alloc _).alloc _).below HB, ((D2.out.2.1.alloc D2.out.2.1.size _).alloc (Nat.le_trans D2.out.2.1.size (le_alloc _ _)) _).trans (HB.mono (Nat.le_trans D2.out.2.1.size (Nat.le_trans (le_alloc _ _) (le_alloc _ _))))⟩; clear HB D2)
    | (go_at_call 9; have := D1; refine (C9b.out _ ((D1.out.1.alloc _).alloc _)).mono ?_; rintro e w2 ⟨⟨yk, yn, ys, ya, yl, yc, rfl, hT⟩, HB⟩; have D2 : Hid (Ready w2 ∧ Below w.heap.size w w2 ∧ Tre w2 (fun g => w.heap.size ≤ g) (.agg #[.int .i64 tk, .int .i64 tn, .string ts, .slice ta tl tc]) t ∧ Tre w2 (fun g => ((w1.alloc (.cells #[.int .i64 tk, .int .i64 tn, .string ts, .slice ta tl tc] 25)).alloc (.cells #[.int .i64 0, .int .i64 p] 28)).heap.size ≤ g) (.agg #[.int .i64 yk, .int .i64 yn, .string ys, .slice ya yl yc]) t) := ⟨((D1.out.1.alloc _).alloc _).below HB, ((D1.out.2.1.alloc D1.out.2.1.size _).alloc (Nat.le_trans D1.out.2.1.size (le_alloc _ _)) _).trans (HB.mono (Nat.le_trans D1.out.2.1.size (Nat.le_trans (le_alloc _ _) (le_alloc _ _)))), ((D1.out.2.2.alloc _).alloc _).below HB, hT⟩; have z0 := two_cell HB; have hl2 : w1.heap.size + 1 < w2.heap.size := World.block_lt_of_cell? _ _ z0; obtain ⟨p0, p1, p2, p3, p4⟩ := ((Cell4.new w1 (.int .i64 tk) (.int .i64 tn) (.string ts) (.slice ta tl tc) 25).alloc _).below HB; have hl3 : w1.heap.size < w2.heap.size := World.block_lt_of_cell? _ _ p0; clear HB hT D1)
    | (go_at_call 9; refine (C9.out _ HD.out).mono ?_; rintro e w1 ⟨⟨tk, tn, ts, ta, tl, tc, rfl, hT⟩, HB⟩; have D1 : Hid (Ready w1 ∧ Below w.heap.size w w1 ∧ Tre w1 (fun g => w.heap.size ≤ g) (.agg #[.int .i64 tk, .int .i64 tn, .string ts, .slice ta tl tc]) t) := ⟨HD.out.below HB, HB, hT⟩; clear HB hT HD))
  go_ret
  exact ⟨rfl, HF.out⟩
theorem brk_walk (s : ByteArray) (w : World) (hm : s.size ≤ maxLen) (hw : Ready w) : Calls Tryd.prog 7 #[.string s] w fun e w' => e = .returned (.bool true) ∧ Below w.heap.size w w' := by
  by_cases hs : 1500 < s.size
  · exact brk_long s hm hs w hw
  · have hz : (inB s).size = s.size + 2 := by
      show (40 :: (s.data.toList ++ [shutB])).length = _
      simp
    have C9 : ∀ w, Ready w → Calls Tryd.prog 9 #[.string s] w (PPost w (parseM s)) := fun w h => parse_any s hm w h.held
    have C9b : ∀ w, Ready w → Calls Tryd.prog 9 #[.string (inB s)] w (PPost w (parseM (inB s))) := fun w h => parse_any _ (by omega) w h.held
    have z1 : ((⟨#[40]⟩ : ByteArray) ++ s).size = s.size + 1 := by rw [ByteArray.size_append]; show 1 + s.size = _; omega
    have hb := brk_parse s (by omega)
    generalize parseM (inB s) = g at *
    generalize parseM s = f at *
    obtain ⟨t, x, p⟩ := f
    obtain ⟨u, y, q⟩ := g
    by_cases hx : x = 0
    · rcases hb hx with h6 | ⟨h0, ht⟩
      · exact brk_free s (by omega) _ _ rfl (in_parts s) z1 hz t u x p y q (.inr h6) w hw C9 C9b
      · subst hx
        have h0' : y = 0 := h0
        have ht' : u = t := ht
        subst h0'; subst ht'
        exact brk_good s (by omega) _ _ rfl (in_parts s) z1 hz u p q w hw C9 C9b
    · exact brk_free s (by omega) _ _ rfl (in_parts s) z1 hz t u x p y q (.inl hx) w hw C9 C9b
end Go.Proofs.YtlfeejjlcclbdaaDoor
