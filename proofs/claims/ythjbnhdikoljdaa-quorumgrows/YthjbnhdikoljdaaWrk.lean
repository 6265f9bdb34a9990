/-
  Layer 14: the example that every law asks.
-/
import Derived.Test.YthjbnhdikoljdaaSmb
import Derived.Test.YthjbnhdikoljdaaHad
namespace Go.Proofs.Ythjbnhdikoljdaa
open Go.RowKit
set_option linter.unusedVariables false

theorem WonL (w : World) (l : List Bool) (b n : Nat) (hn : n = l.length) (h : BlV w (some ⟨b, 0, none⟩) n l) (r : Bool) (hr : wonM l = r) : Calls Try.prog 11 #[.slice (some ⟨b, 0, none⟩) n n] w fun e w' => e = .returned (.bool r) ∧ w' = w := by
  subst hn hr
  exact Won_any l _ _ w h
theorem BothL (w : World) (l m : List Bool) (b b2 n n2 : Nat) (hn : n = l.length) (hn2 : n2 = m.length) (h : BlV w (some ⟨b, 0, none⟩) n l) (h2 : BlV w (some ⟨b2, 0, none⟩) n2 m) (r : Bool) (hr : bothM l m = r) : Calls Try.prog 15 #[.slice (some ⟨b, 0, none⟩) n n, .slice (some ⟨b2, 0, none⟩) n2 n2] w fun e w' => e = .returned (.bool r) ∧ w' = w := by
  subst hn hn2 hr
  exact Both_any l m _ _ _ _ w h h2
theorem below_of {w w0 : World} {f : Nat} {args : Array Value} {r : Value} (h : Calls Try.prog f args w fun e w' => e = .returned r ∧ w' = w) (hb : Below w0.heap.size w0 w) : Calls Try.prog f args w fun e w' => e = .returned r ∧ Below w0.heap.size w0 w' := h.mono fun e w' ⟨h1, h2⟩ => ⟨h1, by rw [h2]; exact hb⟩
theorem trail {a b c : World} (h : Below a.heap.size a b) (h2 : Below b.heap.size b c) : Below a.heap.size a c := h.trans (h2.mono h.size)
theorem Won3 (w : World) : Calls Try.prog 11 #[.slice (some ⟨w.heap.size, 0, none⟩) 3 3] (w.alloc (.cells #[.bool true, .bool false, .bool true] 4)) fun e w' => e = .returned (.bool true) ∧ Below w.heap.size w w' :=
  below_of (WonL _ [true, false, true] _ 3 rfl (RdL.lit w #[.bool true, .bool false, .bool true] 4 3 rfl (by decide)) _ (by decide)) ((Below.refl _ _).alloc (Nat.le_refl _) _)
theorem Won2 (w : World) : Calls Try.prog 11 #[.slice (some ⟨w.heap.size, 0, none⟩) 2 2] (w.alloc (.cells #[.bool true, .bool false] 4)) fun e w' => e = .returned (.bool false) ∧ Below w.heap.size w w' :=
  below_of (WonL _ [true, false] _ 2 rfl (RdL.lit w #[.bool true, .bool false] 4 2 rfl (by decide)) _ (by decide)) ((Below.refl _ _).alloc (Nat.le_refl _) _)
theorem alloc_size (w : World) (o : Obj) : (w.alloc o).heap.size = w.heap.size + 1 := by
  show (w.heap.push o).size = _
  rw [Array.size_push]
theorem Both2 (w : World) : Calls Try.prog 15 #[.slice (some ⟨w.heap.size, 0, none⟩) 2 2, .slice (some ⟨w.heap.size + 1, 0, none⟩) 2 2] ((w.alloc (.cells #[.bool true, .bool true] 4)).alloc (.cells #[.bool false, .bool true] 4)) fun e w' => e = .returned (.bool true) ∧ Below w.heap.size w w' := by
  have h2 := RdL.lit (w.alloc (.cells #[.bool true, .bool true] 4)) #[.bool false, .bool true] 4 2 rfl (by decide)
  rw [alloc_size] at h2
  refine below_of (BothL _ [true, true] [false, true] _ _ 2 2 rfl rfl ((RdL.lit w #[.bool true, .bool true] 4 2 rfl (by decide)).below ((Below.refl _ _).alloc (Nat.le_refl _) _)) h2 _ (by decide)) (((Below.refl _ _).alloc (Nat.le_refl _) _).alloc (by rw [alloc_size]; omega) _)
theorem Rch3 (w : World) : Calls Try.prog 13 #[.slice (some ⟨w.heap.size, 0, none⟩) 3 3] (w.alloc (.cells #[.int .i64 5, .int .i64 2, .int .i64 9] 3)) fun e w' => e = .returned (.int .i64 5) ∧ Below w.heap.size w w' := by
  refine (Reached_any [5, 2, 9] _ 3 _ ⟨RdL.lit w #[.int .i64 5, .int .i64 2, .int .i64 9] 3 3 rfl (by decide), fun i hi => ?_⟩ (by decide)).mono ?_
  · match i, hi with
    | 0, _ => exact ⟨by decide, by decide⟩
    | 1, _ => exact ⟨by decide, by decide⟩
    | 2, _ => exact ⟨by decide, by decide⟩
  · rintro e w' ⟨x, rfl, hx, _, hb⟩
    rw [hx.out.one rch_529]
    exact ⟨rfl, ((Below.refl _ _).alloc (Nat.le_refl _) _).trans (hb.mono (by rw [alloc_size]; omega))⟩
theorem Rch0 (w : World) : Calls Try.prog 13 #[.slice none 0 0] w fun e w' => e = .returned (.int .i64 0) ∧ Below w.heap.size w w' := by
  refine (Reached_any [] _ 0 w (IlV.nothing w) (by decide)).mono ?_
  rintro e w' ⟨x, rfl, hx, _, hb⟩
  rw [hx.out.1 rfl]
  exact ⟨rfl, hb⟩
set_option maxRecDepth 100000 in
set_option maxHeartbeats 800000 in
theorem works_any (w : World) : Calls Try.prog 8 #[] w fun e w' => e = .returned (.bool true) ∧ Below w.heap.size w w' := by
  have e3 : enM 3 = 2 := by decide
  have e4 : enM 4 = 3 := by decide
  go_enter Try.func8, Try.ntmps8
  go_wp2_with (first
    | (go_at_call 9; refine (Enough_any _ _ ⟨by decide, by decide⟩).mono ?_; rintro e w' ⟨rfl, rfl⟩)
    | (go_at_call 11; have := HB1; refine (Won2 _).mono ?_; rintro e w2 ⟨rfl, HB⟩; have HB2 : Hid _ := HB; clear HB)
    | (go_at_call 11; refine (Won3 _).mono ?_; rintro e w1 ⟨rfl, HB⟩; have HB1 : Hid _ := HB; clear HB)
    | (go_at_call 13; have := HB4; refine (Rch0 _).mono ?_; rintro e w5 ⟨rfl, HB⟩; have HB5 : Hid _ := HB; clear HB)
    | (go_at_call 13; refine (Rch3 _).mono ?_; rintro e w3 ⟨rfl, HB⟩; have HB3 : Hid _ := HB; clear HB)
    | (go_at_call 15; refine (Both2 _).mono ?_; rintro e w4 ⟨rfl, HB⟩; have HB4 : Hid _ := HB; clear HB))
  go_ret
  exact ⟨rfl, trail HB1.out (trail HB2.out (trail HB3.out (trail HB4.out HB5.out)))⟩
end Go.Proofs.Ythjbnhdikoljdaa
