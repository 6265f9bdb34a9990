/-
  The laws of what conditions come to: EvalAs, EvalTyped and EvalFolds.
-/
import Derived.Test.YtfjphlejhcdbaaaLaw1
import Derived.Test.YtfjphlejhcdbaaaRfB
namespace Go.Proofs.Ytfjphlejhcdbaaa
open Go.RowKit
set_option linter.unusedVariables false

set_option maxRecDepth 100000 in
set_option maxHeartbeats 1200000 in
theorem evalAs_err (t : Tr) (k n : Int) (s : ByteArray) (a : Option Addr) (l c : Nat) (v : Value) (ns : List ByteArray) (vs : List Int) (w : World) (hT : Tin w t k n s a l c) (hV : Vin w v ns vs) (rb : Bool) (rn : Int) (re : Nat) (h0 : re ≠ 0)
    (hR : ∀ w, Tin w t k n s a l c → Vin w v ns vs → Calls Try.prog 12 #[.agg #[.int .i64 k, .int .i64 n, .string s, .slice a l c], v] w (EvP ⟨rb, rn, re⟩ w)) (hN : ∀ w, Tin w t k n s a l c → Vin w v ns vs → Calls Try.prog 13 #[.agg #[.int .i64 k, .int .i64 n, .string s, .slice a l c], v] w (NuP ((0 : Int), re) w)) (hU : ∀ w, Tin w t k n s a l c → Vin w v ns vs → Calls Try.prog 14 #[.agg #[.int .i64 k, .int .i64 n, .string s, .slice a l c], v] w (TrP (false, re) w)) :
    Calls Try.prog 4 #[.agg #[.int .i64 k, .int .i64 n, .string s, .slice a l c], v] w fun e w' => e = .returned (.bool true) ∧ Below w.heap.size w w' := by
  have HL : Hid (∀ w, Tin w t k n s a l c → Vin w v ns vs → Calls Try.prog 9 #[.agg #[.int .i64 k, .int .i64 n, .string s, .slice a l c], v] w (SomeB w)) := fun w h1 h2 => light_any t k n s a l c v ns vs w h1 h2
  have HW : Hid (∀ w, Calls Try.prog 10 #[] w fun e w' => e = .returned (.bool true) ∧ Below w.heap.size w w') := works_any
  have HR : Hid (∀ w, Tin w t k n s a l c → Vin w v ns vs → Calls Try.prog 12 #[.agg #[.int .i64 k, .int .i64 n, .string s, .slice a l c], v] w (EvP ⟨rb, rn, re⟩ w)) := hR
  have HN : Hid (∀ w, Tin w t k n s a l c → Vin w v ns vs → Calls Try.prog 13 #[.agg #[.int .i64 k, .int .i64 n, .string s, .slice a l c], v] w (NuP ((0 : Int), re) w)) := hN
  have HU : Hid (∀ w, Tin w t k n s a l c → Vin w v ns vs → Calls Try.prog 14 #[.agg #[.int .i64 k, .int .i64 n, .string s, .slice a l c], v] w (TrP (false, re) w)) := hU
  clear hR hN hU
  obtain ⟨a1, n1, k1, a2, n2, k2, rfl⟩ := hV.form
  have HO : Hid (Own2 w _ t k n s a l c a1 n1 k1 a2 n2 k2 ns vs) := Own2.new hT hV
  clear hT hV
  have hz := nz h0
  unfold EvP at HR
  unfold NuP at HN
  unfold TrP at HU
  simp only at HR HN HU
  go_enter Try.func4, Try.ntmps4
  go_wp2_with (first
    | (go_at_call 9; refine (HL.out _ HO.out.t.tin HO.out.v.v).mono ?_; rintro e w1 ⟨lb, rfl, HB⟩; have H1 : Hid (Own2 w w1 t k n s a l c a1 n1 k1 a2 n2 k2 ns vs) := HO.out.below HB; clear HB; obtain ⟨g1, c0, c1, f0, f1⟩ := H1.out.v.c; obtain ⟨p0, p1, p2, p3, p4⟩ := H1.out.t.cel; have hp := H1.out.t.cel.lt; cases lb)
    | (go_at_call 10; have := H4; refine (HW.out _).mono ?_; rintro e wz ⟨rfl, HB⟩; have HD : Hid (Below w.heap.size w wz) := (H4.out.1.low).trans (HB.mono (H4.out.1.low).size); clear HB)
    | (go_at_call 10; have := H1; refine (HW.out _).mono ?_; rintro e wz ⟨rfl, HB⟩; have HD : Hid (Below w.heap.size w wz) := (H1.out.low).trans (HB.mono (H1.out.low).size); clear HB)
    | (go_at_call 12; refine (HR.out _ H1.out.t.tin H1.out.v.v).mono ?_; rintro e w2 ⟨rfl, HB⟩; have H2 : Hid (Own2 w w2 t k n s a l c a1 n1 k1 a2 n2 k2 ns vs) := H1.out.below HB; clear HB; obtain ⟨g1, c0, c1, f0, f1⟩ := H2.out.v.c; obtain ⟨p0, p1, p2, p3, p4⟩ := H2.out.t.cel; have hp := H2.out.t.cel.lt)
    | (go_at_call 13; refine (HN.out _ (H2.out.alloc _).t.tin (H2.out.alloc _).v.v).mono ?_; rintro e w3 ⟨rfl, HB⟩; have H3 : Hid (Own2 w w3 t k n s a l c a1 n1 k1 a2 n2 k2 ns vs ∧ V.Two w3 w2.heap.size (.bool rb) (.int .i64 rn)) := ⟨(H2.out.alloc _).below HB, (V.Two.new w2 _ _ 32).below HB⟩; clear HB; obtain ⟨g1, c0, c1, f0, f1⟩ := H3.out.1.v.c; obtain ⟨p0, p1, p2, p3, p4⟩ := H3.out.1.t.cel; have hp := H3.out.1.t.cel.lt)
    | (go_at_call 14; refine (HU.out _ H3.out.1.t.tin H3.out.1.v.v).mono ?_; rintro e w4 ⟨rfl, HB⟩; have H4 : Hid (Own2 w w4 t k n s a l c a1 n1 k1 a2 n2 k2 ns vs ∧ V.Two w4 w2.heap.size (.bool rb) (.int .i64 rn)) := ⟨H3.out.1.below HB, H3.out.2.below HB⟩; clear HB; obtain ⟨g1, c0, c1, f0, f1⟩ := H4.out.2))
  all_goals (
    go_ret
    exact ⟨rfl, HD.out⟩)
set_option maxRecDepth 100000 in
set_option maxHeartbeats 1200000 in
theorem evalAs_one (t : Tr) (k n : Int) (s : ByteArray) (a : Option Addr) (l c : Nat) (v : Value) (ns : List ByteArray) (vs : List Int) (w : World) (hT : Tin w t k n s a l c) (hV : Vin w v ns vs) (rb : Bool) (rn : Int) (re : Nat) (h0 : re = 0) (h1 : rb = true) (h2 : rn = 1)
    (hR : ∀ w, Tin w t k n s a l c → Vin w v ns vs → Calls Try.prog 12 #[.agg #[.int .i64 k, .int .i64 n, .string s, .slice a l c], v] w (EvP ⟨rb, rn, re⟩ w)) (hN : ∀ w, Tin w t k n s a l c → Vin w v ns vs → Calls Try.prog 13 #[.agg #[.int .i64 k, .int .i64 n, .string s, .slice a l c], v] w (NuP ((0 : Int), 7) w)) (hU : ∀ w, Tin w t k n s a l c → Vin w v ns vs → Calls Try.prog 14 #[.agg #[.int .i64 k, .int .i64 n, .string s, .slice a l c], v] w (TrP (true, 0) w)) :
    Calls Try.prog 4 #[.agg #[.int .i64 k, .int .i64 n, .string s, .slice a l c], v] w fun e w' => e = .returned (.bool true) ∧ Below w.heap.size w w' := by
  have HL : Hid (∀ w, Tin w t k n s a l c → Vin w v ns vs → Calls Try.prog 9 #[.agg #[.int .i64 k, .int .i64 n, .string s, .slice a l c], v] w (SomeB w)) := fun w h1 h2 => light_any t k n s a l c v ns vs w h1 h2
  have HW : Hid (∀ w, Calls Try.prog 10 #[] w fun e w' => e = .returned (.bool true) ∧ Below w.heap.size w w') := works_any
  have HR : Hid (∀ w, Tin w t k n s a l c → Vin w v ns vs → Calls Try.prog 12 #[.agg #[.int .i64 k, .int .i64 n, .string s, .slice a l c], v] w (EvP ⟨rb, rn, re⟩ w)) := hR
  have HN : Hid (∀ w, Tin w t k n s a l c → Vin w v ns vs → Calls Try.prog 13 #[.agg #[.int .i64 k, .int .i64 n, .string s, .slice a l c], v] w (NuP ((0 : Int), 7) w)) := hN
  have HU : Hid (∀ w, Tin w t k n s a l c → Vin w v ns vs → Calls Try.prog 14 #[.agg #[.int .i64 k, .int .i64 n, .string s, .slice a l c], v] w (TrP (true, 0) w)) := hU
  clear hR hN hU
  obtain ⟨a1, n1, k1, a2, n2, k2, rfl⟩ := hV.form
  have HO : Hid (Own2 w _ t k n s a l c a1 n1 k1 a2 n2 k2 ns vs) := Own2.new hT hV
  clear hT hV
  subst h0
  subst h1
  subst h2
  unfold EvP at HR
  unfold NuP at HN
  unfold TrP at HU
  simp only at HR HN HU
  go_enter Try.func4, Try.ntmps4
  go_wp2_with (first
    | (go_at_call 9; refine (HL.out _ HO.out.t.tin HO.out.v.v).mono ?_; rintro e w1 ⟨lb, rfl, HB⟩; have H1 : Hid (Own2 w w1 t k n s a l c a1 n1 k1 a2 n2 k2 ns vs) := HO.out.below HB; clear HB; obtain ⟨g1, c0, c1, f0, f1⟩ := H1.out.v.c; obtain ⟨p0, p1, p2, p3, p4⟩ := H1.out.t.cel; have hp := H1.out.t.cel.lt; cases lb)
    | (go_at_call 10; have := H4; refine (HW.out _).mono ?_; rintro e wz ⟨rfl, HB⟩; have HD : Hid (Below w.heap.size w wz) := (H4.out.1.low).trans (HB.mono (H4.out.1.low).size); clear HB)
    | (go_at_call 10; have := H1; refine (HW.out _).mono ?_; rintro e wz ⟨rfl, HB⟩; have HD : Hid (Below w.heap.size w wz) := (H1.out.low).trans (HB.mono (H1.out.low).size); clear HB)
    | (go_at_call 12; refine (HR.out _ H1.out.t.tin H1.out.v.v).mono ?_; rintro e w2 ⟨rfl, HB⟩; have H2 : Hid (Own2 w w2 t k n s a l c a1 n1 k1 a2 n2 k2 ns vs) := H1.out.below HB; clear HB; obtain ⟨g1, c0, c1, f0, f1⟩ := H2.out.v.c; obtain ⟨p0, p1, p2, p3, p4⟩ := H2.out.t.cel; have hp := H2.out.t.cel.lt)
    | (go_at_call 13; refine (HN.out _ (H2.out.alloc _).t.tin (H2.out.alloc _).v.v).mono ?_; rintro e w3 ⟨rfl, HB⟩; have H3 : Hid (Own2 w w3 t k n s a l c a1 n1 k1 a2 n2 k2 ns vs ∧ V.Two w3 w2.heap.size (.bool true) (.int .i64 1)) := ⟨(H2.out.alloc _).below HB, (V.Two.new w2 _ _ 32).below HB⟩; clear HB; obtain ⟨g1, c0, c1, f0, f1⟩ := H3.out.1.v.c; obtain ⟨p0, p1, p2, p3, p4⟩ := H3.out.1.t.cel; have hp := H3.out.1.t.cel.lt)
    | (go_at_call 14; refine (HU.out _ H3.out.1.t.tin H3.out.1.v.v).mono ?_; rintro e w4 ⟨rfl, HB⟩; have H4 : Hid (Own2 w w4 t k n s a l c a1 n1 k1 a2 n2 k2 ns vs ∧ V.Two w4 w2.heap.size (.bool true) (.int .i64 1)) := ⟨H3.out.1.below HB, H3.out.2.below HB⟩; clear HB; obtain ⟨g1, c0, c1, f0, f1⟩ := H4.out.2))
  all_goals (
    go_ret
    exact ⟨rfl, HD.out⟩)
set_option maxRecDepth 100000 in
set_option maxHeartbeats 1200000 in
theorem evalAs_other (t : Tr) (k n : Int) (s : ByteArray) (a : Option Addr) (l c : Nat) (v : Value) (ns : List ByteArray) (vs : List Int) (w : World) (hT : Tin w t k n s a l c) (hV : Vin w v ns vs) (rb : Bool) (rn : Int) (re : Nat) (h0 : re = 0) (h1 : rb = true) (h2 : rn ≠ 1)
    (hR : ∀ w, Tin w t k n s a l c → Vin w v ns vs → Calls Try.prog 12 #[.agg #[.int .i64 k, .int .i64 n, .string s, .slice a l c], v] w (EvP ⟨rb, rn, re⟩ w)) (hN : ∀ w, Tin w t k n s a l c → Vin w v ns vs → Calls Try.prog 13 #[.agg #[.int .i64 k, .int .i64 n, .string s, .slice a l c], v] w (NuP ((0 : Int), 7) w)) (hU : ∀ w, Tin w t k n s a l c → Vin w v ns vs → Calls Try.prog 14 #[.agg #[.int .i64 k, .int .i64 n, .string s, .slice a l c], v] w (TrP (false, 0) w)) :
    Calls Try.prog 4 #[.agg #[.int .i64 k, .int .i64 n, .string s, .slice a l c], v] w fun e w' => e = .returned (.bool true) ∧ Below w.heap.size w w' := by
  have HL : Hid (∀ w, Tin w t k n s a l c → Vin w v ns vs → Calls Try.prog 9 #[.agg #[.int .i64 k, .int .i64 n, .string s, .slice a l c], v] w (SomeB w)) := fun w h1 h2 => light_any t k n s a l c v ns vs w h1 h2
  have HW : Hid (∀ w, Calls Try.prog 10 #[] w fun e w' => e = .returned (.bool true) ∧ Below w.heap.size w w') := works_any
  have HR : Hid (∀ w, Tin w t k n s a l c → Vin w v ns vs → Calls Try.prog 12 #[.agg #[.int .i64 k, .int .i64 n, .string s, .slice a l c], v] w (EvP ⟨rb, rn, re⟩ w)) := hR
  have HN : Hid (∀ w, Tin w t k n s a l c → Vin w v ns vs → Calls Try.prog 13 #[.agg #[.int .i64 k, .int .i64 n, .string s, .slice a l c], v] w (NuP ((0 : Int), 7) w)) := hN
  have HU : Hid (∀ w, Tin w t k n s a l c → Vin w v ns vs → Calls Try.prog 14 #[.agg #[.int .i64 k, .int .i64 n, .string s, .slice a l c], v] w (TrP (false, 0) w)) := hU
  clear hR hN hU
  obtain ⟨a1, n1, k1, a2, n2, k2, rfl⟩ := hV.form
  have HO : Hid (Own2 w _ t k n s a l c a1 n1 k1 a2 n2 k2 ns vs) := Own2.new hT hV
  clear hT hV
  subst h0
  subst h1
  have hxs : (rn == 1) = false := by simpa using h2
  unfold EvP at HR
  unfold NuP at HN
  unfold TrP at HU
  simp only at HR HN HU
  go_enter Try.func4, Try.ntmps4
  go_wp2_with (first
    | (go_at_call 9; refine (HL.out _ HO.out.t.tin HO.out.v.v).mono ?_; rintro e w1 ⟨lb, rfl, HB⟩; have H1 : Hid (Own2 w w1 t k n s a l c a1 n1 k1 a2 n2 k2 ns vs) := HO.out.below HB; clear HB; obtain ⟨g1, c0, c1, f0, f1⟩ := H1.out.v.c; obtain ⟨p0, p1, p2, p3, p4⟩ := H1.out.t.cel; have hp := H1.out.t.cel.lt; cases lb)
    | (go_at_call 10; have := H4; refine (HW.out _).mono ?_; rintro e wz ⟨rfl, HB⟩; have HD : Hid (Below w.heap.size w wz) := (H4.out.1.low).trans (HB.mono (H4.out.1.low).size); clear HB)
    | (go_at_call 10; have := H1; refine (HW.out _).mono ?_; rintro e wz ⟨rfl, HB⟩; have HD : Hid (Below w.heap.size w wz) := (H1.out.low).trans (HB.mono (H1.out.low).size); clear HB)
    | (go_at_call 12; refine (HR.out _ H1.out.t.tin H1.out.v.v).mono ?_; rintro e w2 ⟨rfl, HB⟩; have H2 : Hid (Own2 w w2 t k n s a l c a1 n1 k1 a2 n2 k2 ns vs) := H1.out.below HB; clear HB; obtain ⟨g1, c0, c1, f0, f1⟩ := H2.out.v.c; obtain ⟨p0, p1, p2, p3, p4⟩ := H2.out.t.cel; have hp := H2.out.t.cel.lt)
    | (go_at_call 13; refine (HN.out _ (H2.out.alloc _).t.tin (H2.out.alloc _).v.v).mono ?_; rintro e w3 ⟨rfl, HB⟩; have H3 : Hid (Own2 w w3 t k n s a l c a1 n1 k1 a2 n2 k2 ns vs ∧ V.Two w3 w2.heap.size (.bool true) (.int .i64 rn)) := ⟨(H2.out.alloc _).below HB, (V.Two.new w2 _ _ 32).below HB⟩; clear HB; obtain ⟨g1, c0, c1, f0, f1⟩ := H3.out.1.v.c; obtain ⟨p0, p1, p2, p3, p4⟩ := H3.out.1.t.cel; have hp := H3.out.1.t.cel.lt)
    | (go_at_call 14; refine (HU.out _ H3.out.1.t.tin H3.out.1.v.v).mono ?_; rintro e w4 ⟨rfl, HB⟩; have H4 : Hid (Own2 w w4 t k n s a l c a1 n1 k1 a2 n2 k2 ns vs ∧ V.Two w4 w2.heap.size (.bool true) (.int .i64 rn)) := ⟨H3.out.1.below HB, H3.out.2.below HB⟩; clear HB; obtain ⟨g1, c0, c1, f0, f1⟩ := H4.out.2))
  all_goals (
    go_ret
    exact ⟨rfl, HD.out⟩)
set_option maxRecDepth 100000 in
set_option maxHeartbeats 1200000 in
theorem evalAs_num (t : Tr) (k n : Int) (s : ByteArray) (a : Option Addr) (l c : Nat) (v : Value) (ns : List ByteArray) (vs : List Int) (w : World) (hT : Tin w t k n s a l c) (hV : Vin w v ns vs) (rb : Bool) (rn : Int) (re : Nat) (h0 : re = 0) (h1 : rb = false)
    (hR : ∀ w, Tin w t k n s a l c → Vin w v ns vs → Calls Try.prog 12 #[.agg #[.int .i64 k, .int .i64 n, .string s, .slice a l c], v] w (EvP ⟨rb, rn, re⟩ w)) (hN : ∀ w, Tin w t k n s a l c → Vin w v ns vs → Calls Try.prog 13 #[.agg #[.int .i64 k, .int .i64 n, .string s, .slice a l c], v] w (NuP (rn, 0) w)) (hU : ∀ w, Tin w t k n s a l c → Vin w v ns vs → Calls Try.prog 14 #[.agg #[.int .i64 k, .int .i64 n, .string s, .slice a l c], v] w (TrP (false, 7) w)) :
    Calls Try.prog 4 #[.agg #[.int .i64 k, .int .i64 n, .string s, .slice a l c], v] w fun e w' => e = .returned (.bool true) ∧ Below w.heap.size w w' := by
  have HL : Hid (∀ w, Tin w t k n s a l c → Vin w v ns vs → Calls Try.prog 9 #[.agg #[.int .i64 k, .int .i64 n, .string s, .slice a l c], v] w (SomeB w)) := fun w h1 h2 => light_any t k n s a l c v ns vs w h1 h2
  have HW : Hid (∀ w, Calls Try.prog 10 #[] w fun e w' => e = .returned (.bool true) ∧ Below w.heap.size w w') := works_any
  have HR : Hid (∀ w, Tin w t k n s a l c → Vin w v ns vs → Calls Try.prog 12 #[.agg #[.int .i64 k, .int .i64 n, .string s, .slice a l c], v] w (EvP ⟨rb, rn, re⟩ w)) := hR
  have HN : Hid (∀ w, Tin w t k n s a l c → Vin w v ns vs → Calls Try.prog 13 #[.agg #[.int .i64 k, .int .i64 n, .string s, .slice a l c], v] w (NuP (rn, 0) w)) := hN
  have HU : Hid (∀ w, Tin w t k n s a l c → Vin w v ns vs → Calls Try.prog 14 #[.agg #[.int .i64 k, .int .i64 n, .string s, .slice a l c], v] w (TrP (false, 7) w)) := hU
  clear hR hN hU
  obtain ⟨a1, n1, k1, a2, n2, k2, rfl⟩ := hV.form
  have HO : Hid (Own2 w _ t k n s a l c a1 n1 k1 a2 n2 k2 ns vs) := Own2.new hT hV
  clear hT hV
  subst h0
  subst h1
  unfold EvP at HR
  unfold NuP at HN
  unfold TrP at HU
  simp only at HR HN HU
  go_enter Try.func4, Try.ntmps4
  go_wp2_with (first
    | (go_at_call 9; refine (HL.out _ HO.out.t.tin HO.out.v.v).mono ?_; rintro e w1 ⟨lb, rfl, HB⟩; have H1 : Hid (Own2 w w1 t k n s a l c a1 n1 k1 a2 n2 k2 ns vs) := HO.out.below HB; clear HB; obtain ⟨g1, c0, c1, f0, f1⟩ := H1.out.v.c; obtain ⟨p0, p1, p2, p3, p4⟩ := H1.out.t.cel; have hp := H1.out.t.cel.lt; cases lb)
    | (go_at_call 10; have := H4; refine (HW.out _).mono ?_; rintro e wz ⟨rfl, HB⟩; have HD : Hid (Below w.heap.size w wz) := (H4.out.1.low).trans (HB.mono (H4.out.1.low).size); clear HB)
    | (go_at_call 10; have := H1; refine (HW.out _).mono ?_; rintro e wz ⟨rfl, HB⟩; have HD : Hid (Below w.heap.size w wz) := (H1.out.low).trans (HB.mono (H1.out.low).size); clear HB)
    | (go_at_call 12; refine (HR.out _ H1.out.t.tin H1.out.v.v).mono ?_; rintro e w2 ⟨rfl, HB⟩; have H2 : Hid (Own2 w w2 t k n s a l c a1 n1 k1 a2 n2 k2 ns vs) := H1.out.below HB; clear HB; obtain ⟨g1, c0, c1, f0, f1⟩ := H2.out.v.c; obtain ⟨p0, p1, p2, p3, p4⟩ := H2.out.t.cel; have hp := H2.out.t.cel.lt)
    | (go_at_call 13; refine (HN.out _ (H2.out.alloc _).t.tin (H2.out.alloc _).v.v).mono ?_; rintro e w3 ⟨rfl, HB⟩; have H3 : Hid (Own2 w w3 t k n s a l c a1 n1 k1 a2 n2 k2 ns vs ∧ V.Two w3 w2.heap.size (.bool false) (.int .i64 rn)) := ⟨(H2.out.alloc _).below HB, (V.Two.new w2 _ _ 32).below HB⟩; clear HB; obtain ⟨g1, c0, c1, f0, f1⟩ := H3.out.1.v.c; obtain ⟨p0, p1, p2, p3, p4⟩ := H3.out.1.t.cel; have hp := H3.out.1.t.cel.lt)
    | (go_at_call 14; refine (HU.out _ H3.out.1.t.tin H3.out.1.v.v).mono ?_; rintro e w4 ⟨rfl, HB⟩; have H4 : Hid (Own2 w w4 t k n s a l c a1 n1 k1 a2 n2 k2 ns vs ∧ V.Two w4 w2.heap.size (.bool false) (.int .i64 rn)) := ⟨H3.out.1.below HB, H3.out.2.below HB⟩; clear HB; obtain ⟨g1, c0, c1, f0, f1⟩ := H4.out.2))
  all_goals (
    go_ret
    exact ⟨rfl, HD.out⟩)
theorem evalAs_walk (t : Tr) (k n : Int) (s : ByteArray) (a : Option Addr) (l c : Nat) (v : Value) (ns : List ByteArray) (vs : List Int) (w : World) (hT : Tin w t k n s a l c) (hV : Vin w v ns vs) : Calls Try.prog 4 #[.agg #[.int .i64 k, .int .i64 n, .string s, .slice a l c], v] w fun e w' => e = .returned (.bool true) ∧ Below w.heap.size w w' := by
  have hR : ∀ w, Tin w t k n s a l c → Vin w v ns vs → Calls Try.prog 12 #[.agg #[.int .i64 k, .int .i64 n, .string s, .slice a l c], v] w (EvP (ofM (envN ns vs) (V.chk ns vs) t) w) := fun w h1 h2 => ROf_any t k n s a l c v ns vs w h1 h2
  have hN : ∀ w, Tin w t k n s a l c → Vin w v ns vs → Calls Try.prog 13 #[.agg #[.int .i64 k, .int .i64 n, .string s, .slice a l c], v] w (NuP (nuM (ofM (envN ns vs) (V.chk ns vs) t)) w) := fun w h1 h2 => Number_any t k n s a l c v ns vs w h1 h2
  have hU : ∀ w, Tin w t k n s a l c → Vin w v ns vs → Calls Try.prog 14 #[.agg #[.int .i64 k, .int .i64 n, .string s, .slice a l c], v] w (TrP (trM (ofM (envN ns vs) (V.chk ns vs) t)) w) := fun w h1 h2 => ETruth_any t k n s a l c v ns vs w h1 h2
  generalize ofM (envN ns vs) (V.chk ns vs) t = r at *
  obtain ⟨rb, rn, re⟩ := r
  by_cases h0 : re = 0
  · cases rb with
    | true =>
      have e1 : nuM ⟨true, rn, re⟩ = (0, 7) := by unfold nuM; simp [h0]
      rw [e1] at hN
      by_cases h1 : rn = 1
      · have e2 : trM ⟨true, rn, re⟩ = (true, 0) := by unfold trM; simp [h0, h1]
        rw [e2] at hU
        exact evalAs_one t k n s a l c v ns vs w hT hV true rn re h0 rfl h1 hR hN hU
      · have e2 : trM ⟨true, rn, re⟩ = (false, 0) := by unfold trM; simp [h0, h1]
        rw [e2] at hU
        exact evalAs_other t k n s a l c v ns vs w hT hV true rn re h0 rfl h1 hR hN hU
    | false =>
      have e1 : nuM ⟨false, rn, re⟩ = (rn, 0) := by unfold nuM; simp [h0]
      have e2 : trM ⟨false, rn, re⟩ = (false, 7) := by unfold trM; simp [h0]
      rw [e1] at hN
      rw [e2] at hU
      exact evalAs_num t k n s a l c v ns vs w hT hV false rn re h0 rfl hR hN hU
  · have e1 : nuM ⟨rb, rn, re⟩ = (0, re) := by unfold nuM; simp [h0]
    have e2 : trM ⟨rb, rn, re⟩ = (false, re) := by unfold trM; simp [h0]
    rw [e1] at hN
    rw [e2] at hU
    exact evalAs_err t k n s a l c v ns vs w hT hV rb rn re h0 hR hN hU
set_option maxRecDepth 100000 in
set_option maxHeartbeats 1200000 in
theorem typed_ck (t : Tr) (k n : Int) (s : ByteArray) (a : Option Addr) (l c : Nat) (v : Value) (ns : List ByteArray) (vs : List Int) (w : World) (hT : Tin w t k n s a l c) (hV : Vin w v ns vs) (ck te : Nat) (tb rb : Bool) (rn : Int) (re : Nat) (h0 : ck ≠ 0)
    (hC : ∀ w, Vin w v ns vs → Calls Try.prog 15 #[v] w fun e w' => e = .returned (.int .i64 (ck : Nat)) ∧ Below w.heap.size w w') (hU : ∀ w, Tin w t k n s a l c → Calls Try.prog 16 #[.agg #[.int .i64 k, .int .i64 n, .string s, .slice a l c]] w fun e w' => e = .returned (.tuple #[.bool tb, .int .i64 (te : Nat)]) ∧ Below w.heap.size w w') (hA : ∀ w, Tin w t k n s a l c → Vin w v ns vs → Calls Try.prog 11 #[.agg #[.int .i64 k, .int .i64 n, .string s, .slice a l c], v] w fun e w' => e = .returned (.tuple #[.agg #[.bool rb, .int .i64 rn], .int .i64 (re : Nat)]) ∧ Below w.heap.size w w') :
    Calls Try.prog 5 #[.agg #[.int .i64 k, .int .i64 n, .string s, .slice a l c], v] w fun e w' => e = .returned (.bool true) ∧ Below w.heap.size w w' := by
  have HL : Hid (∀ w, Tin w t k n s a l c → Vin w v ns vs → Calls Try.prog 9 #[.agg #[.int .i64 k, .int .i64 n, .string s, .slice a l c], v] w (SomeB w)) := fun w h1 h2 => light_any t k n s a l c v ns vs w h1 h2
  have HW : Hid (∀ w, Calls Try.prog 10 #[] w fun e w' => e = .returned (.bool true) ∧ Below w.heap.size w w') := works_any
  have HC : Hid (∀ w, Vin w v ns vs → Calls Try.prog 15 #[v] w fun e w' => e = .returned (.int .i64 (ck : Nat)) ∧ Below w.heap.size w w') := hC
  have HU : Hid (∀ w, Tin w t k n s a l c → Calls Try.prog 16 #[.agg #[.int .i64 k, .int .i64 n, .string s, .slice a l c]] w fun e w' => e = .returned (.tuple #[.bool tb, .int .i64 (te : Nat)]) ∧ Below w.heap.size w w') := hU
  have HA : Hid (∀ w, Tin w t k n s a l c → Vin w v ns vs → Calls Try.prog 11 #[.agg #[.int .i64 k, .int .i64 n, .string s, .slice a l c], v] w fun e w' => e = .returned (.tuple #[.agg #[.bool rb, .int .i64 rn], .int .i64 (re : Nat)]) ∧ Below w.heap.size w w') := hA
  clear hC hU hA
  obtain ⟨a1, n1, k1, a2, n2, k2, rfl⟩ := hV.form
  have HO : Hid (Own2 w _ t k n s a l c a1 n1 k1 a2 n2 k2 ns vs) := Own2.new hT hV
  clear hT hV
  have hz := nz h0
  go_enter Try.func5, Try.ntmps5
  go_wp2_with (first
    | (go_at_call 9; refine (HL.out _ HO.out.t.tin HO.out.v.v).mono ?_; rintro e w1 ⟨lb, rfl, HB⟩; have H1 : Hid (Own2 w w1 t k n s a l c a1 n1 k1 a2 n2 k2 ns vs) := HO.out.below HB; clear HB; obtain ⟨g1, c0, c1, f0, f1⟩ := H1.out.v.c; obtain ⟨p0, p1, p2, p3, p4⟩ := H1.out.t.cel; have hp := H1.out.t.cel.lt; cases lb)
    | (go_at_call 10; have := H4; refine (HW.out _).mono ?_; rintro e wz ⟨rfl, HB⟩; have HD : Hid (Below w.heap.size w wz) := (H4.out).trans (HB.mono (H4.out).size); clear HB)
    | (go_at_call 10; have := H2; refine (HW.out _).mono ?_; rintro e wz ⟨rfl, HB⟩; have HD : Hid (Below w.heap.size w wz) := (H2.out.low).trans (HB.mono (H2.out.low).size); clear HB)
    | (go_at_call 10; have := H1; refine (HW.out _).mono ?_; rintro e wz ⟨rfl, HB⟩; have HD : Hid (Below w.heap.size w wz) := (H1.out.low).trans (HB.mono (H1.out.low).size); clear HB)
    | (go_at_call 15; refine (HC.out _ H1.out.v.v).mono ?_; rintro e w2 ⟨rfl, HB⟩; have H2 : Hid (Own2 w w2 t k n s a l c a1 n1 k1 a2 n2 k2 ns vs) := H1.out.below HB; clear HB; obtain ⟨g1, c0, c1, f0, f1⟩ := H2.out.v.c; obtain ⟨p0, p1, p2, p3, p4⟩ := H2.out.t.cel; have hp := H2.out.t.cel.lt)
    | (go_at_call 16; refine (HU.out _ H2.out.t.tin).mono ?_; rintro e w3 ⟨rfl, HB⟩; have H3 : Hid (Own2 w w3 t k n s a l c a1 n1 k1 a2 n2 k2 ns vs) := H2.out.below HB; clear HB; obtain ⟨g1, c0, c1, f0, f1⟩ := H3.out.v.c; obtain ⟨p0, p1, p2, p3, p4⟩ := H3.out.t.cel; have hp := H3.out.t.cel.lt)
    | (go_at_call 11; refine (HA.out _ H3.out.t.tin H3.out.v.v).mono ?_; rintro e w4 ⟨rfl, HB⟩; have H4 : Hid (Below w.heap.size w (w4.alloc (.cells #[.bool rb, .int .i64 rn] 32))) := (H3.out.below HB).low.alloc (H3.out.below HB).low.size _; clear HB))
  all_goals (
    go_ret
    exact ⟨rfl, HD.out⟩)
set_option maxRecDepth 100000 in
set_option maxHeartbeats 1200000 in
theorem typed_err (t : Tr) (k n : Int) (s : ByteArray) (a : Option Addr) (l c : Nat) (v : Value) (ns : List ByteArray) (vs : List Int) (w : World) (hT : Tin w t k n s a l c) (hV : Vin w v ns vs) (te : Nat) (tb rb : Bool) (rn : Int) (h0 : te ≠ 0)
    (hC : ∀ w, Vin w v ns vs → Calls Try.prog 15 #[v] w fun e w' => e = .returned (.int .i64 0) ∧ Below w.heap.size w w') (hU : ∀ w, Tin w t k n s a l c → Calls Try.prog 16 #[.agg #[.int .i64 k, .int .i64 n, .string s, .slice a l c]] w fun e w' => e = .returned (.tuple #[.bool tb, .int .i64 (te : Nat)]) ∧ Below w.heap.size w w') (hA : ∀ w, Tin w t k n s a l c → Vin w v ns vs → Calls Try.prog 11 #[.agg #[.int .i64 k, .int .i64 n, .string s, .slice a l c], v] w fun e w' => e = .returned (.tuple #[.agg #[.bool rb, .int .i64 rn], .int .i64 (te : Nat)]) ∧ Below w.heap.size w w') :
    Calls Try.prog 5 #[.agg #[.int .i64 k, .int .i64 n, .string s, .slice a l c], v] w fun e w' => e = .returned (.bool true) ∧ Below w.heap.size w w' := by
  have HL : Hid (∀ w, Tin w t k n s a l c → Vin w v ns vs → Calls Try.prog 9 #[.agg #[.int .i64 k, .int .i64 n, .string s, .slice a l c], v] w (SomeB w)) := fun w h1 h2 => light_any t k n s a l c v ns vs w h1 h2
  have HW : Hid (∀ w, Calls Try.prog 10 #[] w fun e w' => e = .returned (.bool true) ∧ Below w.heap.size w w') := works_any
  have HC : Hid (∀ w, Vin w v ns vs → Calls Try.prog 15 #[v] w fun e w' => e = .returned (.int .i64 0) ∧ Below w.heap.size w w') := hC
  have HU : Hid (∀ w, Tin w t k n s a l c → Calls Try.prog 16 #[.agg #[.int .i64 k, .int .i64 n, .string s, .slice a l c]] w fun e w' => e = .returned (.tuple #[.bool tb, .int .i64 (te : Nat)]) ∧ Below w.heap.size w w') := hU
  have HA : Hid (∀ w, Tin w t k n s a l c → Vin w v ns vs → Calls Try.prog 11 #[.agg #[.int .i64 k, .int .i64 n, .string s, .slice a l c], v] w fun e w' => e = .returned (.tuple #[.agg #[.bool rb, .int .i64 rn], .int .i64 (te : Nat)]) ∧ Below w.heap.size w w') := hA
  clear hC hU hA
  obtain ⟨a1, n1, k1, a2, n2, k2, rfl⟩ := hV.form
  have HO : Hid (Own2 w _ t k n s a l c a1 n1 k1 a2 n2 k2 ns vs) := Own2.new hT hV
  clear hT hV
  have hz := nz h0
  go_enter Try.func5, Try.ntmps5
  go_wp2_with (first
    | (go_at_call 9; refine (HL.out _ HO.out.t.tin HO.out.v.v).mono ?_; rintro e w1 ⟨lb, rfl, HB⟩; have H1 : Hid (Own2 w w1 t k n s a l c a1 n1 k1 a2 n2 k2 ns vs) := HO.out.below HB; clear HB; obtain ⟨g1, c0, c1, f0, f1⟩ := H1.out.v.c; obtain ⟨p0, p1, p2, p3, p4⟩ := H1.out.t.cel; have hp := H1.out.t.cel.lt; cases lb)
    | (go_at_call 10; have := H4; refine (HW.out _).mono ?_; rintro e wz ⟨rfl, HB⟩; have HD : Hid (Below w.heap.size w wz) := (H4.out).trans (HB.mono (H4.out).size); clear HB)
    | (go_at_call 10; have := H2; refine (HW.out _).mono ?_; rintro e wz ⟨rfl, HB⟩; have HD : Hid (Below w.heap.size w wz) := (H2.out.low).trans (HB.mono (H2.out.low).size); clear HB)
    | (go_at_call 10; have := H1; refine (HW.out _).mono ?_; rintro e wz ⟨rfl, HB⟩; have HD : Hid (Below w.heap.size w wz) := (H1.out.low).trans (HB.mono (H1.out.low).size); clear HB)
    | (go_at_call 15; refine (HC.out _ H1.out.v.v).mono ?_; rintro e w2 ⟨rfl, HB⟩; have H2 : Hid (Own2 w w2 t k n s a l c a1 n1 k1 a2 n2 k2 ns vs) := H1.out.below HB; clear HB; obtain ⟨g1, c0, c1, f0, f1⟩ := H2.out.v.c; obtain ⟨p0, p1, p2, p3, p4⟩ := H2.out.t.cel; have hp := H2.out.t.cel.lt)
    | (go_at_call 16; refine (HU.out _ H2.out.t.tin).mono ?_; rintro e w3 ⟨rfl, HB⟩; have H3 : Hid (Own2 w w3 t k n s a l c a1 n1 k1 a2 n2 k2 ns vs) := H2.out.below HB; clear HB; obtain ⟨g1, c0, c1, f0, f1⟩ := H3.out.v.c; obtain ⟨p0, p1, p2, p3, p4⟩ := H3.out.t.cel; have hp := H3.out.t.cel.lt)
    | (go_at_call 11; refine (HA.out _ H3.out.t.tin H3.out.v.v).mono ?_; rintro e w4 ⟨rfl, HB⟩; have H4 : Hid (Below w.heap.size w (w4.alloc (.cells #[.bool rb, .int .i64 rn] 32))) := (H3.out.below HB).low.alloc (H3.out.below HB).low.size _; clear HB))
  all_goals (
    go_ret
    exact ⟨rfl, HD.out⟩)
set_option maxRecDepth 100000 in
set_option maxHeartbeats 1200000 in
theorem typed_bad9 (t : Tr) (k n : Int) (s : ByteArray) (a : Option Addr) (l c : Nat) (v : Value) (ns : List ByteArray) (vs : List Int) (w : World) (hT : Tin w t k n s a l c) (hV : Vin w v ns vs) (tb : Bool)
    (hC : ∀ w, Vin w v ns vs → Calls Try.prog 15 #[v] w fun e w' => e = .returned (.int .i64 0) ∧ Below w.heap.size w w') (hU : ∀ w, Tin w t k n s a l c → Calls Try.prog 16 #[.agg #[.int .i64 k, .int .i64 n, .string s, .slice a l c]] w fun e w' => e = .returned (.tuple #[.bool tb, .int .i64 0]) ∧ Below w.heap.size w w') (hA : ∀ w, Tin w t k n s a l c → Vin w v ns vs → Calls Try.prog 11 #[.agg #[.int .i64 k, .int .i64 n, .string s, .slice a l c], v] w fun e w' => e = .returned (.tuple #[.agg #[.bool false, .int .i64 0], .int .i64 9]) ∧ Below w.heap.size w w') :
    Calls Try.prog 5 #[.agg #[.int .i64 k, .int .i64 n, .string s, .slice a l c], v] w fun e w' => e = .returned (.bool true) ∧ Below w.heap.size w w' := by
  have HL : Hid (∀ w, Tin w t k n s a l c → Vin w v ns vs → Calls Try.prog 9 #[.agg #[.int .i64 k, .int .i64 n, .string s, .slice a l c], v] w (SomeB w)) := fun w h1 h2 => light_any t k n s a l c v ns vs w h1 h2
  have HW : Hid (∀ w, Calls Try.prog 10 #[] w fun e w' => e = .returned (.bool true) ∧ Below w.heap.size w w') := works_any
  have HC : Hid (∀ w, Vin w v ns vs → Calls Try.prog 15 #[v] w fun e w' => e = .returned (.int .i64 0) ∧ Below w.heap.size w w') := hC
  have HU : Hid (∀ w, Tin w t k n s a l c → Calls Try.prog 16 #[.agg #[.int .i64 k, .int .i64 n, .string s, .slice a l c]] w fun e w' => e = .returned (.tuple #[.bool tb, .int .i64 0]) ∧ Below w.heap.size w w') := hU
  have HA : Hid (∀ w, Tin w t k n s a l c → Vin w v ns vs → Calls Try.prog 11 #[.agg #[.int .i64 k, .int .i64 n, .string s, .slice a l c], v] w fun e w' => e = .returned (.tuple #[.agg #[.bool false, .int .i64 0], .int .i64 9]) ∧ Below w.heap.size w w') := hA
  clear hC hU hA
  obtain ⟨a1, n1, k1, a2, n2, k2, rfl⟩ := hV.form
  have HO : Hid (Own2 w _ t k n s a l c a1 n1 k1 a2 n2 k2 ns vs) := Own2.new hT hV
  clear hT hV
  go_enter Try.func5, Try.ntmps5
  go_wp2_with (first
    | (go_at_call 9; refine (HL.out _ HO.out.t.tin HO.out.v.v).mono ?_; rintro e w1 ⟨lb, rfl, HB⟩; have H1 : Hid (Own2 w w1 t k n s a l c a1 n1 k1 a2 n2 k2 ns vs) := HO.out.below HB; clear HB; obtain ⟨g1, c0, c1, f0, f1⟩ := H1.out.v.c; obtain ⟨p0, p1, p2, p3, p4⟩ := H1.out.t.cel; have hp := H1.out.t.cel.lt; cases lb)
    | (go_at_call 10; have := H4; refine (HW.out _).mono ?_; rintro e wz ⟨rfl, HB⟩; have HD : Hid (Below w.heap.size w wz) := (H4.out).trans (HB.mono (H4.out).size); clear HB)
    | (go_at_call 10; have := H2; refine (HW.out _).mono ?_; rintro e wz ⟨rfl, HB⟩; have HD : Hid (Below w.heap.size w wz) := (H2.out.low).trans (HB.mono (H2.out.low).size); clear HB)
    | (go_at_call 10; have := H1; refine (HW.out _).mono ?_; rintro e wz ⟨rfl, HB⟩; have HD : Hid (Below w.heap.size w wz) := (H1.out.low).trans (HB.mono (H1.out.low).size); clear HB)
    | (go_at_call 15; refine (HC.out _ H1.out.v.v).mono ?_; rintro e w2 ⟨rfl, HB⟩; have H2 : Hid (Own2 w w2 t k n s a l c a1 n1 k1 a2 n2 k2 ns vs) := H1.out.below HB; clear HB; obtain ⟨g1, c0, c1, f0, f1⟩ := H2.out.v.c; obtain ⟨p0, p1, p2, p3, p4⟩ := H2.out.t.cel; have hp := H2.out.t.cel.lt)
    | (go_at_call 16; refine (HU.out _ H2.out.t.tin).mono ?_; rintro e w3 ⟨rfl, HB⟩; have H3 : Hid (Own2 w w3 t k n s a l c a1 n1 k1 a2 n2 k2 ns vs) := H2.out.below HB; clear HB; obtain ⟨g1, c0, c1, f0, f1⟩ := H3.out.v.c; obtain ⟨p0, p1, p2, p3, p4⟩ := H3.out.t.cel; have hp := H3.out.t.cel.lt)
    | (go_at_call 11; refine (HA.out _ H3.out.t.tin H3.out.v.v).mono ?_; rintro e w4 ⟨rfl, HB⟩; have H4 : Hid (Below w.heap.size w (w4.alloc (.cells #[.bool false, .int .i64 0] 32))) := (H3.out.below HB).low.alloc (H3.out.below HB).low.size _; clear HB))
  all_goals (
    go_ret
    exact ⟨rfl, HD.out⟩)
set_option maxRecDepth 100000 in
set_option maxHeartbeats 1200000 in
theorem typed_bad12 (t : Tr) (k n : Int) (s : ByteArray) (a : Option Addr) (l c : Nat) (v : Value) (ns : List ByteArray) (vs : List Int) (w : World) (hT : Tin w t k n s a l c) (hV : Vin w v ns vs) (tb : Bool)
    (hC : ∀ w, Vin w v ns vs → Calls Try.prog 15 #[v] w fun e w' => e = .returned (.int .i64 0) ∧ Below w.heap.size w w') (hU : ∀ w, Tin w t k n s a l c → Calls Try.prog 16 #[.agg #[.int .i64 k, .int .i64 n, .string s, .slice a l c]] w fun e w' => e = .returned (.tuple #[.bool tb, .int .i64 0]) ∧ Below w.heap.size w w') (hA : ∀ w, Tin w t k n s a l c → Vin w v ns vs → Calls Try.prog 11 #[.agg #[.int .i64 k, .int .i64 n, .string s, .slice a l c], v] w fun e w' => e = .returned (.tuple #[.agg #[.bool false, .int .i64 0], .int .i64 12]) ∧ Below w.heap.size w w') :
    Calls Try.prog 5 #[.agg #[.int .i64 k, .int .i64 n, .string s, .slice a l c], v] w fun e w' => e = .returned (.bool true) ∧ Below w.heap.size w w' := by
  have HL : Hid (∀ w, Tin w t k n s a l c → Vin w v ns vs → Calls Try.prog 9 #[.agg #[.int .i64 k, .int .i64 n, .string s, .slice a l c], v] w (SomeB w)) := fun w h1 h2 => light_any t k n s a l c v ns vs w h1 h2
  have HW : Hid (∀ w, Calls Try.prog 10 #[] w fun e w' => e = .returned (.bool true) ∧ Below w.heap.size w w') := works_any
  have HC : Hid (∀ w, Vin w v ns vs → Calls Try.prog 15 #[v] w fun e w' => e = .returned (.int .i64 0) ∧ Below w.heap.size w w') := hC
  have HU : Hid (∀ w, Tin w t k n s a l c → Calls Try.prog 16 #[.agg #[.int .i64 k, .int .i64 n, .string s, .slice a l c]] w fun e w' => e = .returned (.tuple #[.bool tb, .int .i64 0]) ∧ Below w.heap.size w w') := hU
  have HA : Hid (∀ w, Tin w t k n s a l c → Vin w v ns vs → Calls Try.prog 11 #[.agg #[.int .i64 k, .int .i64 n, .string s, .slice a l c], v] w fun e w' => e = .returned (.tuple #[.agg #[.bool false, .int .i64 0], .int .i64 12]) ∧ Below w.heap.size w w') := hA
  clear hC hU hA
  obtain ⟨a1, n1, k1, a2, n2, k2, rfl⟩ := hV.form
  have HO : Hid (Own2 w _ t k n s a l c a1 n1 k1 a2 n2 k2 ns vs) := Own2.new hT hV
  clear hT hV
  go_enter Try.func5, Try.ntmps5
  go_wp2_with (first
    | (go_at_call 9; refine (HL.out _ HO.out.t.tin HO.out.v.v).mono ?_; rintro e w1 ⟨lb, rfl, HB⟩; have H1 : Hid (Own2 w w1 t k n s a l c a1 n1 k1 a2 n2 k2 ns vs) := HO.out.below HB; clear HB; obtain ⟨g1, c0, c1, f0, f1⟩ := H1.out.v.c; obtain ⟨p0, p1, p2, p3, p4⟩ := H1.out.t.cel; have hp := H1.out.t.cel.lt; cases lb)
    | (go_at_call 10; have := H4; refine (HW.out _).mono ?_; rintro e wz ⟨rfl, HB⟩; have HD : Hid (Below w.heap.size w wz) := (H4.out).trans (HB.mono (H4.out).size); clear HB)
    | (go_at_call 10; have := H2; refine (HW.out _).mono ?_; rintro e wz ⟨rfl, HB⟩; have HD : Hid (Below w.heap.size w wz) := (H2.out.low).trans (HB.mono (H2.out.low).size); clear HB)
    | (go_at_call 10; have := H1; refine (HW.out _).mono ?_; rintro e wz ⟨rfl, HB⟩; have HD : Hid (Below w.heap.size w wz) := (H1.out.low).trans (HB.mono (H1.out.low).size); clear HB)
    | (go_at_call 15; refine (HC.out _ H1.out.v.v).mono ?_; rintro e w2 ⟨rfl, HB⟩; have H2 : Hid (Own2 w w2 t k n s a l c a1 n1 k1 a2 n2 k2 ns vs) := H1.out.below HB; clear HB; obtain ⟨g1, c0, c1, f0, f1⟩ := H2.out.v.c; obtain ⟨p0, p1, p2, p3, p4⟩ := H2.out.t.cel; have hp := H2.out.t.cel.lt)
    | (go_at_call 16; refine (HU.out _ H2.out.t.tin).mono ?_; rintro e w3 ⟨rfl, HB⟩; have H3 : Hid (Own2 w w3 t k n s a l c a1 n1 k1 a2 n2 k2 ns vs) := H2.out.below HB; clear HB; obtain ⟨g1, c0, c1, f0, f1⟩ := H3.out.v.c; obtain ⟨p0, p1, p2, p3, p4⟩ := H3.out.t.cel; have hp := H3.out.t.cel.lt)
    | (go_at_call 11; refine (HA.out _ H3.out.t.tin H3.out.v.v).mono ?_; rintro e w4 ⟨rfl, HB⟩; have H4 : Hid (Below w.heap.size w (w4.alloc (.cells #[.bool false, .int .i64 0] 32))) := (H3.out.below HB).low.alloc (H3.out.below HB).low.size _; clear HB))
  all_goals (
    go_ret
    exact ⟨rfl, HD.out⟩)
set_option maxRecDepth 100000 in
set_option maxHeartbeats 1200000 in
theorem typed_bad13 (t : Tr) (k n : Int) (s : ByteArray) (a : Option Addr) (l c : Nat) (v : Value) (ns : List ByteArray) (vs : List Int) (w : World) (hT : Tin w t k n s a l c) (hV : Vin w v ns vs) (tb : Bool)
    (hC : ∀ w, Vin w v ns vs → Calls Try.prog 15 #[v] w fun e w' => e = .returned (.int .i64 0) ∧ Below w.heap.size w w') (hU : ∀ w, Tin w t k n s a l c → Calls Try.prog 16 #[.agg #[.int .i64 k, .int .i64 n, .string s, .slice a l c]] w fun e w' => e = .returned (.tuple #[.bool tb, .int .i64 0]) ∧ Below w.heap.size w w') (hA : ∀ w, Tin w t k n s a l c → Vin w v ns vs → Calls Try.prog 11 #[.agg #[.int .i64 k, .int .i64 n, .string s, .slice a l c], v] w fun e w' => e = .returned (.tuple #[.agg #[.bool false, .int .i64 0], .int .i64 13]) ∧ Below w.heap.size w w') :
    Calls Try.prog 5 #[.agg #[.int .i64 k, .int .i64 n, .string s, .slice a l c], v] w fun e w' => e = .returned (.bool true) ∧ Below w.heap.size w w' := by
  have HL : Hid (∀ w, Tin w t k n s a l c → Vin w v ns vs → Calls Try.prog 9 #[.agg #[.int .i64 k, .int .i64 n, .string s, .slice a l c], v] w (SomeB w)) := fun w h1 h2 => light_any t k n s a l c v ns vs w h1 h2
  have HW : Hid (∀ w, Calls Try.prog 10 #[] w fun e w' => e = .returned (.bool true) ∧ Below w.heap.size w w') := works_any
  have HC : Hid (∀ w, Vin w v ns vs → Calls Try.prog 15 #[v] w fun e w' => e = .returned (.int .i64 0) ∧ Below w.heap.size w w') := hC
  have HU : Hid (∀ w, Tin w t k n s a l c → Calls Try.prog 16 #[.agg #[.int .i64 k, .int .i64 n, .string s, .slice a l c]] w fun e w' => e = .returned (.tuple #[.bool tb, .int .i64 0]) ∧ Below w.heap.size w w') := hU
  have HA : Hid (∀ w, Tin w t k n s a l c → Vin w v ns vs → Calls Try.prog 11 #[.agg #[.int .i64 k, .int .i64 n, .string s, .slice a l c], v] w fun e w' => e = .returned (.tuple #[.agg #[.bool false, .int .i64 0], .int .i64 13]) ∧ Below w.heap.size w w') := hA
  clear hC hU hA
  obtain ⟨a1, n1, k1, a2, n2, k2, rfl⟩ := hV.form
  have HO : Hid (Own2 w _ t k n s a l c a1 n1 k1 a2 n2 k2 ns vs) := Own2.new hT hV
  clear hT hV
  go_enter Try.func5, Try.ntmps5
  go_wp2_with (first
    | (go_at_call 9; refine (HL.out _ HO.out.t.tin HO.out.v.v).mono ?_; rintro e w1 ⟨lb, rfl, HB⟩; have H1 : Hid (Own2 w w1 t k n s a l c a1 n1 k1 a2 n2 k2 ns vs) := HO.out.below HB; clear HB; obtain ⟨g1, c0, c1, f0, f1⟩ := H1.out.v.c; obtain ⟨p0, p1, p2, p3, p4⟩ := H1.out.t.cel; have hp := H1.out.t.cel.lt; cases lb)
    | (go_at_call 10; have := H4; refine (HW.out _).mono ?_; rintro e wz ⟨rfl, HB⟩; have HD : Hid (Below w.heap.size w wz) := (H4.out).trans (HB.mono (H4.out).size); clear HB)
    | (go_at_call 10; have := H2; refine (HW.out _).mono ?_; rintro e wz ⟨rfl, HB⟩; have HD : Hid (Below w.heap.size w wz) := (H2.out.low).trans (HB.mono (H2.out.low).size); clear HB)
    | (go_at_call 10; have := H1; refine (HW.out _).mono ?_; rintro e wz ⟨rfl, HB⟩; have HD : Hid (Below w.heap.size w wz) := (H1.out.low).trans (HB.mono (H1.out.low).size); clear HB)
    | (go_at_call 15; refine (HC.out _ H1.out.v.v).mono ?_; rintro e w2 ⟨rfl, HB⟩; have H2 : Hid (Own2 w w2 t k n s a l c a1 n1 k1 a2 n2 k2 ns vs) := H1.out.below HB; clear HB; obtain ⟨g1, c0, c1, f0, f1⟩ := H2.out.v.c; obtain ⟨p0, p1, p2, p3, p4⟩ := H2.out.t.cel; have hp := H2.out.t.cel.lt)
    | (go_at_call 16; refine (HU.out _ H2.out.t.tin).mono ?_; rintro e w3 ⟨rfl, HB⟩; have H3 : Hid (Own2 w w3 t k n s a l c a1 n1 k1 a2 n2 k2 ns vs) := H2.out.below HB; clear HB; obtain ⟨g1, c0, c1, f0, f1⟩ := H3.out.v.c; obtain ⟨p0, p1, p2, p3, p4⟩ := H3.out.t.cel; have hp := H3.out.t.cel.lt)
    | (go_at_call 11; refine (HA.out _ H3.out.t.tin H3.out.v.v).mono ?_; rintro e w4 ⟨rfl, HB⟩; have H4 : Hid (Below w.heap.size w (w4.alloc (.cells #[.bool false, .int .i64 0] 32))) := (H3.out.below HB).low.alloc (H3.out.below HB).low.size _; clear HB))
  all_goals (
    go_ret
    exact ⟨rfl, HD.out⟩)
set_option maxRecDepth 100000 in
set_option maxHeartbeats 1200000 in
theorem typed_num (t : Tr) (k n : Int) (s : ByteArray) (a : Option Addr) (l c : Nat) (v : Value) (ns : List ByteArray) (vs : List Int) (w : World) (hT : Tin w t k n s a l c) (hV : Vin w v ns vs) (rn : Int)
    (hC : ∀ w, Vin w v ns vs → Calls Try.prog 15 #[v] w fun e w' => e = .returned (.int .i64 0) ∧ Below w.heap.size w w') (hU : ∀ w, Tin w t k n s a l c → Calls Try.prog 16 #[.agg #[.int .i64 k, .int .i64 n, .string s, .slice a l c]] w fun e w' => e = .returned (.tuple #[.bool false, .int .i64 0]) ∧ Below w.heap.size w w') (hA : ∀ w, Tin w t k n s a l c → Vin w v ns vs → Calls Try.prog 11 #[.agg #[.int .i64 k, .int .i64 n, .string s, .slice a l c], v] w fun e w' => e = .returned (.tuple #[.agg #[.bool false, .int .i64 rn], .int .i64 0]) ∧ Below w.heap.size w w') :
    Calls Try.prog 5 #[.agg #[.int .i64 k, .int .i64 n, .string s, .slice a l c], v] w fun e w' => e = .returned (.bool true) ∧ Below w.heap.size w w' := by
  have HL : Hid (∀ w, Tin w t k n s a l c → Vin w v ns vs → Calls Try.prog 9 #[.agg #[.int .i64 k, .int .i64 n, .string s, .slice a l c], v] w (SomeB w)) := fun w h1 h2 => light_any t k n s a l c v ns vs w h1 h2
  have HW : Hid (∀ w, Calls Try.prog 10 #[] w fun e w' => e = .returned (.bool true) ∧ Below w.heap.size w w') := works_any
  have HC : Hid (∀ w, Vin w v ns vs → Calls Try.prog 15 #[v] w fun e w' => e = .returned (.int .i64 0) ∧ Below w.heap.size w w') := hC
  have HU : Hid (∀ w, Tin w t k n s a l c → Calls Try.prog 16 #[.agg #[.int .i64 k, .int .i64 n, .string s, .slice a l c]] w fun e w' => e = .returned (.tuple #[.bool false, .int .i64 0]) ∧ Below w.heap.size w w') := hU
  have HA : Hid (∀ w, Tin w t k n s a l c → Vin w v ns vs → Calls Try.prog 11 #[.agg #[.int .i64 k, .int .i64 n, .string s, .slice a l c], v] w fun e w' => e = .returned (.tuple #[.agg #[.bool false, .int .i64 rn], .int .i64 0]) ∧ Below w.heap.size w w') := hA
  clear hC hU hA
  obtain ⟨a1, n1, k1, a2, n2, k2, rfl⟩ := hV.form
  have HO : Hid (Own2 w _ t k n s a l c a1 n1 k1 a2 n2 k2 ns vs) := Own2.new hT hV
  clear hT hV
  go_enter Try.func5, Try.ntmps5
  go_wp2_with (first
    | (go_at_call 9; refine (HL.out _ HO.out.t.tin HO.out.v.v).mono ?_; rintro e w1 ⟨lb, rfl, HB⟩; have H1 : Hid (Own2 w w1 t k n s a l c a1 n1 k1 a2 n2 k2 ns vs) := HO.out.below HB; clear HB; obtain ⟨g1, c0, c1, f0, f1⟩ := H1.out.v.c; obtain ⟨p0, p1, p2, p3, p4⟩ := H1.out.t.cel; have hp := H1.out.t.cel.lt; cases lb)
    | (go_at_call 10; have := H4; refine (HW.out _).mono ?_; rintro e wz ⟨rfl, HB⟩; have HD : Hid (Below w.heap.size w wz) := (H4.out).trans (HB.mono (H4.out).size); clear HB)
    | (go_at_call 10; have := H2; refine (HW.out _).mono ?_; rintro e wz ⟨rfl, HB⟩; have HD : Hid (Below w.heap.size w wz) := (H2.out.low).trans (HB.mono (H2.out.low).size); clear HB)
    | (go_at_call 10; have := H1; refine (HW.out _).mono ?_; rintro e wz ⟨rfl, HB⟩; have HD : Hid (Below w.heap.size w wz) := (H1.out.low).trans (HB.mono (H1.out.low).size); clear HB)
    | (go_at_call 15; refine (HC.out _ H1.out.v.v).mono ?_; rintro e w2 ⟨rfl, HB⟩; have H2 : Hid (Own2 w w2 t k n s a l c a1 n1 k1 a2 n2 k2 ns vs) := H1.out.below HB; clear HB; obtain ⟨g1, c0, c1, f0, f1⟩ := H2.out.v.c; obtain ⟨p0, p1, p2, p3, p4⟩ := H2.out.t.cel; have hp := H2.out.t.cel.lt)
    | (go_at_call 16; refine (HU.out _ H2.out.t.tin).mono ?_; rintro e w3 ⟨rfl, HB⟩; have H3 : Hid (Own2 w w3 t k n s a l c a1 n1 k1 a2 n2 k2 ns vs) := H2.out.below HB; clear HB; obtain ⟨g1, c0, c1, f0, f1⟩ := H3.out.v.c; obtain ⟨p0, p1, p2, p3, p4⟩ := H3.out.t.cel; have hp := H3.out.t.cel.lt)
    | (go_at_call 11; refine (HA.out _ H3.out.t.tin H3.out.v.v).mono ?_; rintro e w4 ⟨rfl, HB⟩; have H4 : Hid (Below w.heap.size w (w4.alloc (.cells #[.bool false, .int .i64 rn] 32))) := (H3.out.below HB).low.alloc (H3.out.below HB).low.size _; clear HB))
  all_goals (
    go_ret
    exact ⟨rfl, HD.out⟩)
set_option maxRecDepth 100000 in
set_option maxHeartbeats 1200000 in
theorem typed_tru0 (t : Tr) (k n : Int) (s : ByteArray) (a : Option Addr) (l c : Nat) (v : Value) (ns : List ByteArray) (vs : List Int) (w : World) (hT : Tin w t k n s a l c) (hV : Vin w v ns vs) 
    (hC : ∀ w, Vin w v ns vs → Calls Try.prog 15 #[v] w fun e w' => e = .returned (.int .i64 0) ∧ Below w.heap.size w w') (hU : ∀ w, Tin w t k n s a l c → Calls Try.prog 16 #[.agg #[.int .i64 k, .int .i64 n, .string s, .slice a l c]] w fun e w' => e = .returned (.tuple #[.bool true, .int .i64 0]) ∧ Below w.heap.size w w') (hA : ∀ w, Tin w t k n s a l c → Vin w v ns vs → Calls Try.prog 11 #[.agg #[.int .i64 k, .int .i64 n, .string s, .slice a l c], v] w fun e w' => e = .returned (.tuple #[.agg #[.bool true, .int .i64 0], .int .i64 0]) ∧ Below w.heap.size w w') :
    Calls Try.prog 5 #[.agg #[.int .i64 k, .int .i64 n, .string s, .slice a l c], v] w fun e w' => e = .returned (.bool true) ∧ Below w.heap.size w w' := by
  have HL : Hid (∀ w, Tin w t k n s a l c → Vin w v ns vs → Calls Try.prog 9 #[.agg #[.int .i64 k, .int .i64 n, .string s, .slice a l c], v] w (SomeB w)) := fun w h1 h2 => light_any t k n s a l c v ns vs w h1 h2
  have HW : Hid (∀ w, Calls Try.prog 10 #[] w fun e w' => e = .returned (.bool true) ∧ Below w.heap.size w w') := works_any
  have HC : Hid (∀ w, Vin w v ns vs → Calls Try.prog 15 #[v] w fun e w' => e = .returned (.int .i64 0) ∧ Below w.heap.size w w') := hC
  have HU : Hid (∀ w, Tin w t k n s a l c → Calls Try.prog 16 #[.agg #[.int .i64 k, .int .i64 n, .string s, .slice a l c]] w fun e w' => e = .returned (.tuple #[.bool true, .int .i64 0]) ∧ Below w.heap.size w w') := hU
  have HA : Hid (∀ w, Tin w t k n s a l c → Vin w v ns vs → Calls Try.prog 11 #[.agg #[.int .i64 k, .int .i64 n, .string s, .slice a l c], v] w fun e w' => e = .returned (.tuple #[.agg #[.bool true, .int .i64 0], .int .i64 0]) ∧ Below w.heap.size w w') := hA
  clear hC hU hA
  obtain ⟨a1, n1, k1, a2, n2, k2, rfl⟩ := hV.form
  have HO : Hid (Own2 w _ t k n s a l c a1 n1 k1 a2 n2 k2 ns vs) := Own2.new hT hV
  clear hT hV
  go_enter Try.func5, Try.ntmps5
  go_wp2_with (first
    | (go_at_call 9; refine (HL.out _ HO.out.t.tin HO.out.v.v).mono ?_; rintro e w1 ⟨lb, rfl, HB⟩; have H1 : Hid (Own2 w w1 t k n s a l c a1 n1 k1 a2 n2 k2 ns vs) := HO.out.below HB; clear HB; obtain ⟨g1, c0, c1, f0, f1⟩ := H1.out.v.c; obtain ⟨p0, p1, p2, p3, p4⟩ := H1.out.t.cel; have hp := H1.out.t.cel.lt; cases lb)
    | (go_at_call 10; have := H4; refine (HW.out _).mono ?_; rintro e wz ⟨rfl, HB⟩; have HD : Hid (Below w.heap.size w wz) := (H4.out).trans (HB.mono (H4.out).size); clear HB)
    | (go_at_call 10; have := H2; refine (HW.out _).mono ?_; rintro e wz ⟨rfl, HB⟩; have HD : Hid (Below w.heap.size w wz) := (H2.out.low).trans (HB.mono (H2.out.low).size); clear HB)
    | (go_at_call 10; have := H1; refine (HW.out _).mono ?_; rintro e wz ⟨rfl, HB⟩; have HD : Hid (Below w.heap.size w wz) := (H1.out.low).trans (HB.mono (H1.out.low).size); clear HB)
    | (go_at_call 15; refine (HC.out _ H1.out.v.v).mono ?_; rintro e w2 ⟨rfl, HB⟩; have H2 : Hid (Own2 w w2 t k n s a l c a1 n1 k1 a2 n2 k2 ns vs) := H1.out.below HB; clear HB; obtain ⟨g1, c0, c1, f0, f1⟩ := H2.out.v.c; obtain ⟨p0, p1, p2, p3, p4⟩ := H2.out.t.cel; have hp := H2.out.t.cel.lt)
    | (go_at_call 16; refine (HU.out _ H2.out.t.tin).mono ?_; rintro e w3 ⟨rfl, HB⟩; have H3 : Hid (Own2 w w3 t k n s a l c a1 n1 k1 a2 n2 k2 ns vs) := H2.out.below HB; clear HB; obtain ⟨g1, c0, c1, f0, f1⟩ := H3.out.v.c; obtain ⟨p0, p1, p2, p3, p4⟩ := H3.out.t.cel; have hp := H3.out.t.cel.lt)
    | (go_at_call 11; refine (HA.out _ H3.out.t.tin H3.out.v.v).mono ?_; rintro e w4 ⟨rfl, HB⟩; have H4 : Hid (Below w.heap.size w (w4.alloc (.cells #[.bool true, .int .i64 0] 32))) := (H3.out.below HB).low.alloc (H3.out.below HB).low.size _; clear HB))
  all_goals (
    go_ret
    exact ⟨rfl, HD.out⟩)
set_option maxRecDepth 100000 in
set_option maxHeartbeats 1200000 in
theorem typed_tru1 (t : Tr) (k n : Int) (s : ByteArray) (a : Option Addr) (l c : Nat) (v : Value) (ns : List ByteArray) (vs : List Int) (w : World) (hT : Tin w t k n s a l c) (hV : Vin w v ns vs) 
    (hC : ∀ w, Vin w v ns vs → Calls Try.prog 15 #[v] w fun e w' => e = .returned (.int .i64 0) ∧ Below w.heap.size w w') (hU : ∀ w, Tin w t k n s a l c → Calls Try.prog 16 #[.agg #[.int .i64 k, .int .i64 n, .string s, .slice a l c]] w fun e w' => e = .returned (.tuple #[.bool true, .int .i64 0]) ∧ Below w.heap.size w w') (hA : ∀ w, Tin w t k n s a l c → Vin w v ns vs → Calls Try.prog 11 #[.agg #[.int .i64 k, .int .i64 n, .string s, .slice a l c], v] w fun e w' => e = .returned (.tuple #[.agg #[.bool true, .int .i64 1], .int .i64 0]) ∧ Below w.heap.size w w') :
    Calls Try.prog 5 #[.agg #[.int .i64 k, .int .i64 n, .string s, .slice a l c], v] w fun e w' => e = .returned (.bool true) ∧ Below w.heap.size w w' := by
  have HL : Hid (∀ w, Tin w t k n s a l c → Vin w v ns vs → Calls Try.prog 9 #[.agg #[.int .i64 k, .int .i64 n, .string s, .slice a l c], v] w (SomeB w)) := fun w h1 h2 => light_any t k n s a l c v ns vs w h1 h2
  have HW : Hid (∀ w, Calls Try.prog 10 #[] w fun e w' => e = .returned (.bool true) ∧ Below w.heap.size w w') := works_any
  have HC : Hid (∀ w, Vin w v ns vs → Calls Try.prog 15 #[v] w fun e w' => e = .returned (.int .i64 0) ∧ Below w.heap.size w w') := hC
  have HU : Hid (∀ w, Tin w t k n s a l c → Calls Try.prog 16 #[.agg #[.int .i64 k, .int .i64 n, .string s, .slice a l c]] w fun e w' => e = .returned (.tuple #[.bool true, .int .i64 0]) ∧ Below w.heap.size w w') := hU
  have HA : Hid (∀ w, Tin w t k n s a l c → Vin w v ns vs → Calls Try.prog 11 #[.agg #[.int .i64 k, .int .i64 n, .string s, .slice a l c], v] w fun e w' => e = .returned (.tuple #[.agg #[.bool true, .int .i64 1], .int .i64 0]) ∧ Below w.heap.size w w') := hA
  clear hC hU hA
  obtain ⟨a1, n1, k1, a2, n2, k2, rfl⟩ := hV.form
  have HO : Hid (Own2 w _ t k n s a l c a1 n1 k1 a2 n2 k2 ns vs) := Own2.new hT hV
  clear hT hV
  go_enter Try.func5, Try.ntmps5
  go_wp2_with (first
    | (go_at_call 9; refine (HL.out _ HO.out.t.tin HO.out.v.v).mono ?_; rintro e w1 ⟨lb, rfl, HB⟩; have H1 : Hid (Own2 w w1 t k n s a l c a1 n1 k1 a2 n2 k2 ns vs) := HO.out.below HB; clear HB; obtain ⟨g1, c0, c1, f0, f1⟩ := H1.out.v.c; obtain ⟨p0, p1, p2, p3, p4⟩ := H1.out.t.cel; have hp := H1.out.t.cel.lt; cases lb)
    | (go_at_call 10; have := H4; refine (HW.out _).mono ?_; rintro e wz ⟨rfl, HB⟩; have HD : Hid (Below w.heap.size w wz) := (H4.out).trans (HB.mono (H4.out).size); clear HB)
    | (go_at_call 10; have := H2; refine (HW.out _).mono ?_; rintro e wz ⟨rfl, HB⟩; have HD : Hid (Below w.heap.size w wz) := (H2.out.low).trans (HB.mono (H2.out.low).size); clear HB)
    | (go_at_call 10; have := H1; refine (HW.out _).mono ?_; rintro e wz ⟨rfl, HB⟩; have HD : Hid (Below w.heap.size w wz) := (H1.out.low).trans (HB.mono (H1.out.low).size); clear HB)
    | (go_at_call 15; refine (HC.out _ H1.out.v.v).mono ?_; rintro e w2 ⟨rfl, HB⟩; have H2 : Hid (Own2 w w2 t k n s a l c a1 n1 k1 a2 n2 k2 ns vs) := H1.out.below HB; clear HB; obtain ⟨g1, c0, c1, f0, f1⟩ := H2.out.v.c; obtain ⟨p0, p1, p2, p3, p4⟩ := H2.out.t.cel; have hp := H2.out.t.cel.lt)
    | (go_at_call 16; refine (HU.out _ H2.out.t.tin).mono ?_; rintro e w3 ⟨rfl, HB⟩; have H3 : Hid (Own2 w w3 t k n s a l c a1 n1 k1 a2 n2 k2 ns vs) := H2.out.below HB; clear HB; obtain ⟨g1, c0, c1, f0, f1⟩ := H3.out.v.c; obtain ⟨p0, p1, p2, p3, p4⟩ := H3.out.t.cel; have hp := H3.out.t.cel.lt)
    | (go_at_call 11; refine (HA.out _ H3.out.t.tin H3.out.v.v).mono ?_; rintro e w4 ⟨rfl, HB⟩; have H4 : Hid (Below w.heap.size w (w4.alloc (.cells #[.bool true, .int .i64 1] 32))) := (H3.out.below HB).low.alloc (H3.out.below HB).low.size _; clear HB))
  all_goals (
    go_ret
    exact ⟨rfl, HD.out⟩)
theorem evalTyped_walk (t : Tr) (k n : Int) (s : ByteArray) (a : Option Addr) (l c : Nat) (v : Value) (ns : List ByteArray) (vs : List Int) (w : World) (hT : Tin w t k n s a l c) (hV : Vin w v ns vs) : Calls Try.prog 5 #[.agg #[.int .i64 k, .int .i64 n, .string s, .slice a l c], v] w fun e w' => e = .returned (.bool true) ∧ Below w.heap.size w w' := by
  have hC : ∀ w, Vin w v ns vs → Calls Try.prog 15 #[v] w fun e w' => e = .returned (.int .i64 (V.chk ns vs : Nat)) ∧ Below w.heap.size w w' := fun w h => V.rCheck_any ns vs v w h.rd h.sz
  have hU : ∀ w, Tin w t k n s a l c → Calls Try.prog 16 #[.agg #[.int .i64 k, .int .i64 n, .string s, .slice a l c]] w fun e w' => e = .returned (.tuple #[.bool (truthM t).1, .int .i64 ((truthM t).2 : Nat)]) ∧ Below w.heap.size w w' := fun w h => RTruth_in h
  have hA : ∀ w, Tin w t k n s a l c → Vin w v ns vs → Calls Try.prog 11 #[.agg #[.int .i64 k, .int .i64 n, .string s, .slice a l c], v] w (EvP (ofM (envN ns vs) (V.chk ns vs) t) w) := fun w h1 h2 => of_any t k n s a l c v ns vs w h1 h2
  by_cases hck : V.chk ns vs = 0
  · rw [hck] at hC hA
    by_cases hte : (truthM t).2 = 0
    · obtain ⟨P, hTre⟩ := hT.tre
      obtain ⟨c1, c2⟩ := truth_typed hte
      have F := ev_fine (envN ns vs) (envN_in hV.num) 16 t c1 c2 (tre_nums hTre 16)
      have e1 : ofM (envN ns vs) 0 t = evM (envN ns vs) 16 t := by unfold ofM; rw [if_neg (by omega), if_neg (by decide)]
      rw [e1] at hA
      rw [truth_is hte, hte] at hU
      generalize evM (envN ns vs) 16 t = r at *
      generalize truthK t.kind = tb at *
      by_cases h0 : r.e = 0
      · have ht := F.type h0
        have hn := F.truth h0
        obtain ⟨rb, rn, re⟩ := r
        simp only at h0 ht hn
        subst h0
        subst ht
        cases rb with
        | false => exact typed_num t k n s a l c v ns vs w hT hV rn hC hU hA
        | true =>
          rcases hn rfl with rfl | rfl
          · exact typed_tru0 t k n s a l c v ns vs w hT hV hC hU hA
          · exact typed_tru1 t k n s a l c v ns vs w hT hV hC hU hA
      · obtain ⟨e2, h3⟩ := F.bad h0
        rw [e2] at hA
        rcases h3 with h3 | h3 | h3 <;> rw [h3] at hA
        · exact typed_bad9 t k n s a l c v ns vs w hT hV tb hC hU hA
        · exact typed_bad12 t k n s a l c v ns vs w hT hV tb hC hU hA
        · exact typed_bad13 t k n s a l c v ns vs w hT hV tb hC hU hA
    · have e1 : ofM (envN ns vs) 0 t = errV (truthM t).2 := by unfold ofM; rw [if_pos hte]
      rw [e1] at hA
      exact typed_err t k n s a l c v ns vs w hT hV (truthM t).2 _ false 0 hte hC hU hA
  · exact typed_ck t k n s a l c v ns vs w hT hV (V.chk ns vs) (truthM t).2 _ _ _ _ hck hC hU hA
set_option maxRecDepth 100000 in
set_option maxHeartbeats 1200000 in
theorem folds_err (t : Tr) (k n : Int) (s : ByteArray) (a : Option Addr) (l c : Nat) (v : Value) (ns : List ByteArray) (vs : List Int) (w : World) (hT : Tin w t k n s a l c) (hV : Vin w v ns vs) (f : Tr) (fe : Nat) (rb : Bool) (rn : Int) (re : Nat) (h0 : fe ≠ 0)
    (hF : ∀ w, Tin w t k n s a l c → Calls Try.prog 17 #[.agg #[.int .i64 k, .int .i64 n, .string s, .slice a l c]] w (NPost w f fe)) (hA : ∀ w, Tin w t k n s a l c → Vin w v ns vs → Calls Try.prog 11 #[.agg #[.int .i64 k, .int .i64 n, .string s, .slice a l c], v] w fun e w' => e = .returned (.tuple #[.agg #[.bool rb, .int .i64 rn], .int .i64 (re : Nat)]) ∧ Below w.heap.size w w') (hB : ∀ yk yn ys ya yl yc w, Tin w f yk yn ys ya yl yc → Vin w v ns vs → Calls Try.prog 11 #[.agg #[.int .i64 yk, .int .i64 yn, .string ys, .slice ya yl yc], v] w fun e w' => fe = 0 → ((re : Nat) : Int) = 0 → e = .returned (.tuple #[.agg #[.bool rb, .int .i64 rn], .int .i64 0]) ∧ Below w.heap.size w w') :
    Calls Try.prog 6 #[.agg #[.int .i64 k, .int .i64 n, .string s, .slice a l c], v] w fun e w' => e = .returned (.bool true) ∧ Below w.heap.size w w' := by
  have HL : Hid (∀ w, Tin w t k n s a l c → Vin w v ns vs → Calls Try.prog 9 #[.agg #[.int .i64 k, .int .i64 n, .string s, .slice a l c], v] w (SomeB w)) := fun w h1 h2 => light_any t k n s a l c v ns vs w h1 h2
  have HW : Hid (∀ w, Calls Try.prog 10 #[] w fun e w' => e = .returned (.bool true) ∧ Below w.heap.size w w') := works_any
  have HF : Hid (∀ w, Tin w t k n s a l c → Calls Try.prog 17 #[.agg #[.int .i64 k, .int .i64 n, .string s, .slice a l c]] w (NPost w f fe)) := hF
  have HA : Hid (∀ w, Tin w t k n s a l c → Vin w v ns vs → Calls Try.prog 11 #[.agg #[.int .i64 k, .int .i64 n, .string s, .slice a l c], v] w fun e w' => e = .returned (.tuple #[.agg #[.bool rb, .int .i64 rn], .int .i64 (re : Nat)]) ∧ Below w.heap.size w w') := hA
  have HB2 : Hid (∀ yk yn ys ya yl yc w, Tin w f yk yn ys ya yl yc → Vin w v ns vs → Calls Try.prog 11 #[.agg #[.int .i64 yk, .int .i64 yn, .string ys, .slice ya yl yc], v] w fun e w' => fe = 0 → ((re : Nat) : Int) = 0 → e = .returned (.tuple #[.agg #[.bool rb, .int .i64 rn], .int .i64 0]) ∧ Below w.heap.size w w') := hB
  clear hF hA hB
  obtain ⟨a1, n1, k1, a2, n2, k2, rfl⟩ := hV.form
  have HO : Hid (Own2 w _ t k n s a l c a1 n1 k1 a2 n2 k2 ns vs) := Own2.new hT hV
  clear hT hV
  have hz := nz h0
  unfold NPost at HF
  go_enter Try.func6, Try.ntmps6
  go_wp2_with (first
    | (go_at_call 9; refine (HL.out _ HO.out.t.tin HO.out.v.v).mono ?_; rintro e w1 ⟨lb, rfl, HB⟩; have H1 : Hid (Own2 w w1 t k n s a l c a1 n1 k1 a2 n2 k2 ns vs) := HO.out.below HB; clear HB; obtain ⟨g1, c0, c1, f0, f1⟩ := H1.out.v.c; obtain ⟨p0, p1, p2, p3, p4⟩ := H1.out.t.cel; have hp := H1.out.t.cel.lt; cases lb)
    | (go_at_call 10; have := H4; refine (HW.out _).mono ?_; rintro e wz ⟨rfl, HB⟩; have HD : Hid (Below w.heap.size w wz) := (H4.out).trans (HB.mono (H4.out).size); clear HB)
    | (go_at_call 10; have := H3; refine (HW.out _).mono ?_; rintro e wz ⟨rfl, HB⟩; have HD : Hid (Below w.heap.size w wz) := (H3a.out).trans (HB.mono (H3a.out).size); clear HB)
    | (go_at_call 10; have := H1; refine (HW.out _).mono ?_; rintro e wz ⟨rfl, HB⟩; have HD : Hid (Below w.heap.size w wz) := (H1.out.low).trans (HB.mono (H1.out.low).size); clear HB)
    | (go_at_call 17; refine (HF.out _ H1.out.t.tin).mono ?_; rintro e w2 ⟨yk, yn, ys, ya, yl, yc, rfl, hy, HB⟩; have H2 : Hid (Own2 w w2 t k n s a l c a1 n1 k1 a2 n2 k2 ns vs ∧ Tin w2 f yk yn ys ya yl yc) := ⟨H1.out.below HB, ⟨_, hy⟩⟩; clear HB hy; obtain ⟨g1, c0, c1, f0, f1⟩ := H2.out.1.v.c; obtain ⟨p0, p1, p2, p3, p4⟩ := H2.out.1.t.cel; have hp := H2.out.1.t.cel.lt)
    | (go_at_call 11; have := H3; refine (HB2.out _ _ _ _ _ _ _ (H3.out.2.tin.below (below_one _ _)) (H3.out.1.alloc _).v.v).mono ?_; intro e w4 hq; obtain ⟨rfl, HB⟩ := hq (by trivial) (by trivial); have H4 : Hid (Below w.heap.size w (w4.alloc (.cells #[.bool rb, .int .i64 rn] 32))) := ((H3.out.1.alloc _).below HB).low.alloc ((H3.out.1.alloc _).below HB).low.size _; have H5 : Hid (V.Two w4 w3.heap.size (.bool rb) (.int .i64 rn)) := (V.Two.new w3 _ _ 32).below HB; clear HB; obtain ⟨g1, c0, c1, f0, f1⟩ := H5.out)
    | (go_at_call 11; refine (HA.out _ (H2.out.1.alloc _).t.tin (H2.out.1.alloc _).v.v).mono ?_; rintro e w3 ⟨rfl, HB⟩; have H3 : Hid (Own2 w w3 t k n s a l c a1 n1 k1 a2 n2 k2 ns vs ∧ WX w3 w2.heap.size f yk yn ys ya yl yc) := ⟨(H2.out.1.alloc _).below HB, WX.below ⟨Cell4.new w2 _ _ _ _ 24, H2.out.2.below (below_one _ _)⟩ HB⟩; have H3a : Hid (Below w.heap.size w (w3.alloc (.cells #[.bool rb, .int .i64 rn] 32))) := H3.out.1.low.alloc H3.out.1.low.size _; clear HB; obtain ⟨g1, c0, c1, f0, f1⟩ := H3.out.1.v.c; obtain ⟨p0, p1, p2, p3, p4⟩ := H3.out.2.cel; have hp := H3.out.2.cel.lt))
  all_goals (
    go_ret
    exact ⟨rfl, HD.out⟩)
set_option maxRecDepth 100000 in
set_option maxHeartbeats 1200000 in
theorem folds_bad (t : Tr) (k n : Int) (s : ByteArray) (a : Option Addr) (l c : Nat) (v : Value) (ns : List ByteArray) (vs : List Int) (w : World) (hT : Tin w t k n s a l c) (hV : Vin w v ns vs) (f : Tr) (rb : Bool) (rn : Int) (re : Nat) (h0 : re ≠ 0)
    (hF : ∀ w, Tin w t k n s a l c → Calls Try.prog 17 #[.agg #[.int .i64 k, .int .i64 n, .string s, .slice a l c]] w (NPost w f 0)) (hA : ∀ w, Tin w t k n s a l c → Vin w v ns vs → Calls Try.prog 11 #[.agg #[.int .i64 k, .int .i64 n, .string s, .slice a l c], v] w fun e w' => e = .returned (.tuple #[.agg #[.bool rb, .int .i64 rn], .int .i64 (re : Nat)]) ∧ Below w.heap.size w w') (hB : ∀ yk yn ys ya yl yc w, Tin w f yk yn ys ya yl yc → Vin w v ns vs → Calls Try.prog 11 #[.agg #[.int .i64 yk, .int .i64 yn, .string ys, .slice ya yl yc], v] w fun e w' => 0 = 0 → ((re : Nat) : Int) = 0 → e = .returned (.tuple #[.agg #[.bool rb, .int .i64 rn], .int .i64 0]) ∧ Below w.heap.size w w') :
    Calls Try.prog 6 #[.agg #[.int .i64 k, .int .i64 n, .string s, .slice a l c], v] w fun e w' => e = .returned (.bool true) ∧ Below w.heap.size w w' := by
  have HL : Hid (∀ w, Tin w t k n s a l c → Vin w v ns vs → Calls Try.prog 9 #[.agg #[.int .i64 k, .int .i64 n, .string s, .slice a l c], v] w (SomeB w)) := fun w h1 h2 => light_any t k n s a l c v ns vs w h1 h2
  have HW : Hid (∀ w, Calls Try.prog 10 #[] w fun e w' => e = .returned (.bool true) ∧ Below w.heap.size w w') := works_any
  have HF : Hid (∀ w, Tin w t k n s a l c → Calls Try.prog 17 #[.agg #[.int .i64 k, .int .i64 n, .string s, .slice a l c]] w (NPost w f 0)) := hF
  have HA : Hid (∀ w, Tin w t k n s a l c → Vin w v ns vs → Calls Try.prog 11 #[.agg #[.int .i64 k, .int .i64 n, .string s, .slice a l c], v] w fun e w' => e = .returned (.tuple #[.agg #[.bool rb, .int .i64 rn], .int .i64 (re : Nat)]) ∧ Below w.heap.size w w') := hA
  have HB2 : Hid (∀ yk yn ys ya yl yc w, Tin w f yk yn ys ya yl yc → Vin w v ns vs → Calls Try.prog 11 #[.agg #[.int .i64 yk, .int .i64 yn, .string ys, .slice ya yl yc], v] w fun e w' => 0 = 0 → ((re : Nat) : Int) = 0 → e = .returned (.tuple #[.agg #[.bool rb, .int .i64 rn], .int .i64 0]) ∧ Below w.heap.size w w') := hB
  clear hF hA hB
  obtain ⟨a1, n1, k1, a2, n2, k2, rfl⟩ := hV.form
  have HO : Hid (Own2 w _ t k n s a l c a1 n1 k1 a2 n2 k2 ns vs) := Own2.new hT hV
  clear hT hV
  have hz := nz h0
  unfold NPost at HF
  go_enter Try.func6, Try.ntmps6
  go_wp2_with (first
    | (go_at_call 9; refine (HL.out _ HO.out.t.tin HO.out.v.v).mono ?_; rintro e w1 ⟨lb, rfl, HB⟩; have H1 : Hid (Own2 w w1 t k n s a l c a1 n1 k1 a2 n2 k2 ns vs) := HO.out.below HB; clear HB; obtain ⟨g1, c0, c1, f0, f1⟩ := H1.out.v.c; obtain ⟨p0, p1, p2, p3, p4⟩ := H1.out.t.cel; have hp := H1.out.t.cel.lt; cases lb)
    | (go_at_call 10; have := H4; refine (HW.out _).mono ?_; rintro e wz ⟨rfl, HB⟩; have HD : Hid (Below w.heap.size w wz) := (H4.out).trans (HB.mono (H4.out).size); clear HB)
    | (go_at_call 10; have := H3; refine (HW.out _).mono ?_; rintro e wz ⟨rfl, HB⟩; have HD : Hid (Below w.heap.size w wz) := (H3a.out).trans (HB.mono (H3a.out).size); clear HB)
    | (go_at_call 10; have := H1; refine (HW.out _).mono ?_; rintro e wz ⟨rfl, HB⟩; have HD : Hid (Below w.heap.size w wz) := (H1.out.low).trans (HB.mono (H1.out.low).size); clear HB)
    | (go_at_call 17; refine (HF.out _ H1.out.t.tin).mono ?_; rintro e w2 ⟨yk, yn, ys, ya, yl, yc, rfl, hy, HB⟩; have H2 : Hid (Own2 w w2 t k n s a l c a1 n1 k1 a2 n2 k2 ns vs ∧ Tin w2 f yk yn ys ya yl yc) := ⟨H1.out.below HB, ⟨_, hy⟩⟩; clear HB hy; obtain ⟨g1, c0, c1, f0, f1⟩ := H2.out.1.v.c; obtain ⟨p0, p1, p2, p3, p4⟩ := H2.out.1.t.cel; have hp := H2.out.1.t.cel.lt)
    | (go_at_call 11; have := H3; refine (HB2.out _ _ _ _ _ _ _ (H3.out.2.tin.below (below_one _ _)) (H3.out.1.alloc _).v.v).mono ?_; intro e w4 hq; obtain ⟨rfl, HB⟩ := hq (by trivial) (by trivial); have H4 : Hid (Below w.heap.size w (w4.alloc (.cells #[.bool rb, .int .i64 rn] 32))) := ((H3.out.1.alloc _).below HB).low.alloc ((H3.out.1.alloc _).below HB).low.size _; have H5 : Hid (V.Two w4 w3.heap.size (.bool rb) (.int .i64 rn)) := (V.Two.new w3 _ _ 32).below HB; clear HB; obtain ⟨g1, c0, c1, f0, f1⟩ := H5.out)
    | (go_at_call 11; refine (HA.out _ (H2.out.1.alloc _).t.tin (H2.out.1.alloc _).v.v).mono ?_; rintro e w3 ⟨rfl, HB⟩; have H3 : Hid (Own2 w w3 t k n s a l c a1 n1 k1 a2 n2 k2 ns vs ∧ WX w3 w2.heap.size f yk yn ys ya yl yc) := ⟨(H2.out.1.alloc _).below HB, WX.below ⟨Cell4.new w2 _ _ _ _ 24, H2.out.2.below (below_one _ _)⟩ HB⟩; have H3a : Hid (Below w.heap.size w (w3.alloc (.cells #[.bool rb, .int .i64 rn] 32))) := H3.out.1.low.alloc H3.out.1.low.size _; clear HB; obtain ⟨g1, c0, c1, f0, f1⟩ := H3.out.1.v.c; obtain ⟨p0, p1, p2, p3, p4⟩ := H3.out.2.cel; have hp := H3.out.2.cel.lt))
  all_goals (
    go_ret
    exact ⟨rfl, HD.out⟩)
set_option maxRecDepth 100000 in
set_option maxHeartbeats 1200000 in
theorem folds_ok (t : Tr) (k n : Int) (s : ByteArray) (a : Option Addr) (l c : Nat) (v : Value) (ns : List ByteArray) (vs : List Int) (w : World) (hT : Tin w t k n s a l c) (hV : Vin w v ns vs) (f : Tr) (rb : Bool) (rn : Int)
    (hF : ∀ w, Tin w t k n s a l c → Calls Try.prog 17 #[.agg #[.int .i64 k, .int .i64 n, .string s, .slice a l c]] w (NPost w f 0)) (hA : ∀ w, Tin w t k n s a l c → Vin w v ns vs → Calls Try.prog 11 #[.agg #[.int .i64 k, .int .i64 n, .string s, .slice a l c], v] w fun e w' => e = .returned (.tuple #[.agg #[.bool rb, .int .i64 rn], .int .i64 0]) ∧ Below w.heap.size w w') (hB : ∀ yk yn ys ya yl yc w, Tin w f yk yn ys ya yl yc → Vin w v ns vs → Calls Try.prog 11 #[.agg #[.int .i64 yk, .int .i64 yn, .string ys, .slice ya yl yc], v] w fun e w' => 0 = 0 → (0 : Int) = 0 → e = .returned (.tuple #[.agg #[.bool rb, .int .i64 rn], .int .i64 0]) ∧ Below w.heap.size w w') :
    Calls Try.prog 6 #[.agg #[.int .i64 k, .int .i64 n, .string s, .slice a l c], v] w fun e w' => e = .returned (.bool true) ∧ Below w.heap.size w w' := by
  have HL : Hid (∀ w, Tin w t k n s a l c → Vin w v ns vs → Calls Try.prog 9 #[.agg #[.int .i64 k, .int .i64 n, .string s, .slice a l c], v] w (SomeB w)) := fun w h1 h2 => light_any t k n s a l c v ns vs w h1 h2
  have HW : Hid (∀ w, Calls Try.prog 10 #[] w fun e w' => e = .returned (.bool true) ∧ Below w.heap.size w w') := works_any
  have HF : Hid (∀ w, Tin w t k n s a l c → Calls Try.prog 17 #[.agg #[.int .i64 k, .int .i64 n, .string s, .slice a l c]] w (NPost w f 0)) := hF
  have HA : Hid (∀ w, Tin w t k n s a l c → Vin w v ns vs → Calls Try.prog 11 #[.agg #[.int .i64 k, .int .i64 n, .string s, .slice a l c], v] w fun e w' => e = .returned (.tuple #[.agg #[.bool rb, .int .i64 rn], .int .i64 0]) ∧ Below w.heap.size w w') := hA
  have HB2 : Hid (∀ yk yn ys ya yl yc w, Tin w f yk yn ys ya yl yc → Vin w v ns vs → Calls Try.prog 11 #[.agg #[.int .i64 yk, .int .i64 yn, .string ys, .slice ya yl yc], v] w fun e w' => 0 = 0 → (0 : Int) = 0 → e = .returned (.tuple #[.agg #[.bool rb, .int .i64 rn], .int .i64 0]) ∧ Below w.heap.size w w') := hB
  clear hF hA hB
  obtain ⟨a1, n1, k1, a2, n2, k2, rfl⟩ := hV.form
  have HO : Hid (Own2 w _ t k n s a l c a1 n1 k1 a2 n2 k2 ns vs) := Own2.new hT hV
  clear hT hV
  unfold NPost at HF
  go_enter Try.func6, Try.ntmps6
  go_wp2_with (first
    | (go_at_call 9; refine (HL.out _ HO.out.t.tin HO.out.v.v).mono ?_; rintro e w1 ⟨lb, rfl, HB⟩; have H1 : Hid (Own2 w w1 t k n s a l c a1 n1 k1 a2 n2 k2 ns vs) := HO.out.below HB; clear HB; obtain ⟨g1, c0, c1, f0, f1⟩ := H1.out.v.c; obtain ⟨p0, p1, p2, p3, p4⟩ := H1.out.t.cel; have hp := H1.out.t.cel.lt; cases lb)
    | (go_at_call 10; have := H4; refine (HW.out _).mono ?_; rintro e wz ⟨rfl, HB⟩; have HD : Hid (Below w.heap.size w wz) := (H4.out).trans (HB.mono (H4.out).size); clear HB)
    | (go_at_call 10; have := H3; refine (HW.out _).mono ?_; rintro e wz ⟨rfl, HB⟩; have HD : Hid (Below w.heap.size w wz) := (H3a.out).trans (HB.mono (H3a.out).size); clear HB)
    | (go_at_call 10; have := H1; refine (HW.out _).mono ?_; rintro e wz ⟨rfl, HB⟩; have HD : Hid (Below w.heap.size w wz) := (H1.out.low).trans (HB.mono (H1.out.low).size); clear HB)
    | (go_at_call 17; refine (HF.out _ H1.out.t.tin).mono ?_; rintro e w2 ⟨yk, yn, ys, ya, yl, yc, rfl, hy, HB⟩; have H2 : Hid (Own2 w w2 t k n s a l c a1 n1 k1 a2 n2 k2 ns vs ∧ Tin w2 f yk yn ys ya yl yc) := ⟨H1.out.below HB, ⟨_, hy⟩⟩; clear HB hy; obtain ⟨g1, c0, c1, f0, f1⟩ := H2.out.1.v.c; obtain ⟨p0, p1, p2, p3, p4⟩ := H2.out.1.t.cel; have hp := H2.out.1.t.cel.lt)
    | (go_at_call 11; have := H3; refine (HB2.out _ _ _ _ _ _ _ (H3.out.2.tin.below (below_one _ _)) (H3.out.1.alloc _).v.v).mono ?_; intro e w4 hq; obtain ⟨rfl, HB⟩ := hq (by trivial) (by trivial); have H4 : Hid (Below w.heap.size w (w4.alloc (.cells #[.bool rb, .int .i64 rn] 32))) := ((H3.out.1.alloc _).below HB).low.alloc ((H3.out.1.alloc _).below HB).low.size _; have H5 : Hid (V.Two w4 w3.heap.size (.bool rb) (.int .i64 rn)) := (V.Two.new w3 _ _ 32).below HB; clear HB; obtain ⟨g1, c0, c1, f0, f1⟩ := H5.out)
    | (go_at_call 11; refine (HA.out _ (H2.out.1.alloc _).t.tin (H2.out.1.alloc _).v.v).mono ?_; rintro e w3 ⟨rfl, HB⟩; have H3 : Hid (Own2 w w3 t k n s a l c a1 n1 k1 a2 n2 k2 ns vs ∧ WX w3 w2.heap.size f yk yn ys ya yl yc) := ⟨(H2.out.1.alloc _).below HB, WX.below ⟨Cell4.new w2 _ _ _ _ 24, H2.out.2.below (below_one _ _)⟩ HB⟩; have H3a : Hid (Below w.heap.size w (w3.alloc (.cells #[.bool rb, .int .i64 rn] 32))) := H3.out.1.low.alloc H3.out.1.low.size _; clear HB; obtain ⟨g1, c0, c1, f0, f1⟩ := H3.out.1.v.c; obtain ⟨p0, p1, p2, p3, p4⟩ := H3.out.2.cel; have hp := H3.out.2.cel.lt))
  all_goals (
    go_ret
    exact ⟨rfl, HD.out⟩)
theorem RFold_in {w : World} {t : Tr} {k n : Int} {s : ByteArray} {a : Option Addr} {l c : Nat} (h : Tin w t k n s a l c) : Calls Try.prog 17 #[.agg #[.int .i64 k, .int .i64 n, .string s, .slice a l c]] w (NPost w (foldM t).1 (foldM t).2) := by
  obtain ⟨P, hT⟩ := h.tre
  obtain ⟨a', cap, e⟩ := hT.four
  have ek : k = t.kind := by
    have := congrArg (fun v => match v with | .agg cs => cs[0]? | _ => none) e
    simpa using this
  subst ek
  exact RFold_any P t n s a l c w hT
theorem evalFolds_walk (t : Tr) (k n : Int) (s : ByteArray) (a : Option Addr) (l c : Nat) (v : Value) (ns : List ByteArray) (vs : List Int) (w : World) (hT : Tin w t k n s a l c) (hV : Vin w v ns vs) : Calls Try.prog 6 #[.agg #[.int .i64 k, .int .i64 n, .string s, .slice a l c], v] w fun e w' => e = .returned (.bool true) ∧ Below w.heap.size w w' := by
  have hF : ∀ w, Tin w t k n s a l c → Calls Try.prog 17 #[.agg #[.int .i64 k, .int .i64 n, .string s, .slice a l c]] w (NPost w (foldM t).1 (foldM t).2) := fun w h => RFold_in h
  have hA : ∀ w, Tin w t k n s a l c → Vin w v ns vs → Calls Try.prog 11 #[.agg #[.int .i64 k, .int .i64 n, .string s, .slice a l c], v] w (EvP (ofM (envN ns vs) (V.chk ns vs) t) w) := fun w h1 h2 => of_any t k n s a l c v ns vs w h1 h2
  have hM : (foldM t).2 = 0 → (ofM (envN ns vs) (V.chk ns vs) t).e = 0 → ofM (envN ns vs) (V.chk ns vs) (foldM t).1 = ofM (envN ns vs) (V.chk ns vs) t := fun h1 h2 => by
    obtain ⟨P, hTre⟩ := hT.tre
    exact fold_of (tre_nums hTre 16) h1 h2
  have hB : ∀ yk yn ys ya yl yc w, Tin w (foldM t).1 yk yn ys ya yl yc → Vin w v ns vs → Calls Try.prog 11 #[.agg #[.int .i64 yk, .int .i64 yn, .string ys, .slice ya yl yc], v] w (EvP (ofM (envN ns vs) (V.chk ns vs) (foldM t).1) w) := fun yk yn ys ya yl yc w h1 h2 => of_any (foldM t).1 yk yn ys ya yl yc v ns vs w h1 h2
  generalize (foldM t).1 = f at *
  generalize (foldM t).2 = fe at *
  generalize ofM (envN ns vs) (V.chk ns vs) f = q at *
  generalize ofM (envN ns vs) (V.chk ns vs) t = r at *
  by_cases h0 : fe = 0
  · by_cases h1 : r.e = 0
    · have e := hM h0 h1
      subst e
      obtain ⟨rb, rn, re⟩ := q
      simp only at h1
      subst h0
      subst h1
      refine folds_ok t k n s a l c v ns vs w hT hV f rb rn hF hA fun yk yn ys ya yl yc w h1 h2 => ((hB yk yn ys ya yl yc w h1 h2).mono fun e w' h _ _ => h)
    · subst h0
      refine folds_bad t k n s a l c v ns vs w hT hV f r.b r.n r.e h1 hF hA fun yk yn ys ya yl yc w h2 h3 => ((hB yk yn ys ya yl yc w h2 h3).mono fun e w' h _ h4 => absurd h4 (by omega))
  · refine folds_err t k n s a l c v ns vs w hT hV f fe r.b r.n r.e h0 hF hA fun yk yn ys ya yl yc w h2 h3 => ((hB yk yn ys ya yl yc w h2 h3).mono fun e w' h h4 => absurd h4 h0)
end Go.Proofs.Ytfjphlejhcdbaaa
