/-
  The laws of what conditions come to: EvalOf and EvalAs.
-/
import Derived.Test.YtfjphlejhcdbaaaWkX
import Derived.Test.YtfjphlejhcdbaaaWeigh
namespace Go.Proofs.Ytfjphlejhcdbaaa
open Go.RowKit
set_option linter.unusedVariables false

/-- Some truth is told. -/
def SomeB (w : World) (e : Ending) (w' : World) : Prop := ∃ b : Bool, e = .returned (.bool b) ∧ Below w.heap.size w w'
/-- The condition and the variables, in blocks of the call's own. -/
structure Own2 (w w1 : World) (t : Tr) (k n : Int) (s : ByteArray) (a : Option Addr) (l c : Nat) (a1 : Option Addr) (n1 c1 : Nat) (a2 : Option Addr) (n2 c2 : Nat) (ns : List ByteArray) (vs : List Int) : Prop where
  t : WX w1 w.heap.size t k n s a l c
  v : WV w1 (w.heap.size + 1) a1 n1 c1 a2 n2 c2 ns vs
  low : Below w.heap.size w w1
theorem Own2.new {w : World} {t : Tr} {k n : Int} {s : ByteArray} {a : Option Addr} {l c : Nat} {a1 : Option Addr} {n1 c1 : Nat} {a2 : Option Addr} {n2 c2 : Nat} {ns : List ByteArray} {vs : List Int} (hT : Tin w t k n s a l c) (hV : Vin w (.agg #[.slice a1 n1 c1, .slice a2 n2 c2]) ns vs) : Own2 w ((w.alloc (.cells #[.int .i64 k, .int .i64 n, .string s, .slice a l c] 24)).alloc (.cells #[.slice a1 n1 c1, .slice a2 n2 c2] 28)) t k n s a l c a1 n1 c1 a2 n2 c2 ns vs := by
  refine ⟨WX.new hT _, ?_, two_low _ _ _⟩
  have h := WV.new (hV.below (below_one w (.cells #[.int .i64 k, .int .i64 n, .string s, .slice a l c] 24)))
  rwa [size_alloc] at h
theorem Own2.below {w w1 w2 : World} {t : Tr} {k n : Int} {s : ByteArray} {a : Option Addr} {l c : Nat} {a1 : Option Addr} {n1 c1 : Nat} {a2 : Option Addr} {n2 c2 : Nat} {ns : List ByteArray} {vs : List Int} (h : Own2 w w1 t k n s a l c a1 n1 c1 a2 n2 c2 ns vs) (hb : Below w1.heap.size w1 w2) : Own2 w w2 t k n s a l c a1 n1 c1 a2 n2 c2 ns vs := ⟨h.t.below hb, h.v.below hb, h.low.trans (hb.mono h.low.size)⟩
theorem Own2.alloc {w w1 : World} {t : Tr} {k n : Int} {s : ByteArray} {a : Option Addr} {l c : Nat} {a1 : Option Addr} {n1 c1 : Nat} {a2 : Option Addr} {n2 c2 : Nat} {ns : List ByteArray} {vs : List Int} (h : Own2 w w1 t k n s a l c a1 n1 c1 a2 n2 c2 ns vs) (o : Obj) : Own2 w (w1.alloc o) t k n s a l c a1 n1 c1 a2 n2 c2 ns vs := h.below (below_one _ _)
set_option maxRecDepth 100000 in
set_option maxHeartbeats 400000 in
theorem weight_any (t : Tr) (k n : Int) (s : ByteArray) (a : Option Addr) (l c : Nat) (w : World) (hT : Tin w t k n s a l c) : Calls Try.prog 24 #[.agg #[.int .i64 k, .int .i64 n, .string s, .slice a l c], .int .i64 500] w (Numb w) := by
  have HC : Hid (∀ w, Tin w t k n s a l c → Calls Try.prog 40 #[.agg #[.int .i64 k, .int .i64 n, .string s, .slice a l c], .int .i64 500, .int .i64 30] w (Numb w)) := fun w h => by
    obtain ⟨P, h⟩ := h.tre
    exact weigh_any t P _ w 500 30 ⟨by decide, by decide⟩ ⟨by decide, by decide⟩ h
  have HT : Hid (Tin w t k n s a l c) := hT
  clear hT
  go_enter Try.func24, Try.ntmps24
  go_wp2_with (go_at_call 40; refine (HC.out _ (HT.out.below (below_one _ _))).mono ?_; rintro e w3 ⟨z, rfl, hz, HB⟩; have HB3 : Hid (Below w.heap.size w w3) := (below_one _ _).trans (HB.mono (le_alloc _ _)); clear HB)
  go_ret
  exact ⟨z, rfl, hz, HB3.out⟩
set_option maxRecDepth 100000 in
set_option maxHeartbeats 800000 in
theorem light_any (t : Tr) (k n : Int) (s : ByteArray) (a : Option Addr) (l c : Nat) (v : Value) (ns : List ByteArray) (vs : List Int) (w : World) (hT : Tin w t k n s a l c) (hV : Vin w v ns vs) : Calls Try.prog 9 #[.agg #[.int .i64 k, .int .i64 n, .string s, .slice a l c], v] w (SomeB w) := by
  obtain ⟨a1, n1, k1, a2, n2, k2, rfl⟩ := hV.form
  have HC : Hid (∀ w, Tin w t k n s a l c → Calls Try.prog 24 #[.agg #[.int .i64 k, .int .i64 n, .string s, .slice a l c], .int .i64 500] w (Numb w)) := fun w h => weight_any t k n s a l c w h
  have HO : Hid (Own2 w _ t k n s a l c a1 n1 k1 a2 n2 k2 ns vs) := Own2.new hT hV
  clear hT hV
  go_enter Try.func9, Try.ntmps9
  go_wp2_with (go_at_call 24; refine (HC.out _ HO.out.t.tin).mono ?_; rintro e w3 ⟨z, rfl, hz, HB⟩; have H3 : Hid (Own2 w w3 t k n s a l c a1 n1 k1 a2 n2 k2 ns vs) := HO.out.below HB; clear HB hz; obtain ⟨g1, c0, c1, f0, f1⟩ := H3.out.v.c)
  all_goals (
    go_ret
    exact ⟨_, rfl, H3.out.low⟩)
set_option maxRecDepth 100000 in
set_option maxHeartbeats 1200000 in
theorem evalOf_walk (t : Tr) (k n : Int) (s : ByteArray) (a : Option Addr) (l c : Nat) (v : Value) (ns : List ByteArray) (vs : List Int) (w : World) (hT : Tin w t k n s a l c) (hV : Vin w v ns vs) : Calls Try.prog 3 #[.agg #[.int .i64 k, .int .i64 n, .string s, .slice a l c], v] w fun e w' => e = .returned (.bool true) ∧ Below w.heap.size w w' := by
  have HL : Hid (∀ w, Tin w t k n s a l c → Vin w v ns vs → Calls Try.prog 9 #[.agg #[.int .i64 k, .int .i64 n, .string s, .slice a l c], v] w (SomeB w)) := fun w h1 h2 => light_any t k n s a l c v ns vs w h1 h2
  have HW : Hid (∀ w, Calls Try.prog 10 #[] w fun e w' => e = .returned (.bool true) ∧ Below w.heap.size w w') := works_any
  have HA : Hid (∀ w, Tin w t k n s a l c → Vin w v ns vs → Calls Try.prog 11 #[.agg #[.int .i64 k, .int .i64 n, .string s, .slice a l c], v] w (EvP (ofM (envN ns vs) (V.chk ns vs) t) w)) := fun w h1 h2 => of_any t k n s a l c v ns vs w h1 h2
  have HR : Hid (∀ w, Tin w t k n s a l c → Vin w v ns vs → Calls Try.prog 12 #[.agg #[.int .i64 k, .int .i64 n, .string s, .slice a l c], v] w (EvP (ofM (envN ns vs) (V.chk ns vs) t) w)) := fun w h1 h2 => ROf_any t k n s a l c v ns vs w h1 h2
  obtain ⟨a1, n1, k1, a2, n2, k2, rfl⟩ := hV.form
  have HO : Hid (Own2 w _ t k n s a l c a1 n1 k1 a2 n2 k2 ns vs) := Own2.new hT hV
  clear hT hV
  generalize ofM (envN ns vs) (V.chk ns vs) t = r at *
  obtain ⟨rb, rn, re⟩ := r
  unfold EvP at *
  simp only at *
  go_enter Try.func3, Try.ntmps3
  go_wp2_with (first
    | (go_at_call 9; refine (HL.out _ HO.out.t.tin HO.out.v.v).mono ?_; rintro e w1 ⟨lb, rfl, HB⟩; have H1 : Hid (Own2 w w1 t k n s a l c a1 n1 k1 a2 n2 k2 ns vs) := HO.out.below HB; clear HB; obtain ⟨g1, c0, c1, f0, f1⟩ := H1.out.v.c; obtain ⟨p0, p1, p2, p3, p4⟩ := H1.out.t.cel; cases lb)
    | (go_at_call 10; have := H4; refine (HW.out _).mono ?_; rintro e w5 ⟨rfl, HB⟩; have HD : Hid (Below w.heap.size w w5) := H4.out.trans (HB.mono H4.out.size); clear HB)
    | (go_at_call 10; refine (HW.out _).mono ?_; rintro e w5 ⟨rfl, HB⟩; have HD : Hid (Below w.heap.size w w5) := H1.out.low.trans (HB.mono H1.out.low.size); clear HB)
    | (go_at_call 11; refine (HA.out _ H1.out.t.tin H1.out.v.v).mono ?_; rintro e w2 ⟨rfl, HB⟩; have H2 : Hid (Own2 w (w2.alloc (.cells #[.bool rb, .int .i64 rn] 32)) t k n s a l c a1 n1 k1 a2 n2 k2 ns vs) := (H1.out.below HB).alloc _; have H2b : Hid (Own2 w w2 t k n s a l c a1 n1 k1 a2 n2 k2 ns vs) := H1.out.below HB; clear HB; obtain ⟨g1, c0, c1, f0, f1⟩ := H2b.out.v.c; obtain ⟨p0, p1, p2, p3, p4⟩ := H2b.out.t.cel; have hp := H2b.out.t.cel.lt)
    | (go_at_call 12; refine (HR.out _ H2.out.t.tin H2.out.v.v).mono ?_; rintro e w3 ⟨rfl, HB⟩; have H3 : Hid (V.Two w3 w2.heap.size (.bool rb) (.int .i64 rn)) := (V.Two.new w2 _ _ 32).below HB; have H4 : Hid (∀ o, Below w.heap.size w (w3.alloc o)) := fun o => (H2.out.below HB).low.alloc (H2.out.below HB).low.size o; clear HB; obtain ⟨g1, c0, c1, f0, f1⟩ := H3.out; have H4 : Hid (Below w.heap.size w (w3.alloc (.cells #[.bool rb, .int .i64 rn] 32))) := H4.out _))
  all_goals (
    go_ret
    exact ⟨rfl, HD.out⟩)
end Go.Proofs.Ytfjphlejhcdbaaa
