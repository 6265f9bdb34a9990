/-
  The laws of what conditions come to: EvalRenames.
-/
import Derived.Test.YtfjphlejhcdbaaaLaw3b
namespace Go.Proofs.Ytfjphlejhcdbaaa
open Go.RowKit
set_option linter.unusedVariables false

theorem RRename_in {w : World} {t : Tr} {k n : Int} {s : ByteArray} {a : Option Addr} {l c : Nat} (fr to : Bs) (hto : to.length ≤ 9223372036854775807) (h : Tin w t k n s a l c) : Calls Try.prog 23 #[.agg #[.int .i64 k, .int .i64 n, .string s, .slice a l c], .string (ba fr), .string (ba to)] w (NPost w (renameM fr to t).1 (renameM fr to t).2) := by
  obtain ⟨P, hT⟩ := h.tre
  exact RRename_any fr to hto P t k n s a l c w hT
set_option maxRecDepth 100000 in
set_option maxHeartbeats 4000000 in
theorem ren_ck (t : Tr) (k n : Int) (s : ByteArray) (a : Option Addr) (l c : Nat) (v : Value) (ns : List ByteArray) (vs : List Int) (w : World) (hT : Tin w t k n s a l c) (hV : Vin w v ns vs) (sf st : ByteArray) (AT : Prop) (hAsk : ∀ w, Tin w t k n s a l c → Calls Try.prog 18 #[.agg #[.int .i64 k, .int .i64 n, .string s, .slice a l c], .string st] w fun e w' => ∃ b, e = .returned (.bool b) ∧ (b = true ↔ AT) ∧ Below w.heap.size w w') (h0 : V.chk ns vs ≠ 0) : Calls Try.prog 8 #[.agg #[.int .i64 k, .int .i64 n, .string s, .slice a l c], v, .string sf, .string st] w fun e w' => e = .returned (.bool true) ∧ Below w.heap.size w w' := by
  have HL : Hid (∀ w, Tin w t k n s a l c → Vin w v ns vs → Calls Try.prog 9 #[.agg #[.int .i64 k, .int .i64 n, .string s, .slice a l c], v] w (SomeB w)) := fun w h1 h2 => light_any t k n s a l c v ns vs w h1 h2
  have HW : Hid (∀ w, Calls Try.prog 10 #[] w fun e w' => e = .returned (.bool true) ∧ Below w.heap.size w w') := works_any
  have HAsk : Hid (∀ w, Tin w t k n s a l c → Calls Try.prog 18 #[.agg #[.int .i64 k, .int .i64 n, .string s, .slice a l c], .string st] w fun e w' => ∃ b, e = .returned (.bool b) ∧ (b = true ↔ AT) ∧ Below w.heap.size w w') := hAsk
  have HC : Hid (∀ w, Vin w v ns vs → Calls Try.prog 15 #[v] w fun e w' => e = .returned (.int .i64 (V.chk ns vs : Nat)) ∧ Below w.heap.size w w') := fun w h => V.rCheck_any ns vs v w h.rd h.sz
  obtain ⟨a1, n1, k1, a2, n2, k2, rfl⟩ := hV.form
  have HO : Hid (Own2 w _ t k n s a l c a1 n1 k1 a2 n2 k2 ns vs) := Own2.new hT hV
  clear hT hV
  have hz := nz h0
  clear hAsk
  generalize V.chk ns vs = ck at *
  go_enter Try.func8, Try.ntmps8
  go_wp2_with (first
    | (go_at_call 9; refine (HL.out _ HO.out.t.tin HO.out.v.v).mono ?_; rintro e w1 ⟨lb, rfl, HB⟩; have H1 : Hid (Own2 w w1 t k n s a l c a1 n1 k1 a2 n2 k2 ns vs) := HO.out.below HB; clear HB; obtain ⟨g1, c0, c1, f0, f1⟩ := H1.out.v.c; obtain ⟨p0, p1, p2, p3, p4⟩ := H1.out.t.cel; have hp := H1.out.t.cel.lt; cases lb)
    | (go_at_call 15; refine (HC.out _ H1.out.v.v).mono ?_; rintro e w2 ⟨rfl, HB⟩; have H2 : Hid (Own2 w w2 t k n s a l c a1 n1 k1 a2 n2 k2 ns vs) := H1.out.below HB; clear HB; obtain ⟨g1, c0, c1, f0, f1⟩ := H2.out.v.c; obtain ⟨p0, p1, p2, p3, p4⟩ := H2.out.t.cel; have hp := H2.out.t.cel.lt)
    | (go_at_call 10; have := H2; refine (HW.out _).mono ?_; rintro e wz ⟨rfl, HB⟩; have HD : Hid (Below w.heap.size w wz) := (H2.out.low).trans (HB.mono (H2.out.low).size); clear HB)
    | (go_at_call 10; have := H1; refine (HW.out _).mono ?_; rintro e wz ⟨rfl, HB⟩; have HD : Hid (Below w.heap.size w wz) := (H1.out.low).trans (HB.mono (H1.out.low).size); clear HB))
  all_goals (
    go_ret
    exact ⟨rfl, HD.out⟩)
set_option maxRecDepth 100000 in
set_option maxHeartbeats 4000000 in
theorem ren_err (t : Tr) (k n : Int) (s : ByteArray) (a : Option Addr) (l c : Nat) (v : Value) (ns : List ByteArray) (vs : List Int) (w : World) (hT : Tin w t k n s a l c) (hV : Vin w v ns vs) (sf st : ByteArray) (AT : Prop) (hAsk : ∀ w, Tin w t k n s a l c → Calls Try.prog 18 #[.agg #[.int .i64 k, .int .i64 n, .string s, .slice a l c], .string st] w fun e w' => ∃ b, e = .returned (.bool b) ∧ (b = true ↔ AT) ∧ Below w.heap.size w w') (f : Tr) (fe : Nat) (hRen : ∀ w, Tin w t k n s a l c → Calls Try.prog 23 #[.agg #[.int .i64 k, .int .i64 n, .string s, .slice a l c], .string sf, .string st] w (NPost w f fe)) (gv : Int) (fb : Bool) (hGet : ∀ w, Vin w v ns vs → Calls Try.prog 22 #[v, .string sf] w fun e w' => e = .returned (.tuple #[.int .i64 gv, .bool fb]) ∧ Below w.heap.size w w') (h0 : V.chk ns vs = 0) (h1 : fe ≠ 0) : Calls Try.prog 8 #[.agg #[.int .i64 k, .int .i64 n, .string s, .slice a l c], v, .string sf, .string st] w fun e w' => e = .returned (.bool true) ∧ Below w.heap.size w w' := by
  have HL : Hid (∀ w, Tin w t k n s a l c → Vin w v ns vs → Calls Try.prog 9 #[.agg #[.int .i64 k, .int .i64 n, .string s, .slice a l c], v] w (SomeB w)) := fun w h1 h2 => light_any t k n s a l c v ns vs w h1 h2
  have HW : Hid (∀ w, Calls Try.prog 10 #[] w fun e w' => e = .returned (.bool true) ∧ Below w.heap.size w w') := works_any
  have HAsk : Hid (∀ w, Tin w t k n s a l c → Calls Try.prog 18 #[.agg #[.int .i64 k, .int .i64 n, .string s, .slice a l c], .string st] w fun e w' => ∃ b, e = .returned (.bool b) ∧ (b = true ↔ AT) ∧ Below w.heap.size w w') := hAsk
  have HC : Hid (∀ w, Vin w v ns vs → Calls Try.prog 15 #[v] w fun e w' => e = .returned (.int .i64 (V.chk ns vs : Nat)) ∧ Below w.heap.size w w') := fun w h => V.rCheck_any ns vs v w h.rd h.sz
  have HRen : Hid (∀ w, Tin w t k n s a l c → Calls Try.prog 23 #[.agg #[.int .i64 k, .int .i64 n, .string s, .slice a l c], .string sf, .string st] w (NPost w f fe)) := hRen
  have HGet : Hid (∀ w, Vin w v ns vs → Calls Try.prog 22 #[v, .string sf] w fun e w' => e = .returned (.tuple #[.int .i64 gv, .bool fb]) ∧ Below w.heap.size w w') := hGet
  obtain ⟨a1, n1, k1, a2, n2, k2, rfl⟩ := hV.form
  have HO : Hid (Own2 w _ t k n s a l c a1 n1 k1 a2 n2 k2 ns vs) := Own2.new hT hV
  clear hT hV
  rw [h0] at HC
  have hz := nz h1
  clear hAsk hRen hGet
  unfold NPost at HRen
  go_enter Try.func8, Try.ntmps8
  go_wp2_with (first
    | (go_at_call 9; refine (HL.out _ HO.out.t.tin HO.out.v.v).mono ?_; rintro e w1 ⟨lb, rfl, HB⟩; have H1 : Hid (Own2 w w1 t k n s a l c a1 n1 k1 a2 n2 k2 ns vs) := HO.out.below HB; clear HB; obtain ⟨g1, c0, c1, f0, f1⟩ := H1.out.v.c; obtain ⟨p0, p1, p2, p3, p4⟩ := H1.out.t.cel; have hp := H1.out.t.cel.lt; cases lb)
    | (go_at_call 15; refine (HC.out _ H1.out.v.v).mono ?_; rintro e w2 ⟨rfl, HB⟩; have H2 : Hid (Own2 w w2 t k n s a l c a1 n1 k1 a2 n2 k2 ns vs) := H1.out.below HB; clear HB; obtain ⟨g1, c0, c1, f0, f1⟩ := H2.out.v.c; obtain ⟨p0, p1, p2, p3, p4⟩ := H2.out.t.cel; have hp := H2.out.t.cel.lt)
    | (go_at_call 18; refine (HAsk.out _ H2.out.t.tin).mono ?_; rintro e w3 ⟨kb, rfl, hkb, HB⟩; have H3 : Hid (Own2 w w3 t k n s a l c a1 n1 k1 a2 n2 k2 ns vs) := H2.out.below HB; have HKb : Hid (kb = true ↔ AT) := hkb; clear HB hkb; obtain ⟨g1, c0, c1, f0, f1⟩ := H3.out.v.c; obtain ⟨p0, p1, p2, p3, p4⟩ := H3.out.t.cel; have hp := H3.out.t.cel.lt; cases kb)
    | (go_at_call 23; refine (HRen.out _ H3.out.t.tin).mono ?_; rintro e w4 ⟨yk, yn, ys, ya, yl, yc, rfl, hy, HB⟩; have H4 : Hid (Own2 w w4 t k n s a l c a1 n1 k1 a2 n2 k2 ns vs ∧ Tin w4 f yk yn ys ya yl yc) := ⟨H3.out.below HB, ⟨_, hy⟩⟩; clear HB hy; obtain ⟨g1, c0, c1, f0, f1⟩ := H4.out.1.v.c; obtain ⟨p0, p1, p2, p3, p4⟩ := H4.out.1.t.cel; have hp := H4.out.1.t.cel.lt)
    | (go_at_call 22; refine (HGet.out _ (H4.out.1.alloc _).v.v).mono ?_; rintro e w5 ⟨rfl, HB⟩; have H5 : Hid (Own2 w w5 t k n s a l c a1 n1 k1 a2 n2 k2 ns vs ∧ WX w5 w4.heap.size f yk yn ys ya yl yc) := ⟨(H4.out.1.alloc _).below HB, WX.below ⟨Cell4.new w4 _ _ _ _ 24, H4.out.2.below (below_one _ _)⟩ HB⟩; clear HB)
    | (go_at_call 10; have := H5; refine (HW.out _).mono ?_; rintro e wz ⟨rfl, HB⟩; have HD : Hid (Below w.heap.size w wz) := (H5.out.1.low).trans (HB.mono (H5.out.1.low).size); clear HB)
    | (go_at_call 10; have := H3; refine (HW.out _).mono ?_; rintro e wz ⟨rfl, HB⟩; have HD : Hid (Below w.heap.size w wz) := (H3.out.low).trans (HB.mono (H3.out.low).size); clear HB)
    | (go_at_call 10; have := H2; refine (HW.out _).mono ?_; rintro e wz ⟨rfl, HB⟩; have HD : Hid (Below w.heap.size w wz) := (H2.out.low).trans (HB.mono (H2.out.low).size); clear HB)
    | (go_at_call 10; have := H1; refine (HW.out _).mono ?_; rintro e wz ⟨rfl, HB⟩; have HD : Hid (Below w.heap.size w wz) := (H1.out.low).trans (HB.mono (H1.out.low).size); clear HB))
  all_goals (
    go_ret
    exact ⟨rfl, HD.out⟩)
set_option maxRecDepth 100000 in
set_option maxHeartbeats 4000000 in
theorem ren_none (t : Tr) (k n : Int) (s : ByteArray) (a : Option Addr) (l c : Nat) (v : Value) (ns : List ByteArray) (vs : List Int) (w : World) (hT : Tin w t k n s a l c) (hV : Vin w v ns vs) (sf st : ByteArray) (AT : Prop) (hAsk : ∀ w, Tin w t k n s a l c → Calls Try.prog 18 #[.agg #[.int .i64 k, .int .i64 n, .string s, .slice a l c], .string st] w fun e w' => ∃ b, e = .returned (.bool b) ∧ (b = true ↔ AT) ∧ Below w.heap.size w w') (f : Tr) (fe : Nat) (hRen : ∀ w, Tin w t k n s a l c → Calls Try.prog 23 #[.agg #[.int .i64 k, .int .i64 n, .string s, .slice a l c], .string sf, .string st] w (NPost w f fe)) (gv : Int) (fb : Bool) (hGet : ∀ w, Vin w v ns vs → Calls Try.prog 22 #[v, .string sf] w fun e w' => e = .returned (.tuple #[.int .i64 gv, .bool fb]) ∧ Below w.heap.size w w') (h0 : V.chk ns vs = 0) (h1 : fe = 0) (h2 : fb = false) : Calls Try.prog 8 #[.agg #[.int .i64 k, .int .i64 n, .string s, .slice a l c], v, .string sf, .string st] w fun e w' => e = .returned (.bool true) ∧ Below w.heap.size w w' := by
  have HL : Hid (∀ w, Tin w t k n s a l c → Vin w v ns vs → Calls Try.prog 9 #[.agg #[.int .i64 k, .int .i64 n, .string s, .slice a l c], v] w (SomeB w)) := fun w h1 h2 => light_any t k n s a l c v ns vs w h1 h2
  have HW : Hid (∀ w, Calls Try.prog 10 #[] w fun e w' => e = .returned (.bool true) ∧ Below w.heap.size w w') := works_any
  have HAsk : Hid (∀ w, Tin w t k n s a l c → Calls Try.prog 18 #[.agg #[.int .i64 k, .int .i64 n, .string s, .slice a l c], .string st] w fun e w' => ∃ b, e = .returned (.bool b) ∧ (b = true ↔ AT) ∧ Below w.heap.size w w') := hAsk
  have HC : Hid (∀ w, Vin w v ns vs → Calls Try.prog 15 #[v] w fun e w' => e = .returned (.int .i64 (V.chk ns vs : Nat)) ∧ Below w.heap.size w w') := fun w h => V.rCheck_any ns vs v w h.rd h.sz
  have HRen : Hid (∀ w, Tin w t k n s a l c → Calls Try.prog 23 #[.agg #[.int .i64 k, .int .i64 n, .string s, .slice a l c], .string sf, .string st] w (NPost w f fe)) := hRen
  have HGet : Hid (∀ w, Vin w v ns vs → Calls Try.prog 22 #[v, .string sf] w fun e w' => e = .returned (.tuple #[.int .i64 gv, .bool fb]) ∧ Below w.heap.size w w') := hGet
  obtain ⟨a1, n1, k1, a2, n2, k2, rfl⟩ := hV.form
  have HO : Hid (Own2 w _ t k n s a l c a1 n1 k1 a2 n2 k2 ns vs) := Own2.new hT hV
  clear hT hV
  rw [h0] at HC
  subst h1
  subst h2
  clear hAsk hRen hGet
  unfold NPost at HRen
  go_enter Try.func8, Try.ntmps8
  go_wp2_with (first
    | (go_at_call 9; refine (HL.out _ HO.out.t.tin HO.out.v.v).mono ?_; rintro e w1 ⟨lb, rfl, HB⟩; have H1 : Hid (Own2 w w1 t k n s a l c a1 n1 k1 a2 n2 k2 ns vs) := HO.out.below HB; clear HB; obtain ⟨g1, c0, c1, f0, f1⟩ := H1.out.v.c; obtain ⟨p0, p1, p2, p3, p4⟩ := H1.out.t.cel; have hp := H1.out.t.cel.lt; cases lb)
    | (go_at_call 15; refine (HC.out _ H1.out.v.v).mono ?_; rintro e w2 ⟨rfl, HB⟩; have H2 : Hid (Own2 w w2 t k n s a l c a1 n1 k1 a2 n2 k2 ns vs) := H1.out.below HB; clear HB; obtain ⟨g1, c0, c1, f0, f1⟩ := H2.out.v.c; obtain ⟨p0, p1, p2, p3, p4⟩ := H2.out.t.cel; have hp := H2.out.t.cel.lt)
    | (go_at_call 18; refine (HAsk.out _ H2.out.t.tin).mono ?_; rintro e w3 ⟨kb, rfl, hkb, HB⟩; have H3 : Hid (Own2 w w3 t k n s a l c a1 n1 k1 a2 n2 k2 ns vs) := H2.out.below HB; have HKb : Hid (kb = true ↔ AT) := hkb; clear HB hkb; obtain ⟨g1, c0, c1, f0, f1⟩ := H3.out.v.c; obtain ⟨p0, p1, p2, p3, p4⟩ := H3.out.t.cel; have hp := H3.out.t.cel.lt; cases kb)
    | (go_at_call 23; refine (HRen.out _ H3.out.t.tin).mono ?_; rintro e w4 ⟨yk, yn, ys, ya, yl, yc, rfl, hy, HB⟩; have H4 : Hid (Own2 w w4 t k n s a l c a1 n1 k1 a2 n2 k2 ns vs ∧ Tin w4 f yk yn ys ya yl yc) := ⟨H3.out.below HB, ⟨_, hy⟩⟩; clear HB hy; obtain ⟨g1, c0, c1, f0, f1⟩ := H4.out.1.v.c; obtain ⟨p0, p1, p2, p3, p4⟩ := H4.out.1.t.cel; have hp := H4.out.1.t.cel.lt)
    | (go_at_call 22; refine (HGet.out _ (H4.out.1.alloc _).v.v).mono ?_; rintro e w5 ⟨rfl, HB⟩; have H5 : Hid (Own2 w w5 t k n s a l c a1 n1 k1 a2 n2 k2 ns vs ∧ WX w5 w4.heap.size f yk yn ys ya yl yc) := ⟨(H4.out.1.alloc _).below HB, WX.below ⟨Cell4.new w4 _ _ _ _ 24, H4.out.2.below (below_one _ _)⟩ HB⟩; clear HB)
    | (go_at_call 10; have := H5; refine (HW.out _).mono ?_; rintro e wz ⟨rfl, HB⟩; have HD : Hid (Below w.heap.size w wz) := (H5.out.1.low).trans (HB.mono (H5.out.1.low).size); clear HB)
    | (go_at_call 10; have := H3; refine (HW.out _).mono ?_; rintro e wz ⟨rfl, HB⟩; have HD : Hid (Below w.heap.size w wz) := (H3.out.low).trans (HB.mono (H3.out.low).size); clear HB)
    | (go_at_call 10; have := H2; refine (HW.out _).mono ?_; rintro e wz ⟨rfl, HB⟩; have HD : Hid (Below w.heap.size w wz) := (H2.out.low).trans (HB.mono (H2.out.low).size); clear HB)
    | (go_at_call 10; have := H1; refine (HW.out _).mono ?_; rintro e wz ⟨rfl, HB⟩; have HD : Hid (Below w.heap.size w wz) := (H1.out.low).trans (HB.mono (H1.out.low).size); clear HB))
  all_goals (
    go_ret
    exact ⟨rfl, HD.out⟩)
set_option maxRecDepth 100000 in
set_option maxHeartbeats 4000000 in
theorem ren_no (t : Tr) (k n : Int) (s : ByteArray) (a : Option Addr) (l c : Nat) (v : Value) (ns : List ByteArray) (vs : List Int) (w : World) (hT : Tin w t k n s a l c) (hV : Vin w v ns vs) (sf st : ByteArray) (AT : Prop) (hAsk : ∀ w, Tin w t k n s a l c → Calls Try.prog 18 #[.agg #[.int .i64 k, .int .i64 n, .string s, .slice a l c], .string st] w fun e w' => ∃ b, e = .returned (.bool b) ∧ (b = true ↔ AT) ∧ Below w.heap.size w w') (f : Tr) (fe : Nat) (hRen : ∀ w, Tin w t k n s a l c → Calls Try.prog 23 #[.agg #[.int .i64 k, .int .i64 n, .string s, .slice a l c], .string sf, .string st] w (NPost w f fe)) (gv : Int) (fb : Bool) (hGet : ∀ w, Vin w v ns vs → Calls Try.prog 22 #[v, .string sf] w fun e w' => e = .returned (.tuple #[.int .i64 gv, .bool fb]) ∧ Below w.heap.size w w') (h0 : V.chk ns vs = 0) (h1 : fe = 0) (h2 : fb = true) (ec : Nat) (hec : ec ≠ 0) (LC : Nat) (RC : V.VL) (hO2 : ∀ w z, V.RdL w z [(ns, vs), ([st], [gv])] → Calls Try.prog 19 #[z] w fun e w' => ∃ b1 d1 b2 d2, e = .returned (.tuple #[.agg #[.slice b1 LC d1, .slice b2 LC d2], .int .i64 (ec : Nat)]) ∧ V.OwV w' w.heap.size (.agg #[.slice b1 LC d1, .slice b2 LC d2]) RC ∧ Below w.heap.size w w') : Calls Try.prog 8 #[.agg #[.int .i64 k, .int .i64 n, .string s, .slice a l c], v, .string sf, .string st] w fun e w' => e = .returned (.bool true) ∧ Below w.heap.size w w' := by
  have HL : Hid (∀ w, Tin w t k n s a l c → Vin w v ns vs → Calls Try.prog 9 #[.agg #[.int .i64 k, .int .i64 n, .string s, .slice a l c], v] w (SomeB w)) := fun w h1 h2 => light_any t k n s a l c v ns vs w h1 h2
  have HW : Hid (∀ w, Calls Try.prog 10 #[] w fun e w' => e = .returned (.bool true) ∧ Below w.heap.size w w') := works_any
  have HAsk : Hid (∀ w, Tin w t k n s a l c → Calls Try.prog 18 #[.agg #[.int .i64 k, .int .i64 n, .string s, .slice a l c], .string st] w fun e w' => ∃ b, e = .returned (.bool b) ∧ (b = true ↔ AT) ∧ Below w.heap.size w w') := hAsk
  have HC : Hid (∀ w, Vin w v ns vs → Calls Try.prog 15 #[v] w fun e w' => e = .returned (.int .i64 (V.chk ns vs : Nat)) ∧ Below w.heap.size w w') := fun w h => V.rCheck_any ns vs v w h.rd h.sz
  have HRen : Hid (∀ w, Tin w t k n s a l c → Calls Try.prog 23 #[.agg #[.int .i64 k, .int .i64 n, .string s, .slice a l c], .string sf, .string st] w (NPost w f fe)) := hRen
  have HGet : Hid (∀ w, Vin w v ns vs → Calls Try.prog 22 #[v, .string sf] w fun e w' => e = .returned (.tuple #[.int .i64 gv, .bool fb]) ∧ Below w.heap.size w w') := hGet
  have HO2 : Hid (∀ w z, V.RdL w z [(ns, vs), ([st], [gv])] → Calls Try.prog 19 #[z] w fun e w' => ∃ b1 d1 b2 d2, e = .returned (.tuple #[.agg #[.slice b1 LC d1, .slice b2 LC d2], .int .i64 (ec : Nat)]) ∧ V.OwV w' w.heap.size (.agg #[.slice b1 LC d1, .slice b2 LC d2]) RC ∧ Below w.heap.size w w') := hO2
  have HOne : Hid (∀ w, Calls Try.prog 20 #[.string st, .int .i64 gv] w fun e w' => ∃ a1 c1 a2 c2, e = .returned (.agg #[.slice a1 1 c1, .slice a2 1 c2]) ∧ V.RdV w' (.agg #[.slice a1 1 c1, .slice a2 1 c2]) [st] [gv] ∧ Below w.heap.size w w') := fun w => one_form (st) gv w
  obtain ⟨a1, n1, k1, a2, n2, k2, rfl⟩ := hV.form
  have HO : Hid (Own2 w _ t k n s a l c a1 n1 k1 a2 n2 k2 ns vs) := Own2.new hT hV
  clear hT hV
  rw [h0] at HC
  subst h1
  subst h2
  have hz := nz hec
  clear hAsk hRen hGet hO2
  unfold NPost at HRen
  go_enter Try.func8, Try.ntmps8
  go_wp2_with (first
    | (go_at_call 9; refine (HL.out _ HO.out.t.tin HO.out.v.v).mono ?_; rintro e w1 ⟨lb, rfl, HB⟩; have H1 : Hid (Own2 w w1 t k n s a l c a1 n1 k1 a2 n2 k2 ns vs) := HO.out.below HB; clear HB; obtain ⟨g1, c0, c1, f0, f1⟩ := H1.out.v.c; obtain ⟨p0, p1, p2, p3, p4⟩ := H1.out.t.cel; have hp := H1.out.t.cel.lt; cases lb)
    | (go_at_call 15; refine (HC.out _ H1.out.v.v).mono ?_; rintro e w2 ⟨rfl, HB⟩; have H2 : Hid (Own2 w w2 t k n s a l c a1 n1 k1 a2 n2 k2 ns vs) := H1.out.below HB; clear HB; obtain ⟨g1, c0, c1, f0, f1⟩ := H2.out.v.c; obtain ⟨p0, p1, p2, p3, p4⟩ := H2.out.t.cel; have hp := H2.out.t.cel.lt)
    | (go_at_call 18; refine (HAsk.out _ H2.out.t.tin).mono ?_; rintro e w3 ⟨kb, rfl, hkb, HB⟩; have H3 : Hid (Own2 w w3 t k n s a l c a1 n1 k1 a2 n2 k2 ns vs) := H2.out.below HB; have HKb : Hid (kb = true ↔ AT) := hkb; clear HB hkb; obtain ⟨g1, c0, c1, f0, f1⟩ := H3.out.v.c; obtain ⟨p0, p1, p2, p3, p4⟩ := H3.out.t.cel; have hp := H3.out.t.cel.lt; cases kb)
    | (go_at_call 23; refine (HRen.out _ H3.out.t.tin).mono ?_; rintro e w4 ⟨yk, yn, ys, ya, yl, yc, rfl, hy, HB⟩; have H4 : Hid (Own2 w w4 t k n s a l c a1 n1 k1 a2 n2 k2 ns vs ∧ Tin w4 f yk yn ys ya yl yc) := ⟨H3.out.below HB, ⟨_, hy⟩⟩; clear HB hy; obtain ⟨g1, c0, c1, f0, f1⟩ := H4.out.1.v.c; obtain ⟨p0, p1, p2, p3, p4⟩ := H4.out.1.t.cel; have hp := H4.out.1.t.cel.lt)
    | (go_at_call 22; refine (HGet.out _ (H4.out.1.alloc _).v.v).mono ?_; rintro e w5 ⟨rfl, HB⟩; have H5 : Hid (Own2 w w5 t k n s a l c a1 n1 k1 a2 n2 k2 ns vs ∧ WX w5 w4.heap.size f yk yn ys ya yl yc) := ⟨(H4.out.1.alloc _).below HB, WX.below ⟨Cell4.new w4 _ _ _ _ 24, H4.out.2.below (below_one _ _)⟩ HB⟩; clear HB)
    | (go_at_call 10; have := H5; refine (HW.out _).mono ?_; rintro e wz ⟨rfl, HB⟩; have HD : Hid (Below w.heap.size w wz) := (H5.out.1.low).trans (HB.mono (H5.out.1.low).size); clear HB)
    | (go_at_call 10; have := H3; refine (HW.out _).mono ?_; rintro e wz ⟨rfl, HB⟩; have HD : Hid (Below w.heap.size w wz) := (H3.out.low).trans (HB.mono (H3.out.low).size); clear HB)
    | (go_at_call 10; have := H2; refine (HW.out _).mono ?_; rintro e wz ⟨rfl, HB⟩; have HD : Hid (Below w.heap.size w wz) := (H2.out.low).trans (HB.mono (H2.out.low).size); clear HB)
    | (go_at_call 10; have := H1; refine (HW.out _).mono ?_; rintro e wz ⟨rfl, HB⟩; have HD : Hid (Below w.heap.size w wz) := (H1.out.low).trans (HB.mono (H1.out.low).size); clear HB))
  case' _ => skip
  all_goals first
    | (have := HD; go_ret; exact ⟨rfl, HD.out⟩)
    | skip
  have HVr : Hid (∀ w', Below w5.heap.size w5 w' → V.RdV w' (.agg #[.slice a1 n1 k1, .slice a2 n2 k2]) ns vs) := fun w' hb => (H5.out.1.below hb).v.v.rd
  have HVT : Hid (∀ w', Below w5.heap.size w5 w' → V.Two w' (w.heap.size + 1) (.slice a1 n1 k1) (.slice a2 n2 k2)) := fun w' hb => (H5.out.1.below hb).v.c
  have hvl : w.heap.size + 1 < w5.heap.size := (HVT.out _ (Below.refl _ _)).lt
  have hq5 : w5.heap.size ≠ w.heap.size + 1 := by omega
  have hq6 : w.heap.size + 1 ≠ w5.heap.size := by omega
  obtain ⟨g1, c0, c1, f0, f1⟩ := HVT.out w5 (Below.refl _ _)
  go_region_held3 (fun w' => w'.cell? ⟨w.heap.size + 1, 0, none⟩ = some (.slice a1 n1 k1) ∧ w'.cell? ⟨w.heap.size + 1, 1, none⟩ = some (.slice a2 n2 k2)) (go_keep) (first
    | (go_at_call 19; have := N7; refine (HO2.out _ _ (by first | exact RdLnew2 (HVr.out _ N7.out.1) N7.out.2 | exact rdl_b (HVr.out _ N7.out.1) N7.out.2 | exact rdl_c (HVr.out _ N7.out.1) N7.out.2)).mono ?_; rintro e w8 ⟨D1, D2, D3, D4, rfl, HO8, HB⟩; (first | (have hfa : V.Two w8 (w5.heap.size) (.slice none 0 0) (.slice none 0 0) ∧ Fin4 w5.heap.size w5 ((w8.setCell ⟨w5.heap.size, 0, none⟩ (.slice D1 LC D2)).setCell ⟨w5.heap.size, 1, none⟩ (.slice D3 LC D4)) (w5.heap.size) (.slice D1 LC D2) (.slice D3 LC D4) RC := fin_a T7.out HB HO8 N7.out.1 (Nat.le_refl _); obtain ⟨⟨s4, s0, s1, s2, s3⟩, hfin⟩ := hfa; have MA : Hid _ := hfin; clear hfin) | (have hfa : V.Two w8 (w7.heap.size) (.slice none 0 0) (.slice none 0 0) ∧ Fin4 w5.heap.size w5 ((w8.setCell ⟨w7.heap.size, 0, none⟩ (.slice D1 LC D2)).setCell ⟨w7.heap.size, 1, none⟩ (.slice D3 LC D4)) (w7.heap.size) (.slice D1 LC D2) (.slice D3 LC D4) RC := fin_b HB HO8 N7.out.1 N7.out.1.size; obtain ⟨⟨s4, s0, s1, s2, s3⟩, hfin⟩ := hfa; have MB : Hid _ := hfin; clear hfin) | (have hfa : V.Two w8 (w7.heap.size + 1) (.slice none 0 0) (.slice none 0 0) ∧ Fin4 w5.heap.size w5 ((w8.setCell ⟨w7.heap.size + 1, 0, none⟩ (.slice D1 LC D2)).setCell ⟨w7.heap.size + 1, 1, none⟩ (.slice D3 LC D4)) (w7.heap.size + 1) (.slice D1 LC D2) (.slice D3 LC D4) RC := fin_c HB HO8 N7.out.1 N7.out.1.size; obtain ⟨⟨s4, s0, s1, s2, s3⟩, hfin⟩ := hfa; have MC : Hid _ := hfin; clear hfin) | (have MD : Hid _ := fin_d HB HO8 N7.out.1 N7.out.1.size)); obtain ⟨g1, c0, c1, f0, f1⟩ := HVT.out w8 (by first | exact new_w8a N7.out.1 HB | exact new_w8b N7.out.1 HB); clear HB HO8 N7)
    | (go_at_call 20; refine (HOne.out _).mono ?_; rintro e w7 ⟨O1, O2, O3, O4, rfl, HR7, HB⟩; (first | (have T7 : Hid (V.Two w7 w5.heap.size (.slice none 0 0) (.slice none 0 0)) := (new_a HB).1) | (have T7 : Hid True := trivial)); have N7 : Hid (Below w5.heap.size w5 w7 ∧ V.RdV w7 (.agg #[.slice O1 1 O2, .slice O3 1 O4]) [st] [gv]) := ⟨by first | exact (new_a HB).2 | exact new_b HB, HR7⟩; obtain ⟨g1, c0, c1, f0, f1⟩ := HVT.out _ N7.out.1; (first | (obtain ⟨s4, s0, s1, s2, s3⟩ := T7.out) | skip); have hq7 : w5.heap.size ≤ w7.heap.size := N7.out.1.size; have hq1 : w7.heap.size + 1 ≠ w.heap.size + 1 := (by omega); have hq2 : w7.heap.size ≠ w.heap.size + 1 := (by omega); have hq3 : w.heap.size + 1 ≠ w7.heap.size + 1 := (by omega); have hq4 : w.heap.size + 1 ≠ w7.heap.size := (by omega); have hq8 : w7.heap.size ≠ w.heap.size := (by omega); have hq9 : w.heap.size ≠ w7.heap.size := (by omega); clear HB HR7))
  all_goals clear HOne HO2
  all_goals (first
    | (have HM : Hid (Fin4 w5.heap.size w5 ((w8.setCell ⟨w5.heap.size, 0, none⟩ (.slice D1 LC D2)).setCell ⟨w5.heap.size, 1, none⟩ (.slice D3 LC D4)) (w5.heap.size) (.slice D1 LC D2) (.slice D3 LC D4) RC) := MA.out; have HY : Hid (Own2 w ((w8.setCell ⟨w5.heap.size, 0, none⟩ (.slice D1 LC D2)).setCell ⟨w5.heap.size, 1, none⟩ (.slice D3 LC D4)) t k n s a l c a1 n1 k1 a2 n2 k2 ns vs ∧ V.Two ((w8.setCell ⟨w5.heap.size, 0, none⟩ (.slice D1 LC D2)).setCell ⟨w5.heap.size, 1, none⟩ (.slice D3 LC D4)) (w5.heap.size) (.slice D1 LC D2) (.slice D3 LC D4) ∧ V.RdV ((w8.setCell ⟨w5.heap.size, 0, none⟩ (.slice D1 LC D2)).setCell ⟨w5.heap.size, 1, none⟩ (.slice D3 LC D4)) (.agg #[.slice D1 LC D2, .slice D3 LC D4]) (V.nmsOf RC) (V.valsOf RC) ∧ WX ((w8.setCell ⟨w5.heap.size, 0, none⟩ (.slice D1 LC D2)).setCell ⟨w5.heap.size, 1, none⟩ (.slice D3 LC D4)) w4.heap.size f yk yn ys ya yl yc) := ⟨H5.out.1.below HM.out.1, HM.out.2.1, HM.out.2.2, H5.out.2.below HM.out.1⟩; clear HM MA; generalize ((w8.setCell ⟨w5.heap.size, 0, none⟩ (.slice D1 LC D2)).setCell ⟨w5.heap.size, 1, none⟩ (.slice D3 LC D4)) = w9 at *; generalize w5.heap.size = q at *)
    | (have HM : Hid (Fin4 w5.heap.size w5 ((w8.setCell ⟨w7.heap.size, 0, none⟩ (.slice D1 LC D2)).setCell ⟨w7.heap.size, 1, none⟩ (.slice D3 LC D4)) (w7.heap.size) (.slice D1 LC D2) (.slice D3 LC D4) RC) := MB.out; have HY : Hid (Own2 w ((w8.setCell ⟨w7.heap.size, 0, none⟩ (.slice D1 LC D2)).setCell ⟨w7.heap.size, 1, none⟩ (.slice D3 LC D4)) t k n s a l c a1 n1 k1 a2 n2 k2 ns vs ∧ V.Two ((w8.setCell ⟨w7.heap.size, 0, none⟩ (.slice D1 LC D2)).setCell ⟨w7.heap.size, 1, none⟩ (.slice D3 LC D4)) (w7.heap.size) (.slice D1 LC D2) (.slice D3 LC D4) ∧ V.RdV ((w8.setCell ⟨w7.heap.size, 0, none⟩ (.slice D1 LC D2)).setCell ⟨w7.heap.size, 1, none⟩ (.slice D3 LC D4)) (.agg #[.slice D1 LC D2, .slice D3 LC D4]) (V.nmsOf RC) (V.valsOf RC) ∧ WX ((w8.setCell ⟨w7.heap.size, 0, none⟩ (.slice D1 LC D2)).setCell ⟨w7.heap.size, 1, none⟩ (.slice D3 LC D4)) w4.heap.size f yk yn ys ya yl yc) := ⟨H5.out.1.below HM.out.1, HM.out.2.1, HM.out.2.2, H5.out.2.below HM.out.1⟩; clear HM MB; generalize ((w8.setCell ⟨w7.heap.size, 0, none⟩ (.slice D1 LC D2)).setCell ⟨w7.heap.size, 1, none⟩ (.slice D3 LC D4)) = w9 at *; generalize w7.heap.size = q at *)
    | (have HM : Hid (Fin4 w5.heap.size w5 ((w8.setCell ⟨w7.heap.size + 1, 0, none⟩ (.slice D1 LC D2)).setCell ⟨w7.heap.size + 1, 1, none⟩ (.slice D3 LC D4)) (w7.heap.size + 1) (.slice D1 LC D2) (.slice D3 LC D4) RC) := MC.out; have HY : Hid (Own2 w ((w8.setCell ⟨w7.heap.size + 1, 0, none⟩ (.slice D1 LC D2)).setCell ⟨w7.heap.size + 1, 1, none⟩ (.slice D3 LC D4)) t k n s a l c a1 n1 k1 a2 n2 k2 ns vs ∧ V.Two ((w8.setCell ⟨w7.heap.size + 1, 0, none⟩ (.slice D1 LC D2)).setCell ⟨w7.heap.size + 1, 1, none⟩ (.slice D3 LC D4)) (w7.heap.size + 1) (.slice D1 LC D2) (.slice D3 LC D4) ∧ V.RdV ((w8.setCell ⟨w7.heap.size + 1, 0, none⟩ (.slice D1 LC D2)).setCell ⟨w7.heap.size + 1, 1, none⟩ (.slice D3 LC D4)) (.agg #[.slice D1 LC D2, .slice D3 LC D4]) (V.nmsOf RC) (V.valsOf RC) ∧ WX ((w8.setCell ⟨w7.heap.size + 1, 0, none⟩ (.slice D1 LC D2)).setCell ⟨w7.heap.size + 1, 1, none⟩ (.slice D3 LC D4)) w4.heap.size f yk yn ys ya yl yc) := ⟨H5.out.1.below HM.out.1, HM.out.2.1, HM.out.2.2, H5.out.2.below HM.out.1⟩; clear HM MC; generalize ((w8.setCell ⟨w7.heap.size + 1, 0, none⟩ (.slice D1 LC D2)).setCell ⟨w7.heap.size + 1, 1, none⟩ (.slice D3 LC D4)) = w9 at *; generalize w7.heap.size + 1 = q at *)
    | (have HM : Hid (Fin4 w5.heap.size w5 (w8.alloc (.cells #[.slice D1 LC D2, .slice D3 LC D4] 28)) w8.heap.size (.slice D1 LC D2) (.slice D3 LC D4) RC) := MD.out; have HY : Hid (Own2 w (w8.alloc (.cells #[.slice D1 LC D2, .slice D3 LC D4] 28)) t k n s a l c a1 n1 k1 a2 n2 k2 ns vs ∧ V.Two (w8.alloc (.cells #[.slice D1 LC D2, .slice D3 LC D4] 28)) (w8.heap.size) (.slice D1 LC D2) (.slice D3 LC D4) ∧ V.RdV (w8.alloc (.cells #[.slice D1 LC D2, .slice D3 LC D4] 28)) (.agg #[.slice D1 LC D2, .slice D3 LC D4]) (V.nmsOf RC) (V.valsOf RC) ∧ WX (w8.alloc (.cells #[.slice D1 LC D2, .slice D3 LC D4] 28)) w4.heap.size f yk yn ys ya yl yc) := ⟨H5.out.1.below HM.out.1, HM.out.2.1, HM.out.2.2, H5.out.2.below HM.out.1⟩; clear HM MD; generalize w8.alloc (.cells #[.slice D1 LC D2, .slice D3 LC D4] 28) = w9 at *; generalize w8.heap.size = q at *))
  all_goals (
    have HLo : Hid (Below w.heap.size w w9) := HY.out.1.low
    go_wp2_with (go_at_call 10; refine (HW.out _).mono ?_; rintro e wz ⟨rfl, HB⟩; have HD : Hid (Below w.heap.size w wz) := HLo.out.trans (HB.mono HLo.out.size); clear HB)
    go_ret
    exact ⟨rfl, HD.out⟩)
set_option maxRecDepth 100000 in
set_option maxHeartbeats 4000000 in
theorem ren_go (t : Tr) (k n : Int) (s : ByteArray) (a : Option Addr) (l c : Nat) (v : Value) (ns : List ByteArray) (vs : List Int) (w : World) (hT : Tin w t k n s a l c) (hV : Vin w v ns vs) (sf st : ByteArray) (AT : Prop) (hAsk : ∀ w, Tin w t k n s a l c → Calls Try.prog 18 #[.agg #[.int .i64 k, .int .i64 n, .string s, .slice a l c], .string st] w fun e w' => ∃ b, e = .returned (.bool b) ∧ (b = true ↔ AT) ∧ Below w.heap.size w w') (f : Tr) (fe : Nat) (hRen : ∀ w, Tin w t k n s a l c → Calls Try.prog 23 #[.agg #[.int .i64 k, .int .i64 n, .string s, .slice a l c], .string sf, .string st] w (NPost w f fe)) (gv : Int) (fb : Bool) (hGet : ∀ w, Vin w v ns vs → Calls Try.prog 22 #[v, .string sf] w fun e w' => e = .returned (.tuple #[.int .i64 gv, .bool fb]) ∧ Below w.heap.size w w') (h0 : V.chk ns vs = 0) (h1 : fe = 0) (h2 : fb = true) (LC : Nat) (RC : V.VL) (hO2 : ∀ w z, V.RdL w z [(ns, vs), ([st], [gv])] → Calls Try.prog 19 #[z] w fun e w' => ∃ b1 d1 b2 d2, e = .returned (.tuple #[.agg #[.slice b1 LC d1, .slice b2 LC d2], .int .i64 0]) ∧ V.OwV w' w.heap.size (.agg #[.slice b1 LC d1, .slice b2 LC d2]) RC ∧ Below w.heap.size w w') (rb : Bool) (rn : Int) (re : Nat) (hA : ∀ w, Tin w t k n s a l c → Vin w v ns vs → Calls Try.prog 11 #[.agg #[.int .i64 k, .int .i64 n, .string s, .slice a l c], v] w fun e w' => e = .returned (.tuple #[.agg #[.bool rb, .int .i64 rn], .int .i64 (re : Nat)]) ∧ Below w.heap.size w w') (hB : ¬ AT → ∀ yk yn ys ya yl yc z w, Tin w f yk yn ys ya yl yc → Vin w z (V.nmsOf RC) (V.valsOf RC) → Calls Try.prog 11 #[.agg #[.int .i64 yk, .int .i64 yn, .string ys, .slice ya yl yc], z] w fun e w' => e = .returned (.tuple #[.agg #[.bool rb, .int .i64 rn], .int .i64 (re : Nat)]) ∧ Below w.heap.size w w') (hVi : ∀ z w, V.RdV w z (V.nmsOf RC) (V.valsOf RC) → Vin w z (V.nmsOf RC) (V.valsOf RC)) : Calls Try.prog 8 #[.agg #[.int .i64 k, .int .i64 n, .string s, .slice a l c], v, .string sf, .string st] w fun e w' => e = .returned (.bool true) ∧ Below w.heap.size w w' := by
  have HL : Hid (∀ w, Tin w t k n s a l c → Vin w v ns vs → Calls Try.prog 9 #[.agg #[.int .i64 k, .int .i64 n, .string s, .slice a l c], v] w (SomeB w)) := fun w h1 h2 => light_any t k n s a l c v ns vs w h1 h2
  have HW : Hid (∀ w, Calls Try.prog 10 #[] w fun e w' => e = .returned (.bool true) ∧ Below w.heap.size w w') := works_any
  have HAsk : Hid (∀ w, Tin w t k n s a l c → Calls Try.prog 18 #[.agg #[.int .i64 k, .int .i64 n, .string s, .slice a l c], .string st] w fun e w' => ∃ b, e = .returned (.bool b) ∧ (b = true ↔ AT) ∧ Below w.heap.size w w') := hAsk
  have HC : Hid (∀ w, Vin w v ns vs → Calls Try.prog 15 #[v] w fun e w' => e = .returned (.int .i64 (V.chk ns vs : Nat)) ∧ Below w.heap.size w w') := fun w h => V.rCheck_any ns vs v w h.rd h.sz
  have HRen : Hid (∀ w, Tin w t k n s a l c → Calls Try.prog 23 #[.agg #[.int .i64 k, .int .i64 n, .string s, .slice a l c], .string sf, .string st] w (NPost w f fe)) := hRen
  have HGet : Hid (∀ w, Vin w v ns vs → Calls Try.prog 22 #[v, .string sf] w fun e w' => e = .returned (.tuple #[.int .i64 gv, .bool fb]) ∧ Below w.heap.size w w') := hGet
  have HO2 : Hid (∀ w z, V.RdL w z [(ns, vs), ([st], [gv])] → Calls Try.prog 19 #[z] w fun e w' => ∃ b1 d1 b2 d2, e = .returned (.tuple #[.agg #[.slice b1 LC d1, .slice b2 LC d2], .int .i64 0]) ∧ V.OwV w' w.heap.size (.agg #[.slice b1 LC d1, .slice b2 LC d2]) RC ∧ Below w.heap.size w w') := hO2
  have HOne : Hid (∀ w, Calls Try.prog 20 #[.string st, .int .i64 gv] w fun e w' => ∃ a1 c1 a2 c2, e = .returned (.agg #[.slice a1 1 c1, .slice a2 1 c2]) ∧ V.RdV w' (.agg #[.slice a1 1 c1, .slice a2 1 c2]) [st] [gv] ∧ Below w.heap.size w w') := fun w => one_form (st) gv w
  have HA : Hid (∀ w, Tin w t k n s a l c → Vin w v ns vs → Calls Try.prog 11 #[.agg #[.int .i64 k, .int .i64 n, .string s, .slice a l c], v] w fun e w' => e = .returned (.tuple #[.agg #[.bool rb, .int .i64 rn], .int .i64 (re : Nat)]) ∧ Below w.heap.size w w') := hA
  have HBn : Hid (¬ AT → ∀ yk yn ys ya yl yc z w, Tin w f yk yn ys ya yl yc → Vin w z (V.nmsOf RC) (V.valsOf RC) → Calls Try.prog 11 #[.agg #[.int .i64 yk, .int .i64 yn, .string ys, .slice ya yl yc], z] w fun e w' => e = .returned (.tuple #[.agg #[.bool rb, .int .i64 rn], .int .i64 (re : Nat)]) ∧ Below w.heap.size w w') := hB
  have HVi : Hid (∀ z w, V.RdV w z (V.nmsOf RC) (V.valsOf RC) → Vin w z (V.nmsOf RC) (V.valsOf RC)) := hVi
  obtain ⟨a1, n1, k1, a2, n2, k2, rfl⟩ := hV.form
  have HO : Hid (Own2 w _ t k n s a l c a1 n1 k1 a2 n2 k2 ns vs) := Own2.new hT hV
  clear hT hV
  rw [h0] at HC
  subst h1
  subst h2
  clear hAsk hRen hGet hO2 hA hB hVi
  unfold NPost at HRen
  go_enter Try.func8, Try.ntmps8
  go_wp2_with (first
    | (go_at_call 9; refine (HL.out _ HO.out.t.tin HO.out.v.v).mono ?_; rintro e w1 ⟨lb, rfl, HB⟩; have H1 : Hid (Own2 w w1 t k n s a l c a1 n1 k1 a2 n2 k2 ns vs) := HO.out.below HB; clear HB; obtain ⟨g1, c0, c1, f0, f1⟩ := H1.out.v.c; obtain ⟨p0, p1, p2, p3, p4⟩ := H1.out.t.cel; have hp := H1.out.t.cel.lt; cases lb)
    | (go_at_call 15; refine (HC.out _ H1.out.v.v).mono ?_; rintro e w2 ⟨rfl, HB⟩; have H2 : Hid (Own2 w w2 t k n s a l c a1 n1 k1 a2 n2 k2 ns vs) := H1.out.below HB; clear HB; obtain ⟨g1, c0, c1, f0, f1⟩ := H2.out.v.c; obtain ⟨p0, p1, p2, p3, p4⟩ := H2.out.t.cel; have hp := H2.out.t.cel.lt)
    | (go_at_call 18; refine (HAsk.out _ H2.out.t.tin).mono ?_; rintro e w3 ⟨kb, rfl, hkb, HB⟩; have H3 : Hid (Own2 w w3 t k n s a l c a1 n1 k1 a2 n2 k2 ns vs) := H2.out.below HB; have HKb : Hid (kb = true ↔ AT) := hkb; clear HB hkb; obtain ⟨g1, c0, c1, f0, f1⟩ := H3.out.v.c; obtain ⟨p0, p1, p2, p3, p4⟩ := H3.out.t.cel; have hp := H3.out.t.cel.lt; cases kb)
    | (go_at_call 23; refine (HRen.out _ H3.out.t.tin).mono ?_; rintro e w4 ⟨yk, yn, ys, ya, yl, yc, rfl, hy, HB⟩; have H4 : Hid (Own2 w w4 t k n s a l c a1 n1 k1 a2 n2 k2 ns vs ∧ Tin w4 f yk yn ys ya yl yc) := ⟨H3.out.below HB, ⟨_, hy⟩⟩; clear HB hy; obtain ⟨g1, c0, c1, f0, f1⟩ := H4.out.1.v.c; obtain ⟨p0, p1, p2, p3, p4⟩ := H4.out.1.t.cel; have hp := H4.out.1.t.cel.lt)
    | (go_at_call 22; refine (HGet.out _ (H4.out.1.alloc _).v.v).mono ?_; rintro e w5 ⟨rfl, HB⟩; have H5 : Hid (Own2 w w5 t k n s a l c a1 n1 k1 a2 n2 k2 ns vs ∧ WX w5 w4.heap.size f yk yn ys ya yl yc) := ⟨(H4.out.1.alloc _).below HB, WX.below ⟨Cell4.new w4 _ _ _ _ 24, H4.out.2.below (below_one _ _)⟩ HB⟩; clear HB)
    | (go_at_call 10; have := H5; refine (HW.out _).mono ?_; rintro e wz ⟨rfl, HB⟩; have HD : Hid (Below w.heap.size w wz) := (H5.out.1.low).trans (HB.mono (H5.out.1.low).size); clear HB)
    | (go_at_call 10; have := H3; refine (HW.out _).mono ?_; rintro e wz ⟨rfl, HB⟩; have HD : Hid (Below w.heap.size w wz) := (H3.out.low).trans (HB.mono (H3.out.low).size); clear HB)
    | (go_at_call 10; have := H2; refine (HW.out _).mono ?_; rintro e wz ⟨rfl, HB⟩; have HD : Hid (Below w.heap.size w wz) := (H2.out.low).trans (HB.mono (H2.out.low).size); clear HB)
    | (go_at_call 10; have := H1; refine (HW.out _).mono ?_; rintro e wz ⟨rfl, HB⟩; have HD : Hid (Below w.heap.size w wz) := (H1.out.low).trans (HB.mono (H1.out.low).size); clear HB))
  case' _ => skip
  all_goals first
    | (have := HD; go_ret; exact ⟨rfl, HD.out⟩)
    | skip
  have HVr : Hid (∀ w', Below w5.heap.size w5 w' → V.RdV w' (.agg #[.slice a1 n1 k1, .slice a2 n2 k2]) ns vs) := fun w' hb => (H5.out.1.below hb).v.v.rd
  have HVT : Hid (∀ w', Below w5.heap.size w5 w' → V.Two w' (w.heap.size + 1) (.slice a1 n1 k1) (.slice a2 n2 k2)) := fun w' hb => (H5.out.1.below hb).v.c
  have HB2 : Hid (∀ yk yn ys ya yl yc z w, Tin w f yk yn ys ya yl yc → Vin w z (V.nmsOf RC) (V.valsOf RC) → Calls Try.prog 11 #[.agg #[.int .i64 yk, .int .i64 yn, .string ys, .slice ya yl yc], z] w fun e w' => e = .returned (.tuple #[.agg #[.bool rb, .int .i64 rn], .int .i64 (re : Nat)]) ∧ Below w.heap.size w w') := HBn.out (fun h => absurd (HKb.out.2 h) (by decide))
  clear HBn
  have hvl : w.heap.size + 1 < w5.heap.size := (HVT.out _ (Below.refl _ _)).lt
  have hq5 : w5.heap.size ≠ w.heap.size + 1 := by omega
  have hq6 : w.heap.size + 1 ≠ w5.heap.size := by omega
  obtain ⟨g1, c0, c1, f0, f1⟩ := HVT.out w5 (Below.refl _ _)
  go_region_held3 (fun w' => w'.cell? ⟨w.heap.size + 1, 0, none⟩ = some (.slice a1 n1 k1) ∧ w'.cell? ⟨w.heap.size + 1, 1, none⟩ = some (.slice a2 n2 k2)) (go_keep) (first
    | (go_at_call 19; have := N7; refine (HO2.out _ _ (by first | exact RdLnew2 (HVr.out _ N7.out.1) N7.out.2 | exact rdl_b (HVr.out _ N7.out.1) N7.out.2 | exact rdl_c (HVr.out _ N7.out.1) N7.out.2)).mono ?_; rintro e w8 ⟨D1, D2, D3, D4, rfl, HO8, HB⟩; (first | (have hfa : V.Two w8 (w5.heap.size) (.slice none 0 0) (.slice none 0 0) ∧ Fin4 w5.heap.size w5 ((w8.setCell ⟨w5.heap.size, 0, none⟩ (.slice D1 LC D2)).setCell ⟨w5.heap.size, 1, none⟩ (.slice D3 LC D4)) (w5.heap.size) (.slice D1 LC D2) (.slice D3 LC D4) RC := fin_a T7.out HB HO8 N7.out.1 (Nat.le_refl _); obtain ⟨⟨s4, s0, s1, s2, s3⟩, hfin⟩ := hfa; have MA : Hid _ := hfin; clear hfin) | (have hfa : V.Two w8 (w7.heap.size) (.slice none 0 0) (.slice none 0 0) ∧ Fin4 w5.heap.size w5 ((w8.setCell ⟨w7.heap.size, 0, none⟩ (.slice D1 LC D2)).setCell ⟨w7.heap.size, 1, none⟩ (.slice D3 LC D4)) (w7.heap.size) (.slice D1 LC D2) (.slice D3 LC D4) RC := fin_b HB HO8 N7.out.1 N7.out.1.size; obtain ⟨⟨s4, s0, s1, s2, s3⟩, hfin⟩ := hfa; have MB : Hid _ := hfin; clear hfin) | (have hfa : V.Two w8 (w7.heap.size + 1) (.slice none 0 0) (.slice none 0 0) ∧ Fin4 w5.heap.size w5 ((w8.setCell ⟨w7.heap.size + 1, 0, none⟩ (.slice D1 LC D2)).setCell ⟨w7.heap.size + 1, 1, none⟩ (.slice D3 LC D4)) (w7.heap.size + 1) (.slice D1 LC D2) (.slice D3 LC D4) RC := fin_c HB HO8 N7.out.1 N7.out.1.size; obtain ⟨⟨s4, s0, s1, s2, s3⟩, hfin⟩ := hfa; have MC : Hid _ := hfin; clear hfin) | (have MD : Hid _ := fin_d HB HO8 N7.out.1 N7.out.1.size)); obtain ⟨g1, c0, c1, f0, f1⟩ := HVT.out w8 (by first | exact new_w8a N7.out.1 HB | exact new_w8b N7.out.1 HB); clear HB HO8 N7)
    | (go_at_call 20; refine (HOne.out _).mono ?_; rintro e w7 ⟨O1, O2, O3, O4, rfl, HR7, HB⟩; (first | (have T7 : Hid (V.Two w7 w5.heap.size (.slice none 0 0) (.slice none 0 0)) := (new_a HB).1) | (have T7 : Hid True := trivial)); have N7 : Hid (Below w5.heap.size w5 w7 ∧ V.RdV w7 (.agg #[.slice O1 1 O2, .slice O3 1 O4]) [st] [gv]) := ⟨by first | exact (new_a HB).2 | exact new_b HB, HR7⟩; obtain ⟨g1, c0, c1, f0, f1⟩ := HVT.out _ N7.out.1; (first | (obtain ⟨s4, s0, s1, s2, s3⟩ := T7.out) | skip); have hq7 : w5.heap.size ≤ w7.heap.size := N7.out.1.size; have hq1 : w7.heap.size + 1 ≠ w.heap.size + 1 := (by omega); have hq2 : w7.heap.size ≠ w.heap.size + 1 := (by omega); have hq3 : w.heap.size + 1 ≠ w7.heap.size + 1 := (by omega); have hq4 : w.heap.size + 1 ≠ w7.heap.size := (by omega); have hq8 : w7.heap.size ≠ w.heap.size := (by omega); have hq9 : w.heap.size ≠ w7.heap.size := (by omega); clear HB HR7))
  all_goals clear HOne HO2
  all_goals (first
    | (have HM : Hid (Fin4 w5.heap.size w5 ((w8.setCell ⟨w5.heap.size, 0, none⟩ (.slice D1 LC D2)).setCell ⟨w5.heap.size, 1, none⟩ (.slice D3 LC D4)) (w5.heap.size) (.slice D1 LC D2) (.slice D3 LC D4) RC) := MA.out; have HY : Hid (Own2 w ((w8.setCell ⟨w5.heap.size, 0, none⟩ (.slice D1 LC D2)).setCell ⟨w5.heap.size, 1, none⟩ (.slice D3 LC D4)) t k n s a l c a1 n1 k1 a2 n2 k2 ns vs ∧ V.Two ((w8.setCell ⟨w5.heap.size, 0, none⟩ (.slice D1 LC D2)).setCell ⟨w5.heap.size, 1, none⟩ (.slice D3 LC D4)) (w5.heap.size) (.slice D1 LC D2) (.slice D3 LC D4) ∧ V.RdV ((w8.setCell ⟨w5.heap.size, 0, none⟩ (.slice D1 LC D2)).setCell ⟨w5.heap.size, 1, none⟩ (.slice D3 LC D4)) (.agg #[.slice D1 LC D2, .slice D3 LC D4]) (V.nmsOf RC) (V.valsOf RC) ∧ WX ((w8.setCell ⟨w5.heap.size, 0, none⟩ (.slice D1 LC D2)).setCell ⟨w5.heap.size, 1, none⟩ (.slice D3 LC D4)) w4.heap.size f yk yn ys ya yl yc) := ⟨H5.out.1.below HM.out.1, HM.out.2.1, HM.out.2.2, H5.out.2.below HM.out.1⟩; clear HM MA; generalize ((w8.setCell ⟨w5.heap.size, 0, none⟩ (.slice D1 LC D2)).setCell ⟨w5.heap.size, 1, none⟩ (.slice D3 LC D4)) = w9 at *; generalize w5.heap.size = q at *)
    | (have HM : Hid (Fin4 w5.heap.size w5 ((w8.setCell ⟨w7.heap.size, 0, none⟩ (.slice D1 LC D2)).setCell ⟨w7.heap.size, 1, none⟩ (.slice D3 LC D4)) (w7.heap.size) (.slice D1 LC D2) (.slice D3 LC D4) RC) := MB.out; have HY : Hid (Own2 w ((w8.setCell ⟨w7.heap.size, 0, none⟩ (.slice D1 LC D2)).setCell ⟨w7.heap.size, 1, none⟩ (.slice D3 LC D4)) t k n s a l c a1 n1 k1 a2 n2 k2 ns vs ∧ V.Two ((w8.setCell ⟨w7.heap.size, 0, none⟩ (.slice D1 LC D2)).setCell ⟨w7.heap.size, 1, none⟩ (.slice D3 LC D4)) (w7.heap.size) (.slice D1 LC D2) (.slice D3 LC D4) ∧ V.RdV ((w8.setCell ⟨w7.heap.size, 0, none⟩ (.slice D1 LC D2)).setCell ⟨w7.heap.size, 1, none⟩ (.slice D3 LC D4)) (.agg #[.slice D1 LC D2, .slice D3 LC D4]) (V.nmsOf RC) (V.valsOf RC) ∧ WX ((w8.setCell ⟨w7.heap.size, 0, none⟩ (.slice D1 LC D2)).setCell ⟨w7.heap.size, 1, none⟩ (.slice D3 LC D4)) w4.heap.size f yk yn ys ya yl yc) := ⟨H5.out.1.below HM.out.1, HM.out.2.1, HM.out.2.2, H5.out.2.below HM.out.1⟩; clear HM MB; generalize ((w8.setCell ⟨w7.heap.size, 0, none⟩ (.slice D1 LC D2)).setCell ⟨w7.heap.size, 1, none⟩ (.slice D3 LC D4)) = w9 at *; generalize w7.heap.size = q at *)
    | (have HM : Hid (Fin4 w5.heap.size w5 ((w8.setCell ⟨w7.heap.size + 1, 0, none⟩ (.slice D1 LC D2)).setCell ⟨w7.heap.size + 1, 1, none⟩ (.slice D3 LC D4)) (w7.heap.size + 1) (.slice D1 LC D2) (.slice D3 LC D4) RC) := MC.out; have HY : Hid (Own2 w ((w8.setCell ⟨w7.heap.size + 1, 0, none⟩ (.slice D1 LC D2)).setCell ⟨w7.heap.size + 1, 1, none⟩ (.slice D3 LC D4)) t k n s a l c a1 n1 k1 a2 n2 k2 ns vs ∧ V.Two ((w8.setCell ⟨w7.heap.size + 1, 0, none⟩ (.slice D1 LC D2)).setCell ⟨w7.heap.size + 1, 1, none⟩ (.slice D3 LC D4)) (w7.heap.size + 1) (.slice D1 LC D2) (.slice D3 LC D4) ∧ V.RdV ((w8.setCell ⟨w7.heap.size + 1, 0, none⟩ (.slice D1 LC D2)).setCell ⟨w7.heap.size + 1, 1, none⟩ (.slice D3 LC D4)) (.agg #[.slice D1 LC D2, .slice D3 LC D4]) (V.nmsOf RC) (V.valsOf RC) ∧ WX ((w8.setCell ⟨w7.heap.size + 1, 0, none⟩ (.slice D1 LC D2)).setCell ⟨w7.heap.size + 1, 1, none⟩ (.slice D3 LC D4)) w4.heap.size f yk yn ys ya yl yc) := ⟨H5.out.1.below HM.out.1, HM.out.2.1, HM.out.2.2, H5.out.2.below HM.out.1⟩; clear HM MC; generalize ((w8.setCell ⟨w7.heap.size + 1, 0, none⟩ (.slice D1 LC D2)).setCell ⟨w7.heap.size + 1, 1, none⟩ (.slice D3 LC D4)) = w9 at *; generalize w7.heap.size + 1 = q at *)
    | (have HM : Hid (Fin4 w5.heap.size w5 (w8.alloc (.cells #[.slice D1 LC D2, .slice D3 LC D4] 28)) w8.heap.size (.slice D1 LC D2) (.slice D3 LC D4) RC) := MD.out; have HY : Hid (Own2 w (w8.alloc (.cells #[.slice D1 LC D2, .slice D3 LC D4] 28)) t k n s a l c a1 n1 k1 a2 n2 k2 ns vs ∧ V.Two (w8.alloc (.cells #[.slice D1 LC D2, .slice D3 LC D4] 28)) (w8.heap.size) (.slice D1 LC D2) (.slice D3 LC D4) ∧ V.RdV (w8.alloc (.cells #[.slice D1 LC D2, .slice D3 LC D4] 28)) (.agg #[.slice D1 LC D2, .slice D3 LC D4]) (V.nmsOf RC) (V.valsOf RC) ∧ WX (w8.alloc (.cells #[.slice D1 LC D2, .slice D3 LC D4] 28)) w4.heap.size f yk yn ys ya yl yc) := ⟨H5.out.1.below HM.out.1, HM.out.2.1, HM.out.2.2, H5.out.2.below HM.out.1⟩; clear HM MD; generalize w8.alloc (.cells #[.slice D1 LC D2, .slice D3 LC D4] 28) = w9 at *; generalize w8.heap.size = q at *))
  all_goals (
    have HX : Hid (Own2 w w9 t k n s a l c a1 n1 k1 a2 n2 k2 ns vs ∧ WV w9 q D1 LC D2 D3 LC D4 (V.nmsOf RC) (V.valsOf RC) ∧ WX w9 w4.heap.size f yk yn ys ya yl yc) := ⟨HY.out.1, ⟨HY.out.2.1, HVi.out _ _ HY.out.2.2.1⟩, HY.out.2.2.2⟩
    clear HY HVi HVr HVT H1 H2 H3 H4 H5
    obtain ⟨g1, c0, c1, f0, f1⟩ := HX.out.1.v.c
    obtain ⟨p0, p1, p2, p3, p4⟩ := HX.out.1.t.cel
    have hp := HX.out.1.t.cel.lt
    go_wp2_with (first
      | (go_at_call 11; have := K1; refine (HB2.out _ _ _ _ _ _ _ _ (K1.out.2.2.below (below_one _ _)).tin (K1.out.2.1.below (below_one _ _)).v).mono ?_; rintro e w11 ⟨rfl, HB⟩; have K2 : Hid (Below w.heap.size w (w11.alloc (.cells #[.bool rb, .int .i64 rn] 32)) ∧ V.Two w11 w10.heap.size (.bool rb) (.int .i64 rn)) := ⟨((K1.out.1.alloc _).below HB).low.alloc ((K1.out.1.alloc _).below HB).low.size _, (V.Two.new w10 _ _ 32).below HB⟩; clear HB K1; obtain ⟨u4, u0, u1, u2, u3⟩ := K2.out.2)
      | (go_at_call 11; refine (HA.out _ HX.out.1.t.tin HX.out.1.v.v).mono ?_; rintro e w10 ⟨rfl, HB⟩; have K1 : Hid (Own2 w w10 t k n s a l c a1 n1 k1 a2 n2 k2 ns vs ∧ WV w10 q D1 LC D2 D3 LC D4 (V.nmsOf RC) (V.valsOf RC) ∧ WX w10 w4.heap.size f yk yn ys ya yl yc) := ⟨HX.out.1.below HB, HX.out.2.1.below HB, HX.out.2.2.below HB⟩; clear HB HX; obtain ⟨u4, u0, u1, u2, u3⟩ := K1.out.2.1.c; obtain ⟨y0, y1, y2, y3, y4⟩ := K1.out.2.2.cel; have hyl := K1.out.2.2.cel.lt)
      | (go_at_call 10; refine (HW.out _).mono ?_; rintro e wz ⟨rfl, HB⟩; have HD : Hid (Below w.heap.size w wz) := K2.out.1.trans (HB.mono K2.out.1.size); clear HB))
    go_ret
    exact ⟨rfl, HD.out⟩)
theorem evalRenames_walk (t : Tr) (k n : Int) (s : ByteArray) (a : Option Addr) (l c : Nat) (v : Value) (ns : List ByteArray) (vs : List Int) (w : World) (hT : Tin w t k n s a l c) (hV : Vin w v ns vs) (fr to : Bs) (hfr : fr.length ≤ 9223372036854775807) (hto : to.length ≤ 9223372036854775807) : Calls Try.prog 8 #[.agg #[.int .i64 k, .int .i64 n, .string s, .slice a l c], v, .string (ba fr), .string (ba to)] w fun e w' => e = .returned (.bool true) ∧ Below w.heap.size w w' := by
  have hAsk : ∀ w, Tin w t k n s a l c → Calls Try.prog 18 #[.agg #[.int .i64 k, .int .i64 n, .string s, .slice a l c], .string (ba to)] w fun e w' => ∃ b, e = .returned (.bool b) ∧ (b = true ↔ Asked to t) ∧ Below w.heap.size w w' := fun w h => Asks_in to h
  by_cases h0 : V.chk ns vs = 0
  · have hRen : ∀ w, Tin w t k n s a l c → Calls Try.prog 23 #[.agg #[.int .i64 k, .int .i64 n, .string s, .slice a l c], .string (ba fr), .string (ba to)] w (NPost w (renameM fr to t).1 (renameM fr to t).2) := fun w h => RRename_in fr to hto h
    have hGet : ∀ w, Vin w v ns vs → Calls Try.prog 22 #[v, .string (ba fr)] w fun e w' => e = .returned (.tuple #[.int .i64 (V.getV (V.zipV (ns, vs)) (ba fr)), .bool (V.fnd (V.nmsOf (V.zipV (ns, vs))) (ba fr))]) ∧ Below w.heap.size w w' := fun w hV => by
      have hk := vok_of hV.rd h0
      exact V.rGet_any _ (ba fr) v w hk.rd hk.srt (Nat.le_trans hk.len (by decide))
    have hk := vok_of hV.rd h0
    by_cases h1 : (renameM fr to t).2 = 0
    · rcases get_look hk.srt fr with ⟨h2, h3⟩ | ⟨h2, h3⟩
      · have hin : InR (V.getV (V.zipV (ns, vs)) (ba fr)) := envN_in hV.num fr _ h3
        have hO2 := of2_own (x := (ns, vs)) (y := ([ba to], [V.getV (V.zipV (ns, vs)) (ba fr)])) hV.sz (fun m hm => by rw [List.mem_singleton.1 hm, ba_size]; exact hto)
        by_cases h4 : (V.ofM [(ns, vs), ([ba to], [V.getV (V.zipV (ns, vs)) (ba fr)])]).1 = 0
        · have hof : V.ofM [(ns, vs), ([ba to], [V.getV (V.zipV (ns, vs)) (ba fr)])] = (0, (V.ofM [(ns, vs), ([ba to], [V.getV (V.zipV (ns, vs)) (ba fr)])]).2) := by
            rw [← h4]
          obtain ⟨m1, m2, m3⟩ := more_in hof hV.num hin
          rw [h4] at hO2
          have hA : ∀ w, Tin w t k n s a l c → Vin w v ns vs → Calls Try.prog 11 #[.agg #[.int .i64 k, .int .i64 n, .string s, .slice a l c], v] w (EvP (ofM (envN ns vs) (V.chk ns vs) t) w) := fun w h1 h2 => of_any t k n s a l c v ns vs w h1 h2
          refine ren_go t k n s a l c v ns vs w hT hV (ba fr) (ba to) (Asked to t) hAsk _ _ hRen _ _ hGet h0 h1 h2 _ _ hO2 _ _ _ hA ?_ (fun z w h => ⟨h, m1, m2⟩)
          intro hn yk yn ys ya yl yc z w h5 h6
          have := of_any (renameM fr to t).1 yk yn ys ya yl yc z _ _ w h5 h6
          rw [m3] at this
          rw [h0]
          have e : ofM (envN (V.nmsOf (V.ofM [(ns, vs), ([ba to], [V.getV (V.zipV (ns, vs)) (ba fr)])]).2) (V.valsOf (V.ofM [(ns, vs), ([ba to], [V.getV (V.zipV (ns, vs)) (ba fr)])]).2)) 0 (renameM fr to t).1 = ofM (envN ns vs) 0 t := of_ren h1 fun m hm => by
            rw [more_env hof]
            by_cases hmf : m = fr
            · rw [if_pos hmf, if_pos rfl, hmf]; exact h3.symm
            · have hmt : m ≠ to := fun e => by subst e; exact hn hm
              rw [if_neg hmf, if_neg hmt]
          rw [e] at this
          exact this
        · exact ren_no t k n s a l c v ns vs w hT hV (ba fr) (ba to) (Asked to t) hAsk _ _ hRen _ _ hGet h0 h1 h2 _ h4 _ _ hO2
      · exact ren_none t k n s a l c v ns vs w hT hV (ba fr) (ba to) (Asked to t) hAsk _ _ hRen _ _ hGet h0 h1 h2
    · exact ren_err t k n s a l c v ns vs w hT hV (ba fr) (ba to) (Asked to t) hAsk _ _ hRen _ _ hGet h0 h1
  · exact ren_ck t k n s a l c v ns vs w hT hV (ba fr) (ba to) (Asked to t) hAsk h0
end Go.Proofs.Ytfjphlejhcdbaaa
