/-
  The laws of what conditions come to: EvalAsks.
-/
import Derived.Test.YtfjphlejhcdbaaaLst
namespace Go.Proofs.Ytfjphlejhcdbaaa
open Go.RowKit
set_option linter.unusedVariables false

theorem RNames_in {w : World} {t : Tr} {k n : Int} {s : ByteArray} {a : Option Addr} {l c : Nat} (h : Tin w t k n s a l c) : Calls Try.prog 21 #[.agg #[.int .i64 k, .int .i64 n, .string s, .slice a l c]] w (NmPost w (namesM t)) := by
  obtain ⟨P, hT⟩ := h.tre
  exact RNames_any P t k n s a l c w hT
theorem Asks_in {w : World} {t : Tr} {k n : Int} {s : ByteArray} {a : Option Addr} {l c : Nat} (nm : Bs) (h : Tin w t k n s a l c) : Calls Try.prog 18 #[.agg #[.int .i64 k, .int .i64 n, .string s, .slice a l c], .string (ba nm)] w (AskP nm t w) := by
  obtain ⟨P, hT⟩ := h.tre
  exact Asks_any nm P t k n s a l c w hT
theorem TxtV.below {w w' : World} {v : Value} {l : List Bs} (h : TxtV w v l) (hb : Below w.heap.size w w') : TxtV w' v l := by
  obtain ⟨a, cap, h1, h2, h3, h4⟩ := h
  refine ⟨a, cap, h1, h2, h3, ?_⟩
  rcases h4 with h4 | ⟨g, e, hg, hc⟩
  · exact .inl h4
  · exact .inr ⟨g, e, Nat.lt_of_lt_of_le hg hb.size, fun i hi => (hb.cell (p := ⟨g, i, none⟩) hg).trans (hc i hi)⟩
set_option maxRecDepth 100000 in
set_option maxHeartbeats 4000000 in
theorem asks_ck (t : Tr) (k n : Int) (s : ByteArray) (a : Option Addr) (l c : Nat) (v : Value) (ns : List ByteArray) (vs : List Int) (w : World) (hT : Tin w t k n s a l c) (hV : Vin w v ns vs) (nm : Bs) (x : Int) (h0 : V.chk ns vs ≠ 0) : Calls Try.prog 7 #[.agg #[.int .i64 k, .int .i64 n, .string s, .slice a l c], v, .string (ba nm), .int .i64 x] w fun e w' => e = .returned (.bool true) ∧ Below w.heap.size w w' := by
  have HL : Hid (∀ w, Tin w t k n s a l c → Vin w v ns vs → Calls Try.prog 9 #[.agg #[.int .i64 k, .int .i64 n, .string s, .slice a l c], v] w (SomeB w)) := fun w h1 h2 => light_any t k n s a l c v ns vs w h1 h2
  have HW : Hid (∀ w, Calls Try.prog 10 #[] w fun e w' => e = .returned (.bool true) ∧ Below w.heap.size w w') := works_any
  have HAsk : Hid (∀ w, Tin w t k n s a l c → Calls Try.prog 18 #[.agg #[.int .i64 k, .int .i64 n, .string s, .slice a l c], .string (ba nm)] w (AskP nm t w)) := fun w h => Asks_in nm h
  have HC : Hid (∀ w, Vin w v ns vs → Calls Try.prog 15 #[v] w fun e w' => e = .returned (.int .i64 (V.chk ns vs : Nat)) ∧ Below w.heap.size w w') := fun w h => V.rCheck_any ns vs v w h.rd h.sz
  obtain ⟨a1, n1, k1, a2, n2, k2, rfl⟩ := hV.form
  have HO : Hid (Own2 w _ t k n s a l c a1 n1 k1 a2 n2 k2 ns vs) := Own2.new hT hV
  clear hT hV
  have hz := nz h0
  generalize V.chk ns vs = ck at *
  unfold AskP at HAsk
  generalize ba nm = sn at *
  generalize hAs : Asked nm t = AT at *
  go_enter Try.func7, Try.ntmps7
  go_wp2_with (first
    | (go_at_call 9; refine (HL.out _ HO.out.t.tin HO.out.v.v).mono ?_; rintro e w1 ⟨lb, rfl, HB⟩; have H1 : Hid (Own2 w w1 t k n s a l c a1 n1 k1 a2 n2 k2 ns vs) := HO.out.below HB; clear HB; obtain ⟨g1, c0, c1, f0, f1⟩ := H1.out.v.c; obtain ⟨p0, p1, p2, p3, p4⟩ := H1.out.t.cel; have hp := H1.out.t.cel.lt; cases lb)
    | (go_at_call 18; refine (HAsk.out _ H1.out.t.tin).mono ?_; rintro e w2 ⟨kb, rfl, hkb, HB⟩; have H2 : Hid (Own2 w w2 t k n s a l c a1 n1 k1 a2 n2 k2 ns vs) := H1.out.below HB; have HKb : Hid (kb = true ↔ AT) := hkb; clear HB hkb; obtain ⟨g1, c0, c1, f0, f1⟩ := H2.out.v.c; obtain ⟨p0, p1, p2, p3, p4⟩ := H2.out.t.cel; have hp := H2.out.t.cel.lt; cases kb)
    | (go_at_call 15; refine (HC.out _ H2.out.v.v).mono ?_; rintro e w3 ⟨rfl, HB⟩; have H3 : Hid (Own2 w w3 t k n s a l c a1 n1 k1 a2 n2 k2 ns vs) := H2.out.below HB; clear HB)
    | (go_at_call 10; have := H3; refine (HW.out _).mono ?_; rintro e wz ⟨rfl, HB⟩; have HD : Hid (Below w.heap.size w wz) := (H3.out.low).trans (HB.mono (H3.out.low).size); clear HB)
    | (go_at_call 10; have := H2; refine (HW.out _).mono ?_; rintro e wz ⟨rfl, HB⟩; have HD : Hid (Below w.heap.size w wz) := (H2.out.low).trans (HB.mono (H2.out.low).size); clear HB)
    | (go_at_call 10; have := H1; refine (HW.out _).mono ?_; rintro e wz ⟨rfl, HB⟩; have HD : Hid (Below w.heap.size w wz) := (H1.out.low).trans (HB.mono (H1.out.low).size); clear HB))
  all_goals (
    go_ret
    exact ⟨rfl, HD.out⟩)
set_option maxRecDepth 100000 in
set_option maxHeartbeats 4000000 in
theorem asks_no (t : Tr) (k n : Int) (s : ByteArray) (a : Option Addr) (l c : Nat) (v : Value) (ns : List ByteArray) (vs : List Int) (w : World) (hT : Tin w t k n s a l c) (hV : Vin w v ns vs) (nm : Bs) (sn : ByteArray) (hsn : ba nm = sn) (x : Int) (h0 : V.chk ns vs = 0) (ec LC : Nat) (RC : V.VL) (hec : ec ≠ 0) (hO2 : ∀ w z, V.RdL w z [(ns, vs), ([sn], [x])] → Calls Try.prog 19 #[z] w fun e w' => ∃ b1 d1 b2 d2, e = .returned (.tuple #[.agg #[.slice b1 LC d1, .slice b2 LC d2], .int .i64 (ec : Nat)]) ∧ V.OwV w' w.heap.size (.agg #[.slice b1 LC d1, .slice b2 LC d2]) RC ∧ Below w.heap.size w w') : Calls Try.prog 7 #[.agg #[.int .i64 k, .int .i64 n, .string s, .slice a l c], v, .string sn, .int .i64 x] w fun e w' => e = .returned (.bool true) ∧ Below w.heap.size w w' := by
  have HL : Hid (∀ w, Tin w t k n s a l c → Vin w v ns vs → Calls Try.prog 9 #[.agg #[.int .i64 k, .int .i64 n, .string s, .slice a l c], v] w (SomeB w)) := fun w h1 h2 => light_any t k n s a l c v ns vs w h1 h2
  have HW : Hid (∀ w, Calls Try.prog 10 #[] w fun e w' => e = .returned (.bool true) ∧ Below w.heap.size w w') := works_any
  have HAsk : Hid (∀ w, Tin w t k n s a l c → Calls Try.prog 18 #[.agg #[.int .i64 k, .int .i64 n, .string s, .slice a l c], .string sn] w (AskP nm t w)) := fun w h => by rw [← hsn]; exact Asks_in nm h
  have HC : Hid (∀ w, Vin w v ns vs → Calls Try.prog 15 #[v] w fun e w' => e = .returned (.int .i64 (V.chk ns vs : Nat)) ∧ Below w.heap.size w w') := fun w h => V.rCheck_any ns vs v w h.rd h.sz
  have HO2 : Hid (∀ w z, V.RdL w z [(ns, vs), ([sn], [x])] → Calls Try.prog 19 #[z] w fun e w' => ∃ b1 d1 b2 d2, e = .returned (.tuple #[.agg #[.slice b1 LC d1, .slice b2 LC d2], .int .i64 (ec : Nat)]) ∧ V.OwV w' w.heap.size (.agg #[.slice b1 LC d1, .slice b2 LC d2]) RC ∧ Below w.heap.size w w') := hO2
  have HOne : Hid (∀ w, Calls Try.prog 20 #[.string sn, .int .i64 x] w fun e w' => ∃ a1 c1 a2 c2, e = .returned (.agg #[.slice a1 1 c1, .slice a2 1 c2]) ∧ V.RdV w' (.agg #[.slice a1 1 c1, .slice a2 1 c2]) [sn] [x] ∧ Below w.heap.size w w') := fun w => one_form (sn) x w
  obtain ⟨a1, n1, k1, a2, n2, k2, rfl⟩ := hV.form
  have HO : Hid (Own2 w _ t k n s a l c a1 n1 k1 a2 n2 k2 ns vs) := Own2.new hT hV
  clear hT hV
  rw [h0] at HC
  have hz := nz hec
  clear hO2 hsn
  unfold AskP at HAsk
  generalize hAs : Asked nm t = AT at *
  go_enter Try.func7, Try.ntmps7
  go_wp2_with (first
    | (go_at_call 9; refine (HL.out _ HO.out.t.tin HO.out.v.v).mono ?_; rintro e w1 ⟨lb, rfl, HB⟩; have H1 : Hid (Own2 w w1 t k n s a l c a1 n1 k1 a2 n2 k2 ns vs) := HO.out.below HB; clear HB; obtain ⟨g1, c0, c1, f0, f1⟩ := H1.out.v.c; obtain ⟨p0, p1, p2, p3, p4⟩ := H1.out.t.cel; have hp := H1.out.t.cel.lt; cases lb)
    | (go_at_call 18; refine (HAsk.out _ H1.out.t.tin).mono ?_; rintro e w2 ⟨kb, rfl, hkb, HB⟩; have H2 : Hid (Own2 w w2 t k n s a l c a1 n1 k1 a2 n2 k2 ns vs) := H1.out.below HB; have HKb : Hid (kb = true ↔ AT) := hkb; clear HB hkb; obtain ⟨g1, c0, c1, f0, f1⟩ := H2.out.v.c; obtain ⟨p0, p1, p2, p3, p4⟩ := H2.out.t.cel; have hp := H2.out.t.cel.lt; cases kb)
    | (go_at_call 15; refine (HC.out _ H2.out.v.v).mono ?_; rintro e w3 ⟨rfl, HB⟩; have H3 : Hid (Own2 w w3 t k n s a l c a1 n1 k1 a2 n2 k2 ns vs) := H2.out.below HB; clear HB)
    | (go_at_call 10; have := H2; refine (HW.out _).mono ?_; rintro e wz ⟨rfl, HB⟩; have HD : Hid (Below w.heap.size w wz) := (H2.out.low).trans (HB.mono (H2.out.low).size); clear HB)
    | (go_at_call 10; have := H1; refine (HW.out _).mono ?_; rintro e wz ⟨rfl, HB⟩; have HD : Hid (Below w.heap.size w wz) := (H1.out.low).trans (HB.mono (H1.out.low).size); clear HB))
  case' _ => skip
  all_goals first
    | (have := HD; go_ret; exact ⟨rfl, HD.out⟩)
    | skip
  have HVr : Hid (∀ w', Below w3.heap.size w3 w' → V.RdV w' (.agg #[.slice a1 n1 k1, .slice a2 n2 k2]) ns vs) := fun w' hb => (H3.out.below hb).v.v.rd
  have HVT : Hid (∀ w', Below w3.heap.size w3 w' → V.Two w' (w.heap.size + 1) (.slice a1 n1 k1) (.slice a2 n2 k2)) := fun w' hb => (H3.out.below hb).v.c
  have hvl : w.heap.size + 1 < w3.heap.size := (HVT.out _ (Below.refl _ _)).lt
  have hq5 : w3.heap.size ≠ w.heap.size + 1 := by omega
  have hq6 : w.heap.size + 1 ≠ w3.heap.size := by omega
  obtain ⟨g1, c0, c1, f0, f1⟩ := HVT.out w3 (Below.refl _ _)
  go_region_held3 (fun w' => w'.cell? ⟨w.heap.size + 1, 0, none⟩ = some (.slice a1 n1 k1) ∧ w'.cell? ⟨w.heap.size + 1, 1, none⟩ = some (.slice a2 n2 k2)) (go_keep) (first
    | (go_at_call 19; have := N7; refine (HO2.out _ _ (by first | exact RdLnew2 (HVr.out _ N7.out.1) N7.out.2 | exact rdl_b (HVr.out _ N7.out.1) N7.out.2 | exact rdl_c (HVr.out _ N7.out.1) N7.out.2)).mono ?_; rintro e w8 ⟨D1, D2, D3, D4, rfl, HO8, HB⟩; (first | (have hfa : V.Two w8 (w3.heap.size) (.slice none 0 0) (.slice none 0 0) ∧ Fin4 w3.heap.size w3 ((w8.setCell ⟨w3.heap.size, 0, none⟩ (.slice D1 LC D2)).setCell ⟨w3.heap.size, 1, none⟩ (.slice D3 LC D4)) (w3.heap.size) (.slice D1 LC D2) (.slice D3 LC D4) RC := fin_a T7.out HB HO8 N7.out.1 (Nat.le_refl _); obtain ⟨⟨s4, s0, s1, s2, s3⟩, hfin⟩ := hfa; have MA : Hid _ := hfin; clear hfin) | (have hfa : V.Two w8 (w7.heap.size) (.slice none 0 0) (.slice none 0 0) ∧ Fin4 w3.heap.size w3 ((w8.setCell ⟨w7.heap.size, 0, none⟩ (.slice D1 LC D2)).setCell ⟨w7.heap.size, 1, none⟩ (.slice D3 LC D4)) (w7.heap.size) (.slice D1 LC D2) (.slice D3 LC D4) RC := fin_b HB HO8 N7.out.1 N7.out.1.size; obtain ⟨⟨s4, s0, s1, s2, s3⟩, hfin⟩ := hfa; have MB : Hid _ := hfin; clear hfin) | (have hfa : V.Two w8 (w7.heap.size + 1) (.slice none 0 0) (.slice none 0 0) ∧ Fin4 w3.heap.size w3 ((w8.setCell ⟨w7.heap.size + 1, 0, none⟩ (.slice D1 LC D2)).setCell ⟨w7.heap.size + 1, 1, none⟩ (.slice D3 LC D4)) (w7.heap.size + 1) (.slice D1 LC D2) (.slice D3 LC D4) RC := fin_c HB HO8 N7.out.1 N7.out.1.size; obtain ⟨⟨s4, s0, s1, s2, s3⟩, hfin⟩ := hfa; have MC : Hid _ := hfin; clear hfin) | (have MD : Hid _ := fin_d HB HO8 N7.out.1 N7.out.1.size)); obtain ⟨g1, c0, c1, f0, f1⟩ := HVT.out w8 (by first | exact new_w8a N7.out.1 HB | exact new_w8b N7.out.1 HB); clear HB HO8 N7)
    | (go_at_call 20; refine (HOne.out _).mono ?_; rintro e w7 ⟨O1, O2, O3, O4, rfl, HR7, HB⟩; (first | (have T7 : Hid (V.Two w7 w3.heap.size (.slice none 0 0) (.slice none 0 0)) := (new_a HB).1) | (have T7 : Hid True := trivial)); have N7 : Hid (Below w3.heap.size w3 w7 ∧ V.RdV w7 (.agg #[.slice O1 1 O2, .slice O3 1 O4]) [sn] [x]) := ⟨by first | exact (new_a HB).2 | exact new_b HB, HR7⟩; obtain ⟨g1, c0, c1, f0, f1⟩ := HVT.out _ N7.out.1; (first | (obtain ⟨s4, s0, s1, s2, s3⟩ := T7.out) | skip); have hq7 : w3.heap.size ≤ w7.heap.size := N7.out.1.size; have hq1 : w7.heap.size + 1 ≠ w.heap.size + 1 := (by omega); have hq2 : w7.heap.size ≠ w.heap.size + 1 := (by omega); have hq3 : w.heap.size + 1 ≠ w7.heap.size + 1 := (by omega); have hq4 : w.heap.size + 1 ≠ w7.heap.size := (by omega); have hq8 : w7.heap.size ≠ w.heap.size := (by omega); have hq9 : w.heap.size ≠ w7.heap.size := (by omega); clear HB HR7))
  all_goals clear HOne HO2
  all_goals (first
    | (have HM : Hid (Fin4 w3.heap.size w3 ((w8.setCell ⟨w3.heap.size, 0, none⟩ (.slice D1 LC D2)).setCell ⟨w3.heap.size, 1, none⟩ (.slice D3 LC D4)) (w3.heap.size) (.slice D1 LC D2) (.slice D3 LC D4) RC) := MA.out; have HY : Hid (Own2 w ((w8.setCell ⟨w3.heap.size, 0, none⟩ (.slice D1 LC D2)).setCell ⟨w3.heap.size, 1, none⟩ (.slice D3 LC D4)) t k n s a l c a1 n1 k1 a2 n2 k2 ns vs ∧ V.Two ((w8.setCell ⟨w3.heap.size, 0, none⟩ (.slice D1 LC D2)).setCell ⟨w3.heap.size, 1, none⟩ (.slice D3 LC D4)) (w3.heap.size) (.slice D1 LC D2) (.slice D3 LC D4) ∧ V.RdV ((w8.setCell ⟨w3.heap.size, 0, none⟩ (.slice D1 LC D2)).setCell ⟨w3.heap.size, 1, none⟩ (.slice D3 LC D4)) (.agg #[.slice D1 LC D2, .slice D3 LC D4]) (V.nmsOf RC) (V.valsOf RC)) := ⟨H3.out.below HM.out.1, HM.out.2.1, HM.out.2.2⟩; clear HM MA; generalize ((w8.setCell ⟨w3.heap.size, 0, none⟩ (.slice D1 LC D2)).setCell ⟨w3.heap.size, 1, none⟩ (.slice D3 LC D4)) = w9 at *; generalize w3.heap.size = q at *)
    | (have HM : Hid (Fin4 w3.heap.size w3 ((w8.setCell ⟨w7.heap.size, 0, none⟩ (.slice D1 LC D2)).setCell ⟨w7.heap.size, 1, none⟩ (.slice D3 LC D4)) (w7.heap.size) (.slice D1 LC D2) (.slice D3 LC D4) RC) := MB.out; have HY : Hid (Own2 w ((w8.setCell ⟨w7.heap.size, 0, none⟩ (.slice D1 LC D2)).setCell ⟨w7.heap.size, 1, none⟩ (.slice D3 LC D4)) t k n s a l c a1 n1 k1 a2 n2 k2 ns vs ∧ V.Two ((w8.setCell ⟨w7.heap.size, 0, none⟩ (.slice D1 LC D2)).setCell ⟨w7.heap.size, 1, none⟩ (.slice D3 LC D4)) (w7.heap.size) (.slice D1 LC D2) (.slice D3 LC D4) ∧ V.RdV ((w8.setCell ⟨w7.heap.size, 0, none⟩ (.slice D1 LC D2)).setCell ⟨w7.heap.size, 1, none⟩ (.slice D3 LC D4)) (.agg #[.slice D1 LC D2, .slice D3 LC D4]) (V.nmsOf RC) (V.valsOf RC)) := ⟨H3.out.below HM.out.1, HM.out.2.1, HM.out.2.2⟩; clear HM MB; generalize ((w8.setCell ⟨w7.heap.size, 0, none⟩ (.slice D1 LC D2)).setCell ⟨w7.heap.size, 1, none⟩ (.slice D3 LC D4)) = w9 at *; generalize w7.heap.size = q at *)
    | (have HM : Hid (Fin4 w3.heap.size w3 ((w8.setCell ⟨w7.heap.size + 1, 0, none⟩ (.slice D1 LC D2)).setCell ⟨w7.heap.size + 1, 1, none⟩ (.slice D3 LC D4)) (w7.heap.size + 1) (.slice D1 LC D2) (.slice D3 LC D4) RC) := MC.out; have HY : Hid (Own2 w ((w8.setCell ⟨w7.heap.size + 1, 0, none⟩ (.slice D1 LC D2)).setCell ⟨w7.heap.size + 1, 1, none⟩ (.slice D3 LC D4)) t k n s a l c a1 n1 k1 a2 n2 k2 ns vs ∧ V.Two ((w8.setCell ⟨w7.heap.size + 1, 0, none⟩ (.slice D1 LC D2)).setCell ⟨w7.heap.size + 1, 1, none⟩ (.slice D3 LC D4)) (w7.heap.size + 1) (.slice D1 LC D2) (.slice D3 LC D4) ∧ V.RdV ((w8.setCell ⟨w7.heap.size + 1, 0, none⟩ (.slice D1 LC D2)).setCell ⟨w7.heap.size + 1, 1, none⟩ (.slice D3 LC D4)) (.agg #[.slice D1 LC D2, .slice D3 LC D4]) (V.nmsOf RC) (V.valsOf RC)) := ⟨H3.out.below HM.out.1, HM.out.2.1, HM.out.2.2⟩; clear HM MC; generalize ((w8.setCell ⟨w7.heap.size + 1, 0, none⟩ (.slice D1 LC D2)).setCell ⟨w7.heap.size + 1, 1, none⟩ (.slice D3 LC D4)) = w9 at *; generalize w7.heap.size + 1 = q at *)
    | (have HM : Hid (Fin4 w3.heap.size w3 (w8.alloc (.cells #[.slice D1 LC D2, .slice D3 LC D4] 28)) w8.heap.size (.slice D1 LC D2) (.slice D3 LC D4) RC) := MD.out; have HY : Hid (Own2 w (w8.alloc (.cells #[.slice D1 LC D2, .slice D3 LC D4] 28)) t k n s a l c a1 n1 k1 a2 n2 k2 ns vs ∧ V.Two (w8.alloc (.cells #[.slice D1 LC D2, .slice D3 LC D4] 28)) (w8.heap.size) (.slice D1 LC D2) (.slice D3 LC D4) ∧ V.RdV (w8.alloc (.cells #[.slice D1 LC D2, .slice D3 LC D4] 28)) (.agg #[.slice D1 LC D2, .slice D3 LC D4]) (V.nmsOf RC) (V.valsOf RC)) := ⟨H3.out.below HM.out.1, HM.out.2.1, HM.out.2.2⟩; clear HM MD; generalize w8.alloc (.cells #[.slice D1 LC D2, .slice D3 LC D4] 28) = w9 at *; generalize w8.heap.size = q at *))
  all_goals (
    have HLo : Hid (Below w.heap.size w w9) := HY.out.1.low
    go_wp2_with (go_at_call 10; refine (HW.out _).mono ?_; rintro e wz ⟨rfl, HB⟩; have HD : Hid (Below w.heap.size w wz) := HLo.out.trans (HB.mono HLo.out.size); clear HB)
    go_ret
    exact ⟨rfl, HD.out⟩)
end Go.Proofs.Ytfjphlejhcdbaaa
