/-
  The laws of what conditions come to: EvalAsks, the way of one variable more.
-/
import Derived.Test.YtfjphlejhcdbaaaLaw3
namespace Go.Proofs.Ytfjphlejhcdbaaa
open Go.RowKit
set_option linter.unusedVariables false

theorem TxtV.get {w : World} {la : Option Addr} {n lc : Nat} {L : List Bs} (h : TxtV w (.slice la n lc) L) (i : Nat) (hi : i < L.length) : ∃ g, la = some ⟨g, 0, none⟩ ∧ g < w.heap.size ∧ w.cell? ⟨g, i, none⟩ = some (.string (ba (L.getD i []))) := by
  obtain ⟨a, cap, e, h2, h3, h4⟩ := h
  injection e with e1 e2 e3
  subst e1
  exact TxtV.at h4 i hi
theorem TxtV.form {w : World} {v : Value} {L : List Bs} (h : TxtV w v L) : ∃ la lc, v = .slice la L.length lc ∧ L.length ≤ lc ∧ L.length ≤ 1048576 := by
  obtain ⟨a, cap, e, h2, h3, h4⟩ := h
  exact ⟨a, cap, e, h2, h3⟩
theorem get_in {ns : List ByteArray} {vs : List Int} {v : Value} (h0 : V.chk ns vs = 0) (nm : Bs) (w : World) (hV : Vin w v ns vs) : Calls Try.prog 22 #[v, .string (ba nm)] w fun e w' => ∃ gv fb, e = .returned (.tuple #[.int .i64 gv, .bool fb]) ∧ (fb = true → envN ns vs nm = some gv) ∧ (fb = false → envN ns vs nm = none) ∧ Below w.heap.size w w' := by
  have hk := vok_of hV.rd h0
  refine (V.rGet_any _ (ba nm) v w hk.rd hk.srt (Nat.le_trans hk.len (by decide))).mono ?_
  rintro e w' ⟨rfl, hb⟩
  refine ⟨_, _, rfl, fun h => ?_, fun h => ?_, hb⟩
  · rcases get_look hk.srt nm with ⟨h1, h2⟩ | ⟨h1, h2⟩
    · exact h2
    · rw [h1] at h; cases h
  · rcases get_look hk.srt nm with ⟨h1, h2⟩ | ⟨h1, h2⟩
    · rw [h1] at h; cases h
    · exact h2
set_option maxRecDepth 100000 in
set_option maxHeartbeats 4000000 in
theorem asks_go (t : Tr) (k n : Int) (s : ByteArray) (a : Option Addr) (l c : Nat) (v : Value) (ns : List ByteArray) (vs : List Int) (w : World) (hT : Tin w t k n s a l c) (hV : Vin w v ns vs) (nm : Bs) (sn : ByteArray) (hsn : ba nm = sn) (x : Int) (h0 : V.chk ns vs = 0) (LC : Nat) (RC : V.VL) (hO2 : ∀ w z, V.RdL w z [(ns, vs), ([sn], [x])] → Calls Try.prog 19 #[z] w fun e w' => ∃ b1 d1 b2 d2, e = .returned (.tuple #[.agg #[.slice b1 LC d1, .slice b2 LC d2], .int .i64 0]) ∧ V.OwV w' w.heap.size (.agg #[.slice b1 LC d1, .slice b2 LC d2]) RC ∧ Below w.heap.size w w')
    (rb : Bool) (rn : Int) (re : Nat) (L : List Bs) (hA : ∀ w, Tin w t k n s a l c → Vin w v ns vs → Calls Try.prog 11 #[.agg #[.int .i64 k, .int .i64 n, .string s, .slice a l c], v] w fun e w' => e = .returned (.tuple #[.agg #[.bool rb, .int .i64 rn], .int .i64 (re : Nat)]) ∧ Below w.heap.size w w') (hB : ¬ Asked nm t → ∀ z w, Tin w t k n s a l c → Vin w z (V.nmsOf RC) (V.valsOf RC) → Calls Try.prog 11 #[.agg #[.int .i64 k, .int .i64 n, .string s, .slice a l c], z] w fun e w' => e = .returned (.tuple #[.agg #[.bool rb, .int .i64 rn], .int .i64 (re : Nat)]) ∧ Below w.heap.size w w') (hVi : ∀ z w, V.RdV w z (V.nmsOf RC) (V.valsOf RC) → Vin w z (V.nmsOf RC) (V.valsOf RC)) (hL : ∀ w, Tin w t k n s a l c → Calls Try.prog 21 #[.agg #[.int .i64 k, .int .i64 n, .string s, .slice a l c]] w (NmPost w L)) (h9 : (∀ j, j < L.length → envN ns vs (L.getD j []) ≠ none) → re ≠ 9) :
    Calls Try.prog 7 #[.agg #[.int .i64 k, .int .i64 n, .string s, .slice a l c], v, .string sn, .int .i64 x] w fun e w' => e = .returned (.bool true) ∧ Below w.heap.size w w' := by
  have HL : Hid (∀ w, Tin w t k n s a l c → Vin w v ns vs → Calls Try.prog 9 #[.agg #[.int .i64 k, .int .i64 n, .string s, .slice a l c], v] w (SomeB w)) := fun w h1 h2 => light_any t k n s a l c v ns vs w h1 h2
  have HW : Hid (∀ w, Calls Try.prog 10 #[] w fun e w' => e = .returned (.bool true) ∧ Below w.heap.size w w') := works_any
  have HAsk : Hid (∀ w, Tin w t k n s a l c → Calls Try.prog 18 #[.agg #[.int .i64 k, .int .i64 n, .string s, .slice a l c], .string sn] w (AskP nm t w)) := fun w h => by rw [← hsn]; exact Asks_in nm h
  have HC : Hid (∀ w, Vin w v ns vs → Calls Try.prog 15 #[v] w fun e w' => e = .returned (.int .i64 (V.chk ns vs : Nat)) ∧ Below w.heap.size w w') := fun w h => V.rCheck_any ns vs v w h.rd h.sz
  have HO2 : Hid (∀ w z, V.RdL w z [(ns, vs), ([sn], [x])] → Calls Try.prog 19 #[z] w fun e w' => ∃ b1 d1 b2 d2, e = .returned (.tuple #[.agg #[.slice b1 LC d1, .slice b2 LC d2], .int .i64 0]) ∧ V.OwV w' w.heap.size (.agg #[.slice b1 LC d1, .slice b2 LC d2]) RC ∧ Below w.heap.size w w') := hO2
  have HOne : Hid (∀ w, Calls Try.prog 20 #[.string sn, .int .i64 x] w fun e w' => ∃ a1 c1 a2 c2, e = .returned (.agg #[.slice a1 1 c1, .slice a2 1 c2]) ∧ V.RdV w' (.agg #[.slice a1 1 c1, .slice a2 1 c2]) [sn] [x] ∧ Below w.heap.size w w') := fun w => one_form (sn) x w
  have HA : Hid (∀ w, Tin w t k n s a l c → Vin w v ns vs → Calls Try.prog 11 #[.agg #[.int .i64 k, .int .i64 n, .string s, .slice a l c], v] w fun e w' => e = .returned (.tuple #[.agg #[.bool rb, .int .i64 rn], .int .i64 (re : Nat)]) ∧ Below w.heap.size w w') := hA
  have HBn : Hid (¬ Asked nm t → ∀ z w, Tin w t k n s a l c → Vin w z (V.nmsOf RC) (V.valsOf RC) → Calls Try.prog 11 #[.agg #[.int .i64 k, .int .i64 n, .string s, .slice a l c], z] w fun e w' => e = .returned (.tuple #[.agg #[.bool rb, .int .i64 rn], .int .i64 (re : Nat)]) ∧ Below w.heap.size w w') := hB
  have HVi : Hid (∀ z w, V.RdV w z (V.nmsOf RC) (V.valsOf RC) → Vin w z (V.nmsOf RC) (V.valsOf RC)) := hVi
  have HNm : Hid (∀ w, Tin w t k n s a l c → Calls Try.prog 21 #[.agg #[.int .i64 k, .int .i64 n, .string s, .slice a l c]] w (NmPost w L)) := hL
  have H9 : Hid ((∀ j, j < L.length → envN ns vs (L.getD j []) ≠ none) → re ≠ 9) := h9
  have HG : Hid (∀ m w, Vin w v ns vs → Calls Try.prog 22 #[v, .string (ba m)] w fun e w' => ∃ gv fb, e = .returned (.tuple #[.int .i64 gv, .bool fb]) ∧ (fb = true → envN ns vs m = some gv) ∧ (fb = false → envN ns vs m = none) ∧ Below w.heap.size w w') := fun m w h => get_in h0 m w h
  obtain ⟨a1, n1, k1, a2, n2, k2, rfl⟩ := hV.form
  have HO : Hid (Own2 w _ t k n s a l c a1 n1 k1 a2 n2 k2 ns vs) := Own2.new hT hV
  clear hT hV
  rw [h0] at HC
  clear hO2 hsn hA hB hVi hL h9 h0
  unfold AskP at HAsk
  generalize hAs : Asked nm t = AT at *
  clear hAs
  generalize envN ns vs = env at *
  go_enter Try.func7, Try.ntmps7
  go_wp2_with (first
    | (go_at_call 9; refine (HL.out _ HO.out.t.tin HO.out.v.v).mono ?_; rintro e w1 ⟨lb, rfl, HB⟩; have H1 : Hid (Own2 w w1 t k n s a l c a1 n1 k1 a2 n2 k2 ns vs) := HO.out.below HB; clear HB; obtain ⟨g1, c0, c1, f0, f1⟩ := H1.out.v.c; obtain ⟨p0, p1, p2, p3, p4⟩ := H1.out.t.cel; have hp := H1.out.t.cel.lt; cases lb)
    | (go_at_call 18; refine (HAsk.out _ H1.out.t.tin).mono ?_; rintro e w2 ⟨kb, rfl, hkb, HB⟩; have H2 : Hid (Own2 w w2 t k n s a l c a1 n1 k1 a2 n2 k2 ns vs) := H1.out.below HB; have HKb : Hid (kb = true ↔ AT) := hkb; clear HB hkb; obtain ⟨g1, c0, c1, f0, f1⟩ := H2.out.v.c; obtain ⟨p0, p1, p2, p3, p4⟩ := H2.out.t.cel; have hp := H2.out.t.cel.lt; cases kb)
    | (go_at_call 15; refine (HC.out _ H2.out.v.v).mono ?_; rintro e w3 ⟨rfl, HB⟩; have H3 : Hid (Own2 w w3 t k n s a l c a1 n1 k1 a2 n2 k2 ns vs) := H2.out.below HB; clear HB)
    | (go_at_call 10; have := H2; refine (HW.out _).mono ?_; rintro e wz ⟨rfl, HB⟩; have HD : Hid (Below w.heap.size w wz) := (H2.out.low).trans (HB.mono (H2.out.low).size); clear HB)
    | (go_at_call 10; have := H1; refine (HW.out _).mono ?_; rintro e wz ⟨rfl, HB⟩; have HD : Hid (Below w.heap.size w wz) := (H1.out.low).trans (HB.mono (H1.out.low).size); clear HB))
  case' _ => skip
  all_goals first
    | (have := HD; go_ret; exact ⟨rfl, HD.out⟩)
    | skip
  have HB2 : Hid (∀ z w, Tin w t k n s a l c → Vin w z (V.nmsOf RC) (V.valsOf RC) → Calls Try.prog 11 #[.agg #[.int .i64 k, .int .i64 n, .string s, .slice a l c], z] w fun e w' => e = .returned (.tuple #[.agg #[.bool rb, .int .i64 rn], .int .i64 (re : Nat)]) ∧ Below w.heap.size w w') := HBn.out (fun h => absurd (HKb.out.2 h) (by decide))
  clear HBn
  have HVr : Hid (∀ w', Below w3.heap.size w3 w' → V.RdV w' (.agg #[.slice a1 n1 k1, .slice a2 n2 k2]) ns vs) := fun w' hb => (H3.out.below hb).v.v.rd
  have HVT : Hid (∀ w', Below w3.heap.size w3 w' → V.Two w' (w.heap.size + 1) (.slice a1 n1 k1) (.slice a2 n2 k2)) := fun w' hb => (H3.out.below hb).v.c
  have hvl : w.heap.size + 1 < w3.heap.size := (HVT.out _ (Below.refl _ _)).lt
  have hq5 : w3.heap.size ≠ w.heap.size + 1 := by omega
  have hq6 : w.heap.size + 1 ≠ w3.heap.size := by omega
  obtain ⟨g1, c0, c1, f0, f1⟩ := HVT.out w3 (Below.refl _ _)
  go_region_held3 (fun w' => w'.cell? ⟨w.heap.size + 1, 0, none⟩ = some (.slice a1 n1 k1) ∧ w'.cell? ⟨w.heap.size + 1, 1, none⟩ = some (.slice a2 n2 k2)) (go_keep) (first
    | (go_at_call 19; have := N7; refine (HO2.out _ _ (by first | exact RdLnew2 (HVr.out _ N7.out.1) N7.out.2 | exact rdl_b (HVr.out _ N7.out.1) N7.out.2 | exact rdl_c (HVr.out _ N7.out.1) N7.out.2)).mono ?_; rintro e w8 ⟨D1, D2, D3, D4, rfl, HO8, HB⟩; (first | (have hfa : V.Two w8 (w3.heap.size) (.slice none 0 0) (.slice none 0 0) ∧ Fin4 w3.heap.size w3 ((w8.setCell ⟨w3.heap.size, 0, none⟩ (.slice D1 LC D2)).setCell ⟨w3.heap.size, 1, none⟩ (.slice D3 LC D4)) (w3.heap.size) (.slice D1 LC D2) (.slice D3 LC D4) RC := fin_a T7.out HB HO8 N7.out.1 (Nat.le_refl _); obtain ⟨⟨s4, s0, s1, s2, s3⟩, hfin⟩ := hfa; have MA : Hid _ := hfin; clear hfin) | (have hfa : V.Two w8 (w7.heap.size) (.slice none 0 0) (.slice none 0 0) ∧ Fin4 w3.heap.size w3 ((w8.setCell ⟨w7.heap.size, 0, none⟩ (.slice D1 LC D2)).setCell ⟨w7.heap.size, 1, none⟩ (.slice D3 LC D4)) (w7.heap.size) (.slice D1 LC D2) (.slice D3 LC D4) RC := fin_b HB HO8 N7.out.1 N7.out.1.size; obtain ⟨⟨s4, s0, s1, s2, s3⟩, hfin⟩ := hfa; have MB : Hid _ := hfin; clear hfin) | (have hfa : V.Two w8 (w7.heap.size + 1) (.slice none 0 0) (.slice none 0 0) ∧ Fin4 w3.heap.size w3 ((w8.setCell ⟨w7.heap.size + 1, 0, none⟩ (.slice D1 LC D2)).setCell ⟨w7.heap.size + 1, 1, none⟩ (.slice D3 LC D4)) (w7.heap.size + 1) (.slice D1 LC D2) (.slice D3 LC D4) RC := fin_c HB HO8 N7.out.1 N7.out.1.size; obtain ⟨⟨s4, s0, s1, s2, s3⟩, hfin⟩ := hfa; have MC : Hid _ := hfin; clear hfin) | (have MD : Hid _ := fin_d HB HO8 N7.out.1 N7.out.1.size)); obtain ⟨g1, c0, c1, f0, f1⟩ := HVT.out w8 (by first | exact new_w8a N7.out.1 HB | exact new_w8b N7.out.1 HB); clear HB HO8 N7)
    | (go_at_call 20; refine (HOne.out _).mono ?_; rintro e w7 ⟨O1, O2, O3, O4, rfl, HR7, HB⟩; (first | (have T7 : Hid (V.Two w7 w3.heap.size (.slice none 0 0) (.slice none 0 0)) := (new_a HB).1) | (have T7 : Hid True := trivial)); have N7 : Hid (Below w3.heap.size w3 w7 ∧ V.RdV w7 (.agg #[.slice O1 1 O2, .slice O3 1 O4]) [sn] [x]) := ⟨by first | exact (new_a HB).2 | exact new_b HB, HR7⟩; obtain ⟨g1, c0, c1, f0, f1⟩ := HVT.out _ N7.out.1; (first | (obtain ⟨s4, s0, s1, s2, s3⟩ := T7.out) | skip); have hq7 : w3.heap.size ≤ w7.heap.size := N7.out.1.size; have hq1 : w7.heap.size + 1 ≠ w.heap.size + 1 := (by omega); have hq2 : w7.heap.size ≠ w.heap.size + 1 := (by omega); have hq3 : w.heap.size + 1 ≠ w7.heap.size + 1 := (by omega); have hq4 : w.heap.size + 1 ≠ w7.heap.size := (by omega); have hq8 : w7.heap.size ≠ w.heap.size := (by omega); have hq9 : w.heap.size ≠ w7.heap.size := (by omega); clear HB HR7))
  all_goals clear HOne HO2
  all_goals (first
    | (have HM : Hid (Fin4 w3.heap.size w3 ((w8.setCell ⟨w3.heap.size, 0, none⟩ (.slice D1 LC D2)).setCell ⟨w3.heap.size, 1, none⟩ (.slice D3 LC D4)) (w3.heap.size) (.slice D1 LC D2) (.slice D3 LC D4) RC) := MA.out; have HY : Hid (Own2 w ((w8.setCell ⟨w3.heap.size, 0, none⟩ (.slice D1 LC D2)).setCell ⟨w3.heap.size, 1, none⟩ (.slice D3 LC D4)) t k n s a l c a1 n1 k1 a2 n2 k2 ns vs ∧ V.Two ((w8.setCell ⟨w3.heap.size, 0, none⟩ (.slice D1 LC D2)).setCell ⟨w3.heap.size, 1, none⟩ (.slice D3 LC D4)) (w3.heap.size) (.slice D1 LC D2) (.slice D3 LC D4) ∧ V.RdV ((w8.setCell ⟨w3.heap.size, 0, none⟩ (.slice D1 LC D2)).setCell ⟨w3.heap.size, 1, none⟩ (.slice D3 LC D4)) (.agg #[.slice D1 LC D2, .slice D3 LC D4]) (V.nmsOf RC) (V.valsOf RC)) := ⟨H3.out.below HM.out.1, HM.out.2.1, HM.out.2.2⟩; clear HM MA; generalize ((w8.setCell ⟨w3.heap.size, 0, none⟩ (.slice D1 LC D2)).setCell ⟨w3.heap.size, 1, none⟩ (.slice D3 LC D4)) = w9 at *; generalize w3.heap.size = q at *)
    | (have HM : Hid (Fin4 w3.heap.size w3 ((w8.setCell ⟨w7.heap.size, 0, none⟩ (.slice D1 LC D2)).setCell ⟨w7.heap.size, 1, none⟩ (.slice D3 LC D4)) (w7.heap.size) (.slice D1 LC D2) (.slice D3 LC D4) RC) := MB.out; have HY : Hid (Own2 w ((w8.setCell ⟨w7.heap.size, 0, none⟩ (.slice D1 LC D2)).setCell ⟨w7.heap.size, 1, none⟩ (.slice D3 LC D4)) t k n s a l c a1 n1 k1 a2 n2 k2 ns vs ∧ V.Two ((w8.setCell ⟨w7.heap.size, 0, none⟩ (.slice D1 LC D2)).setCell ⟨w7.heap.size, 1, none⟩ (.slice D3 LC D4)) (w7.heap.size) (.slice D1 LC D2) (.slice D3 LC D4) ∧ V.RdV ((w8.setCell ⟨w7.heap.size, 0, none⟩ (.slice D1 LC D2)).setCell ⟨w7.heap.size, 1, none⟩ (.slice D3 LC D4)) (.agg #[.slice D1 LC D2, .slice D3 LC D4]) (V.nmsOf RC) (V.valsOf RC)) := ⟨H3.out.below HM.out.1, HM.out.2.1, HM.out.2.2⟩; clear HM MB; generalize ((w8.setCell ⟨w7.heap.size, 0, none⟩ (.slice D1 LC D2)).setCell ⟨w7.heap.size, 1, none⟩ (.slice D3 LC D4)) = w9 at *; generalize w7.heap.size = q at *)
    | (have HM : Hid (Fin4 w3.heap.size w3 ((w8.setCell ⟨w7.heap.size + 1, 0, none⟩ (.slice D1 LC D2)).setCell ⟨w7.heap.size + 1, 1, none⟩ (.slice D3 LC D4)) (w7.heap.size + 1) (.slice D1 LC D2) (.slice D3 LC D4) RC) := MC.out; have HY : Hid (Own2 w ((w8.setCell ⟨w7.heap.size + 1, 0, none⟩ (.slice D1 LC D2)).setCell ⟨w7.heap.size + 1, 1, none⟩ (.slice D3 LC D4)) t k n s a l c a1 n1 k1 a2 n2 k2 ns vs ∧ V.Two ((w8.setCell ⟨w7.heap.size + 1, 0, none⟩ (.slice D1 LC D2)).setCell ⟨w7.heap.size + 1, 1, none⟩ (.slice D3 LC D4)) (w7.heap.size + 1) (.slice D1 LC D2) (.slice D3 LC D4) ∧ V.RdV ((w8.setCell ⟨w7.heap.size + 1, 0, none⟩ (.slice D1 LC D2)).setCell ⟨w7.heap.size + 1, 1, none⟩ (.slice D3 LC D4)) (.agg #[.slice D1 LC D2, .slice D3 LC D4]) (V.nmsOf RC) (V.valsOf RC)) := ⟨H3.out.below HM.out.1, HM.out.2.1, HM.out.2.2⟩; clear HM MC; generalize ((w8.setCell ⟨w7.heap.size + 1, 0, none⟩ (.slice D1 LC D2)).setCell ⟨w7.heap.size + 1, 1, none⟩ (.slice D3 LC D4)) = w9 at *; generalize w7.heap.size + 1 = q at *)
    | (have HM : Hid (Fin4 w3.heap.size w3 (w8.alloc (.cells #[.slice D1 LC D2, .slice D3 LC D4] 28)) w8.heap.size (.slice D1 LC D2) (.slice D3 LC D4) RC) := MD.out; have HY : Hid (Own2 w (w8.alloc (.cells #[.slice D1 LC D2, .slice D3 LC D4] 28)) t k n s a l c a1 n1 k1 a2 n2 k2 ns vs ∧ V.Two (w8.alloc (.cells #[.slice D1 LC D2, .slice D3 LC D4] 28)) (w8.heap.size) (.slice D1 LC D2) (.slice D3 LC D4) ∧ V.RdV (w8.alloc (.cells #[.slice D1 LC D2, .slice D3 LC D4] 28)) (.agg #[.slice D1 LC D2, .slice D3 LC D4]) (V.nmsOf RC) (V.valsOf RC)) := ⟨H3.out.below HM.out.1, HM.out.2.1, HM.out.2.2⟩; clear HM MD; generalize w8.alloc (.cells #[.slice D1 LC D2, .slice D3 LC D4] 28) = w9 at *; generalize w8.heap.size = q at *))
  all_goals (
    have HX : Hid (Own2 w w9 t k n s a l c a1 n1 k1 a2 n2 k2 ns vs ∧ WV w9 q D1 LC D2 D3 LC D4 (V.nmsOf RC) (V.valsOf RC)) := ⟨HY.out.1, ⟨HY.out.2.1, HVi.out _ _ HY.out.2.2⟩⟩
    clear HY HVi HVr HVT H1 H2 H3
    obtain ⟨g1, c0, c1, f0, f1⟩ := HX.out.1.v.c
    obtain ⟨p0, p1, p2, p3, p4⟩ := HX.out.1.t.cel
    have hp := HX.out.1.t.cel.lt
    go_wp2_with (first
      | (go_at_call 11; have := K1; refine (HB2.out _ _ (K1.out.1.alloc _).t.tin (K1.out.2.below (below_one _ _)).v).mono ?_; rintro e w11 ⟨rfl, HB⟩; have K2 : Hid (Own2 w w11 t k n s a l c a1 n1 k1 a2 n2 k2 ns vs ∧ V.Two w11 w10.heap.size (.bool rb) (.int .i64 rn)) := ⟨(K1.out.1.alloc _).below HB, (V.Two.new w10 _ _ 32).below HB⟩; clear HB K1; obtain ⟨u4, u0, u1, u2, u3⟩ := K2.out.2; obtain ⟨g1, c0, c1, f0, f1⟩ := K2.out.1.v.c; obtain ⟨p0, p1, p2, p3, p4⟩ := K2.out.1.t.cel; have hp := K2.out.1.t.cel.lt)
      | (go_at_call 11; refine (HA.out _ HX.out.1.t.tin HX.out.1.v.v).mono ?_; rintro e w10 ⟨rfl, HB⟩; have K1 : Hid (Own2 w w10 t k n s a l c a1 n1 k1 a2 n2 k2 ns vs ∧ WV w10 q D1 LC D2 D3 LC D4 (V.nmsOf RC) (V.valsOf RC)) := ⟨HX.out.1.below HB, HX.out.2.below HB⟩; clear HB HX; obtain ⟨g1, c0, c1, f0, f1⟩ := K1.out.1.v.c; obtain ⟨p0, p1, p2, p3, p4⟩ := K1.out.1.t.cel; have hp := K1.out.1.t.cel.lt; obtain ⟨u4, u0, u1, u2, u3⟩ := K1.out.2.c)
      | (go_at_call 21; refine (HNm.out _ (K2.out.1.alloc _).t.tin).mono ?_; rintro e w12 ⟨lv, rfl, HLv, HB⟩; obtain ⟨la, lc, rfl, hlc, hLl⟩ := HLv.form; have K3 : Hid (Own2 w w12 t k n s a l c a1 n1 k1 a2 n2 k2 ns vs ∧ TxtV w12 (.slice la L.length lc) L) := ⟨(K2.out.1.alloc _).below HB, HLv⟩; clear HB HLv K2))
    clear HA HB2 HNm HAsk HC HL
    go_loopw [16] (fun v wr => ∃ (i : Nat), i ≤ L.length ∧ v = .int .i64 i ∧ Hid (Own2 w wr t k n s a l c a1 n1 k1 a2 n2 k2 ns vs ∧ TxtV wr (.slice la L.length lc) L ∧ ∀ j, j < i → env (L.getD j []) ≠ none)) (fun v _ => L.length - (intOf v).toNat)
    case atStart => exact ⟨0, Nat.zero_le _, rfl, K3.out.1, K3.out.2, fun j hj => absurd hj (by omega)⟩
    case round =>
      obtain ⟨i, hi, rfl, HR⟩ := hrel
      by_cases hlt : i < L.length
      · obtain ⟨g, hga, hgl, hgc⟩ := HR.out.2.1.get i hlt
        have HQ : Hid (env (L.getD i []) ≠ none → ∀ j, j < i + 1 → env (L.getD j []) ≠ none) := fun h j hj => by
          rcases Nat.lt_succ_iff_lt_or_eq.1 hj with h2 | h2
          · exact HR.out.2.2 j h2
          · rw [h2]; exact h
        have HG2 : Hid (∀ w, Vin w (.agg #[.slice a1 n1 k1, .slice a2 n2 k2]) ns vs → Calls Try.prog 22 #[.agg #[.slice a1 n1 k1, .slice a2 n2 k2], .string (ba (L.getD i []))] w fun e w' => ∃ gv fb, e = .returned (.tuple #[.int .i64 gv, .bool fb]) ∧ (fb = true → env (L.getD i []) = some gv) ∧ (fb = false → env (L.getD i []) = none) ∧ Below w.heap.size w w') := fun w h => HG.out _ w h
        subst hga
        have HX2 : Hid (Own2 w wr t k n s a l c a1 n1 k1 a2 n2 k2 ns vs ∧ TxtV wr (.slice (some ⟨g, 0, none⟩) L.length lc) L) := ⟨HR.out.1, HR.out.2.1⟩
        obtain ⟨g1, c0, c1, f0, f1⟩ := HR.out.1.v.c
        clear HR K3
        generalize env (L.getD i []) = ev at *
        generalize ba (L.getD i []) = sg at *
        go_wp2_with fail
        go_region_held3 (fun w' => w'.cell? ⟨w.heap.size + 1, 0, none⟩ = some (.slice a1 n1 k1) ∧ w'.cell? ⟨w.heap.size + 1, 1, none⟩ = some (.slice a2 n2 k2) ∧ w'.cell? ⟨g, i, none⟩ = some (.string sg)) (go_keep) (first
          | (go_at_call 22; refine (HG2.out _ (HX2.out.1.v.v.below (Below.drew (Below.refl _ _)))).mono ?_; rintro e w13 ⟨gv, fb, rfl, hf1, hf2, HB⟩; have HX3 : Hid (Own2 w w13 t k n s a l c a1 n1 k1 a2 n2 k2 ns vs ∧ TxtV w13 (.slice (some ⟨g, 0, none⟩) L.length lc) L ∧ (fb = true → ev = some gv)) := ⟨HX2.out.1.below (V.below_drew HB), HX2.out.2.below (V.below_drew HB), hf1⟩; have hgc := (V.below_drew HB).cell (p := ⟨g, i, none⟩) hgl |>.trans hgc; have hgl := Nat.lt_of_lt_of_le hgl (V.below_drew HB).size; clear HB hf1 hf2; obtain ⟨g1, c0, c1, f0, f1⟩ := HX3.out.1.v.c))
        all_goals (
          cases fb with
          | false =>
            go_wp2_with (go_at_call 10; refine (HW.out _).mono ?_; rintro e wz ⟨rfl, HB⟩; have HD : Hid (Below w.heap.size w wz) := HX3.out.1.low.trans (HB.mono HX3.out.1.low.size); clear HB)
            go_ret
            exact ⟨rfl, HD.out⟩
          | true =>
            go_wp2_with fail
            go_roundw
            case rel => exact ⟨i + 1, by omega, by go_num, HX3.out.1, HX3.out.2.1, HQ.out (by rw [HX3.out.2.2 rfl]; simp)⟩
            case measure => simp [intOf]; omega)
      · have he : i = L.length := by omega
        subst he
        have h9 : re ≠ 9 := H9.out HR.out.2.2
        have h9b : ((re : Int) != 9) = true := by simp; omega
        have HLo : Hid (Below w.heap.size w wr) := HR.out.1.low
        clear HR K3
        go_wp2_with (go_at_call 10; refine (HW.out _).mono ?_; rintro e wz ⟨rfl, HB⟩; have HD : Hid (Below w.heap.size w wz) := HLo.out.trans (HB.mono HLo.out.size); clear HB)
        go_ret
        exact ⟨rfl, HD.out⟩)
theorem evalAsks_walk (t : Tr) (k n : Int) (s : ByteArray) (a : Option Addr) (l c : Nat) (v : Value) (ns : List ByteArray) (vs : List Int) (w : World) (hT : Tin w t k n s a l c) (hV : Vin w v ns vs) (nm : Bs) (hnm : (ba nm).size ≤ 9223372036854775807) (x : Int) (hx : InR x) : Calls Try.prog 7 #[.agg #[.int .i64 k, .int .i64 n, .string s, .slice a l c], v, .string (ba nm), .int .i64 x] w fun e w' => e = .returned (.bool true) ∧ Below w.heap.size w w' := by
  by_cases h0 : V.chk ns vs = 0
  · have hO2 := of2_own (x := (ns, vs)) (y := ([ba nm], [x])) hV.sz (fun m hm => by rw [List.mem_singleton.1 hm]; exact hnm)
    by_cases h1 : (V.ofM [(ns, vs), ([ba nm], [x])]).1 = 0
    · have hof : V.ofM [(ns, vs), ([ba nm], [x])] = (0, (V.ofM [(ns, vs), ([ba nm], [x])]).2) := by
        rw [← h1]
      obtain ⟨m1, m2, m3⟩ := more_in hof hV.num hx
      rw [h1] at hO2
      have hA : ∀ w, Tin w t k n s a l c → Vin w v ns vs → Calls Try.prog 11 #[.agg #[.int .i64 k, .int .i64 n, .string s, .slice a l c], v] w (EvP (ofM (envN ns vs) (V.chk ns vs) t) w) := fun w h1 h2 => of_any t k n s a l c v ns vs w h1 h2
      have hB : ¬ Asked nm t → ∀ z w, Tin w t k n s a l c → Vin w z (V.nmsOf (V.ofM [(ns, vs), ([ba nm], [x])]).2) (V.valsOf (V.ofM [(ns, vs), ([ba nm], [x])]).2) → Calls Try.prog 11 #[.agg #[.int .i64 k, .int .i64 n, .string s, .slice a l c], z] w (EvP (ofM (envN ns vs) (V.chk ns vs) t) w) := fun hn z w h1 h2 => by
        have := of_any t k n s a l c z _ _ w h1 h2
        rw [m3] at this
        rw [h0]
        have e : ofM (envN (V.nmsOf (V.ofM [(ns, vs), ([ba nm], [x])]).2) (V.valsOf (V.ofM [(ns, vs), ([ba nm], [x])]).2)) 0 t = ofM (envN ns vs) 0 t := of_agree fun m hm => by
          have hne : m ≠ nm := fun e => by subst e; exact hn hm
          rw [more_env hof, if_neg hne]
        rw [e] at this
        exact this
      exact asks_go t k n s a l c v ns vs w hT hV nm (ba nm) rfl x h0 _ _ hO2 _ _ _ (namesM t) hA hB (fun z w h => ⟨h, m1, m2⟩) (fun w h => RNames_in h) (fun hj => by
        rw [h0]
        refine of_none fun m hm => ?_
        obtain ⟨i, hi, e⟩ := List.getElem_of_mem hm
        have := hj i hi
        rw [List.getD_eq_getElem?_getD, List.getElem?_eq_getElem hi, Option.getD_some, e] at this
        exact this)
    · exact asks_no t k n s a l c v ns vs w hT hV nm (ba nm) rfl x h0 _ _ _ h1 hO2
  · exact asks_ck t k n s a l c v ns vs w hT hV nm x h0
end Go.Proofs.Ytfjphlejhcdbaaa
