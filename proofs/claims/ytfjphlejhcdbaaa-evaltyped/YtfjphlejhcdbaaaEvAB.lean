/-
  The program's Of, Number and Truth.
-/
import Derived.Test.YtfjphlejhcdbaaaEv7A
import Derived.Test.YtfjphlejhcdbaaaVB
namespace Go.Proofs.Ytfjphlejhcdbaaa
section
open Go.RowKit
set_option linter.unusedVariables false

/-- What variables say, names and numbers apart. -/
def envN (ns : List ByteArray) (vs : List Int) : Env := envL (V.zipV (ns, vs))
theorem vals_zip {v : V.VP} (h : v.1.length = v.2.length) : V.valsOf (V.zipV v) = v.2 := by
  unfold V.valsOf V.zipV
  exact List.map_snd_zip (by omega)
theorem vok_of {ns : List ByteArray} {vs : List Int} {v : Value} {w : World} (hv : V.RdV w v ns vs) (h : V.chk ns vs = 0) : Vok (V.zipV (ns, vs)) v w := by
  obtain ⟨h1, h2, h3⟩ := V.chk_ok h
  refine ⟨?_, V.zip_srt (v := (ns, vs)) h, ?_⟩
  · rw [V.nms_zip (v := (ns, vs)) h1, vals_zip (v := (ns, vs)) h1]; exact hv
  · rw [V.zipV_len (v := (ns, vs)) h1]; exact h2
theorem envN_in {ns : List ByteArray} {vs : List Int} (h : ∀ x ∈ vs, InR x) : EnvIn (envN ns vs) := by
  intro nm n hn
  have := V.look_mem hn
  unfold V.zipV at this
  exact h n (List.of_mem_zip this).2
/-- What is known of variables that came in. -/
structure Vin (w : World) (v : Value) (ns : List ByteArray) (vs : List Int) : Prop where
  rd : V.RdV w v ns vs
  sz : ∀ n ∈ ns, n.size ≤ 9223372036854775807
  num : ∀ x ∈ vs, InR x
theorem Vin.below {w w' : World} {v : Value} {ns : List ByteArray} {vs : List Int} (h : Vin w v ns vs) (hb : Below w.heap.size w w') : Vin w' v ns vs := ⟨h.rd.below hb, h.sz, h.num⟩
theorem Vin.form {ns : List ByteArray} {vs : List Int} {v : Value} {w : World} (h : Vin w v ns vs) : ∃ a1 n1 c1 a2 n2 c2, v = .agg #[.slice a1 n1 c1, .slice a2 n2 c2] := by
  obtain ⟨sn, sv, rfl, h1, h2⟩ := h.rd
  obtain ⟨a1, c1, rfl⟩ := h1.form
  obtain ⟨a2, c2, rfl⟩ := h2.form
  exact ⟨_, _, _, _, _, _, rfl⟩
/-- The condition, the variables and the answer's room of the call's own. -/
structure Own3 (w w1 : World) (x0 x1 x2 x3 y0 y1 : Value) : Prop where
  t : Cell4 w1 w.heap.size x0 x1 x2 x3
  v : V.Two w1 (w.heap.size + 1) y0 y1
  r : V.Two w1 (w.heap.size + 1 + 1) (.bool false) (.int .i64 0)
  low : Below w.heap.size w w1
theorem Own3.new (w : World) (x0 x1 x2 x3 y0 y1 : Value) : Own3 w (((w.alloc (.cells #[x0, x1, x2, x3] 24)).alloc (.cells #[y0, y1] 28)).alloc (.cells #[.bool false, .int .i64 0] 32)) x0 x1 x2 x3 y0 y1 := by
  have hx := three_cells w (.cells #[x0, x1, x2, x3] 24) (.cells #[y0, y1] 28) (.cells #[.bool false, .int .i64 0] 32) (Below.refl _ _)
  exact ⟨((Cell4.new w x0 x1 x2 x3 24).alloc _).alloc _, two_block hx.2.2.1, two_block hx.2.2.2, hx.1⟩
theorem Own3.below {w w1 w2 : World} {x0 x1 x2 x3 y0 y1 : Value} (h : Own3 w w1 x0 x1 x2 x3 y0 y1) (hb : Below w1.heap.size w1 w2) : Own3 w w2 x0 x1 x2 x3 y0 y1 := ⟨h.t.below hb, h.v.below hb, h.r.below hb, h.low.trans (hb.mono h.low.size)⟩
theorem Own3.put {w w1 : World} {x0 x1 x2 x3 y0 y1 : Value} (h : Own3 w w1 x0 x1 x2 x3 y0 y1) (u v : Value) : Below w.heap.size w ((w1.setCell ⟨w.heap.size + 1 + 1, 0, none⟩ u).setCell ⟨w.heap.size + 1 + 1, 1, none⟩ v) := two_put h.low (by omega) u v
/-- What a condition of this form is. -/
structure Tin (w : World) (t : Tr) (k n : Int) (s : ByteArray) (a : Option Addr) (l c : Nat) : Prop where
  tre : ∃ P, Tre w P (.agg #[.int .i64 k, .int .i64 n, .string s, .slice a l c]) t
theorem Tin.below {w w' : World} {t : Tr} {k n : Int} {s : ByteArray} {a : Option Addr} {l c : Nat} (h : Tin w t k n s a l c) (hb : Below w.heap.size w w') : Tin w' t k n s a l c := by
  obtain ⟨P, hT⟩ := h.tre
  exact ⟨P, hT.below hb⟩
theorem Truth_in {w : World} {t : Tr} {k n : Int} {s : ByteArray} {a : Option Addr} {l c : Nat} (h : Tin w t k n s a l c) : Calls Try.prog 26 #[.agg #[.int .i64 k, .int .i64 n, .string s, .slice a l c]] w fun e w' => e = .returned (.tuple #[.bool (truthM t).1, .int .i64 ((truthM t).2 : Nat)]) ∧ Below w.heap.size w w' := by
  obtain ⟨P, hT⟩ := h.tre
  exact Truth_any P t k n s a l c w hT
set_option maxRecDepth 100000 in
set_option maxHeartbeats 800000 in
theorem of_err1 (t : Tr) (k n : Int) (s : ByteArray) (a : Option Addr) (l c : Nat) (v : Value) (ns : List ByteArray) (vs : List Int) (w : World) (hT : Tin w t k n s a l c) (hV : Vin w v ns vs) (h0 : (truthM t).2 ≠ 0) : Calls Try.prog 11 #[.agg #[.int .i64 k, .int .i64 n, .string s, .slice a l c], v] w (EvP (errV (truthM t).2) w) := by
  obtain ⟨a1, n1, k1, a2, n2, k2, rfl⟩ := hV.form
  have HT : Hid (∀ w, Tin w t k n s a l c → Calls Try.prog 26 #[.agg #[.int .i64 k, .int .i64 n, .string s, .slice a l c]] w fun e w' => e = .returned (.tuple #[.bool (truthM t).1, .int .i64 ((truthM t).2 : Nat)]) ∧ Below w.heap.size w w') := fun w h => Truth_in h
  have HI : Hid (Tin w t k n s a l c) := hT
  have HO : Hid (Own3 w _ (.int .i64 k) (.int .i64 n) (.string s) (.slice a l c) (.slice a1 n1 k1) (.slice a2 n2 k2)) := Own3.new w _ _ _ _ _ _
  have hz := nz h0
  clear hV hT
  unfold EvP errV
  simp only
  generalize (truthM t).2 = te at *
  generalize (truthM t).1 = tb at *
  go_enter Try.func11, Try.ntmps11
  go_wp2_with (go_at_call 26; refine (HT.out _ (HI.out.below HO.out.low)).mono ?_; rintro e w1 ⟨rfl, HB1⟩; have H1 : Hid (Own3 w w1 (.int .i64 k) (.int .i64 n) (.string s) (.slice a l c) (.slice a1 n1 k1) (.slice a2 n2 k2)) := HO.out.below HB1; clear HB1; obtain ⟨g1, c0, c1, f0, f1⟩ := H1.out.r)
  refine bodyPost_ret (v := .tuple #[.agg #[.bool false, .int .i64 0], .int .i64 (te : Nat)]) (by simp [results, Try.results11, go_sem, c0, c1]) rfl ⟨rfl, H1.out.put _ _⟩
set_option maxRecDepth 100000 in
set_option maxHeartbeats 800000 in
theorem of_err2 (t : Tr) (k n : Int) (s : ByteArray) (a : Option Addr) (l c : Nat) (v : Value) (ns : List ByteArray) (vs : List Int) (w : World) (hT : Tin w t k n s a l c) (hV : Vin w v ns vs) (h0 : (truthM t).2 = 0) (h1 : V.chk ns vs ≠ 0) : Calls Try.prog 11 #[.agg #[.int .i64 k, .int .i64 n, .string s, .slice a l c], v] w (EvP (errV (V.chk ns vs)) w) := by
  have HC : Hid (∀ w, Vin w v ns vs → Calls Try.prog 27 #[v] w fun e w' => e = .returned (.int .i64 (V.chk ns vs : Nat)) ∧ Below w.heap.size w w') := fun w h => V.Check_any ns vs v w h.rd h.sz
  have HV : Hid (Vin w v ns vs) := hV
  obtain ⟨a1, n1, k1, a2, n2, k2, rfl⟩ := hV.form
  have HT : Hid (∀ w, Tin w t k n s a l c → Calls Try.prog 26 #[.agg #[.int .i64 k, .int .i64 n, .string s, .slice a l c]] w fun e w' => e = .returned (.tuple #[.bool (truthM t).1, .int .i64 ((truthM t).2 : Nat)]) ∧ Below w.heap.size w w') := fun w h => Truth_in h
  rw [h0] at HT
  have HI : Hid (Tin w t k n s a l c) := hT
  have HO : Hid (Own3 w _ (.int .i64 k) (.int .i64 n) (.string s) (.slice a l c) (.slice a1 n1 k1) (.slice a2 n2 k2)) := Own3.new w _ _ _ _ _ _
  have hz := nz h1
  clear hV hT
  unfold EvP errV
  simp only
  generalize V.chk ns vs = ck at *
  generalize (truthM t).1 = tb at *
  go_enter Try.func11, Try.ntmps11
  go_wp2_with (first
    | (go_at_call 26; refine (HT.out _ (HI.out.below HO.out.low)).mono ?_; rintro e w1 ⟨rfl, HB1⟩; have H1 : Hid (Own3 w w1 (.int .i64 k) (.int .i64 n) (.string s) (.slice a l c) (.slice a1 n1 k1) (.slice a2 n2 k2)) := HO.out.below HB1; clear HB1; obtain ⟨g1, c0, c1, f0, f1⟩ := H1.out.v)
    | (go_at_call 27; refine (HC.out _ (HV.out.below H1.out.low)).mono ?_; rintro e w2 ⟨rfl, HB2⟩; have H2 : Hid (Own3 w w2 (.int .i64 k) (.int .i64 n) (.string s) (.slice a l c) (.slice a1 n1 k1) (.slice a2 n2 k2)) := H1.out.below HB2; clear HB2; obtain ⟨g1, c0, c1, f0, f1⟩ := H2.out.r))
  refine bodyPost_ret (v := .tuple #[.agg #[.bool false, .int .i64 0], .int .i64 (ck : Nat)]) (by simp [results, Try.results11, go_sem, c0, c1]) rfl ⟨rfl, H2.out.put _ _⟩
set_option maxRecDepth 100000 in
set_option maxHeartbeats 1200000 in
theorem of_run (t : Tr) (k n : Int) (s : ByteArray) (a : Option Addr) (l c : Nat) (v : Value) (ns : List ByteArray) (vs : List Int) (w : World) (hT : Tin w t k n s a l c) (hV : Vin w v ns vs) (h0 : (truthM t).2 = 0) (h1 : V.chk ns vs = 0) : Calls Try.prog 11 #[.agg #[.int .i64 k, .int .i64 n, .string s, .slice a l c], v] w (EvP (evM (envN ns vs) 16 t) w) := by
  have HC : Hid (∀ w, Vin w v ns vs → Calls Try.prog 27 #[v] w fun e w' => e = .returned (.int .i64 (V.chk ns vs : Nat)) ∧ Below w.heap.size w w') := fun w h => V.Check_any ns vs v w h.rd h.sz
  have HV : Hid (Vin w v ns vs) := hV
  have HP : Hid (∀ w, Tin w t k n s a l c → Calls Try.prog 28 #[.agg #[.int .i64 k, .int .i64 n, .string s, .slice a l c]] w (PartP (V.zipV (ns, vs)) v (evM (envN ns vs) 16 t) w)) := fun w h => by
    obtain ⟨P, hT⟩ := h.tre
    exact part_any (V.zipV (ns, vs)) v (envN_in hV.num) 16 t P _ w (truth_typed h0).1 (truth_typed h0).2 hT
  have HK : Hid (∀ w, Vin w v ns vs → Vok (V.zipV (ns, vs)) v w) := fun w h => vok_of h.rd h1
  obtain ⟨a1, n1, k1, a2, n2, k2, rfl⟩ := hV.form
  have HT : Hid (∀ w, Tin w t k n s a l c → Calls Try.prog 26 #[.agg #[.int .i64 k, .int .i64 n, .string s, .slice a l c]] w fun e w' => e = .returned (.tuple #[.bool (truthM t).1, .int .i64 ((truthM t).2 : Nat)]) ∧ Below w.heap.size w w') := fun w h => Truth_in h
  rw [h0] at HT
  rw [h1] at HC
  have HI : Hid (Tin w t k n s a l c) := hT
  have HO : Hid (Own3 w _ (.int .i64 k) (.int .i64 n) (.string s) (.slice a l c) (.slice a1 n1 k1) (.slice a2 n2 k2)) := Own3.new w _ _ _ _ _ _
  clear hV hT h0 h1
  generalize evM (envN ns vs) 16 t = r at *
  generalize V.zipV (ns, vs) = L at *
  generalize (truthM t).1 = tb at *
  obtain ⟨rb, rn, re⟩ := r
  unfold EvP
  simp only
  go_enter Try.func11, Try.ntmps11
  go_wp2_with (first
    | (go_at_call 26; refine (HT.out _ (HI.out.below HO.out.low)).mono ?_; rintro e w1 ⟨rfl, HB1⟩; have H1 : Hid (Own3 w w1 (.int .i64 k) (.int .i64 n) (.string s) (.slice a l c) (.slice a1 n1 k1) (.slice a2 n2 k2)) := HO.out.below HB1; clear HB1; obtain ⟨g1, c0, c1, f0, f1⟩ := H1.out.v)
    | (go_at_call 27; refine (HC.out _ (HV.out.below H1.out.low)).mono ?_; rintro e w2 ⟨rfl, HB2⟩; have H2 : Hid (Own3 w w2 (.int .i64 k) (.int .i64 n) (.string s) (.slice a l c) (.slice a1 n1 k1) (.slice a2 n2 k2)) := H1.out.below HB2; clear HB2; obtain ⟨g1, c0, c1, f0, f1⟩ := H2.out.v; obtain ⟨q0, q1, q2, q3, q4⟩ := H2.out.t; obtain ⟨g3, d0, d1, e0, e1⟩ := H2.out.r))
  have ne1 : w.heap.size ≠ w.heap.size + 1 + 1 := by omega
  have ne2 : w.heap.size + 1 + 1 ≠ w.heap.size := by omega
  have ne3 : w.heap.size + 1 + 1 ≠ w.heap.size + 1 := by omega
  have ne4 : w.heap.size + 1 ≠ w.heap.size + 1 + 1 := by omega
  go_region_held3 (fun w' => w'.cell? ⟨w.heap.size, 0, none⟩ = some (.int .i64 k) ∧ w'.cell? ⟨w.heap.size, 1, none⟩ = some (.int .i64 n) ∧ w'.cell? ⟨w.heap.size, 2, none⟩ = some (.string s) ∧ w'.cell? ⟨w.heap.size, 3, none⟩ = some (.slice a l c) ∧ w'.cell? ⟨w.heap.size + 1, 0, none⟩ = some (.slice a1 n1 k1) ∧ w'.cell? ⟨w.heap.size + 1, 1, none⟩ = some (.slice a2 n2 k2)) (go_keep) (first
    | (go_at_call 28; refine (HP.out _ (HI.out.below (Below.drew H2.out.low))).mono ?_; rintro e w3 ⟨n3, cap3, rfl, hPV, HB3⟩; obtain ⟨m3, cap4, hpe, heg, hPV⟩ := hPV; injection hpe with hp1 hp2 hp3; injection hp1 with hp1; subst hp1; subst hp3; have H3 : Hid ((∀ w', Below w3.heap.size w3 w' → Vok L (.agg #[.slice a1 n1 k1, .slice a2 n2 k2]) w' → Calls Try.prog n3 (#[.agg #[.slice a1 n1 k1, .slice a2 n2 k2]] ++ cap3) w' (EvP ⟨rb, rn, re⟩ w')) ∧ Own3 w w3 (.int .i64 k) (.int .i64 n) (.string s) (.slice a l c) (.slice a1 n1 k1) (.slice a2 n2 k2)) := ⟨hPV, H2.out.below (Below.trans (Below.drew (Below.refl _ _)) HB3)⟩; clear HB3 hPV hp2; obtain ⟨g1, c0, c1, f0, f1⟩ := H3.out.2.v; obtain ⟨q0, q1, q2, q3, q4⟩ := H3.out.2.t; obtain ⟨g3, d0, d1, e0, e1⟩ := H3.out.2.r)
    | (refine (H3.out.1 _ (Below.refl _ _) (HK.out _ (HV.out.below H3.out.2.low))).mono ?_; rintro e w4 ⟨rfl, HB4⟩; have H4 : Hid (Own3 w w4 (.int .i64 k) (.int .i64 n) (.string s) (.slice a l c) (.slice a1 n1 k1) (.slice a2 n2 k2)) := H3.out.2.below HB4; clear HB4; obtain ⟨g1, c0, c1, f0, f1⟩ := H4.out.v; obtain ⟨q0, q1, q2, q3, q4⟩ := H4.out.t; obtain ⟨g3, d0, d1, e0, e1⟩ := H4.out.r))
  all_goals (
    go_wp2
    refine bodyPost_ret (v := .tuple #[.agg #[.bool rb, .int .i64 rn], .int .i64 (re : Nat)]) (by simp [results, Try.results11, go_sem, d0, d1]) rfl ⟨rfl, H4.out.put _ _⟩)
theorem of_any (t : Tr) (k n : Int) (s : ByteArray) (a : Option Addr) (l c : Nat) (v : Value) (ns : List ByteArray) (vs : List Int) (w : World) (hT : Tin w t k n s a l c) (hV : Vin w v ns vs) : Calls Try.prog 11 #[.agg #[.int .i64 k, .int .i64 n, .string s, .slice a l c], v] w (EvP (ofM (envN ns vs) (V.chk ns vs) t) w) := by
  unfold ofM
  by_cases h0 : (truthM t).2 = 0
  · rw [if_neg (by omega)]
    by_cases h1 : V.chk ns vs = 0
    · rw [if_neg (by omega)]; exact of_run t k n s a l c v ns vs w hT hV h0 h1
    · rw [if_pos h1]; exact of_err2 t k n s a l c v ns vs w hT hV h0 h1
  · rw [if_pos h0]; exact of_err1 t k n s a l c v ns vs w hT hV h0
end
section
open Go.RowKit
set_option linter.unusedVariables false

def nuM (r : Va) : Int × Nat := if r.e ≠ 0 then (0, r.e) else if r.b = true then (0, 7) else (r.n, 0)
def trM (r : Va) : Bool × Nat := if r.e ≠ 0 then (false, r.e) else if r.b = false then (false, 7) else (decide (r.n = 1), 0)
def NuP (r : Int × Nat) (w : World) (e : Ending) (w' : World) : Prop := e = .returned (.tuple #[.int .i64 r.1, .int .i64 (r.2 : Nat)]) ∧ Below w.heap.size w w'
def TrP (r : Bool × Nat) (w : World) (e : Ending) (w' : World) : Prop := e = .returned (.tuple #[.bool r.1, .int .i64 (r.2 : Nat)]) ∧ Below w.heap.size w w'
/-- The condition and the variables of the call's own. -/
theorem two_own (w : World) (o1 o2 : Obj) {w1 : World} (hb : Below ((w.alloc o1).alloc o2).heap.size ((w.alloc o1).alloc o2) w1) : Below w.heap.size w w1 ∧ Below w.heap.size w ((w.alloc o1).alloc o2) :=
  ⟨((below_one w o1).alloc (le_alloc _ _) o2).trans (hb.mono (Nat.le_trans (le_alloc _ _) (le_alloc _ _))), (below_one w o1).alloc (le_alloc _ _) o2⟩
theorem two_low (w : World) (o1 o2 : Obj) : Below w.heap.size w ((w.alloc o1).alloc o2) := (below_one w o1).alloc (le_alloc _ _) o2
theorem low_two {w : World} {o1 o2 : Obj} {w1 : World} (hb : Below ((w.alloc o1).alloc o2).heap.size ((w.alloc o1).alloc o2) w1) (o : Obj) : Below w.heap.size w (w1.alloc o) :=
  (two_own w o1 o2 hb).1.alloc (two_own w o1 o2 hb).1.size o
set_option maxRecDepth 100000 in
set_option maxHeartbeats 800000 in
theorem number_of (r : Va) (t : Tr) (k n : Int) (s : ByteArray) (a : Option Addr) (l c : Nat) (v : Value) (ns : List ByteArray) (vs : List Int) (w : World) (hT : Tin w t k n s a l c) (hV : Vin w v ns vs)
    (hO : ∀ w, Tin w t k n s a l c → Vin w v ns vs → Calls Try.prog 11 #[.agg #[.int .i64 k, .int .i64 n, .string s, .slice a l c], v] w (EvP r w)) :
    Calls Try.prog 13 #[.agg #[.int .i64 k, .int .i64 n, .string s, .slice a l c], v] w (NuP (nuM r) w) := by
  have HO : Hid (∀ w', Below w.heap.size w w' → Calls Try.prog 11 #[.agg #[.int .i64 k, .int .i64 n, .string s, .slice a l c], v] w' (EvP r w')) := fun w' hb => hO w' (hT.below hb) (hV.below hb)
  obtain ⟨a1, n1, k1, a2, n2, k2, rfl⟩ := hV.form
  clear hO hV hT
  obtain ⟨rb, rn, re⟩ := r
  unfold nuM NuP
  unfold EvP at HO
  simp only at *
  by_cases h0 : re = 0
  · subst h0
    simp only [ne_eq, not_true_eq_false, if_false]
    cases rb
    · simp only [Bool.false_eq_true, if_false]
      go_enter Try.func13, Try.ntmps13
      go_wp2_with (go_at_call 11; refine (HO.out _ (two_low _ _ _)).mono ?_; rintro e w1 ⟨rfl, HB1⟩; have H1 : Hid (∀ o, Below w.heap.size w (w1.alloc o)) := fun o => low_two HB1 o; clear HB1)
      go_ret2
      exact ⟨rfl, H1.out _⟩
    · simp only [if_true]
      go_enter Try.func13, Try.ntmps13
      go_wp2_with (go_at_call 11; refine (HO.out _ (two_low _ _ _)).mono ?_; rintro e w1 ⟨rfl, HB1⟩; have H1 : Hid (∀ o, Below w.heap.size w (w1.alloc o)) := fun o => low_two HB1 o; clear HB1)
      go_ret2
      exact ⟨rfl, H1.out _⟩
  · have hz := nz h0
    rw [if_pos h0]
    simp only
    go_enter Try.func13, Try.ntmps13
    go_wp2_with (go_at_call 11; refine (HO.out _ (two_low _ _ _)).mono ?_; rintro e w1 ⟨rfl, HB1⟩; have H1 : Hid (∀ o, Below w.heap.size w (w1.alloc o)) := fun o => low_two HB1 o; clear HB1)
    go_ret2
    exact ⟨rfl, H1.out _⟩
set_option maxRecDepth 100000 in
set_option maxHeartbeats 800000 in
theorem truth_of_any (r : Va) (t : Tr) (k n : Int) (s : ByteArray) (a : Option Addr) (l c : Nat) (v : Value) (ns : List ByteArray) (vs : List Int) (w : World) (hT : Tin w t k n s a l c) (hV : Vin w v ns vs)
    (hO : ∀ w, Tin w t k n s a l c → Vin w v ns vs → Calls Try.prog 11 #[.agg #[.int .i64 k, .int .i64 n, .string s, .slice a l c], v] w (EvP r w)) :
    Calls Try.prog 14 #[.agg #[.int .i64 k, .int .i64 n, .string s, .slice a l c], v] w (TrP (trM r) w) := by
  have HO : Hid (∀ w', Below w.heap.size w w' → Calls Try.prog 11 #[.agg #[.int .i64 k, .int .i64 n, .string s, .slice a l c], v] w' (EvP r w')) := fun w' hb => hO w' (hT.below hb) (hV.below hb)
  have HT : Hid (∀ w, Calls Try.prog 30 #[.bool true] w fun e w' => e = .returned (.agg #[.bool true, .int .i64 1]) ∧ Below w.heap.size w w') := fun w => truth_any true w
  obtain ⟨a1, n1, k1, a2, n2, k2, rfl⟩ := hV.form
  clear hO hV hT
  obtain ⟨rb, rn, re⟩ := r
  unfold trM TrP
  unfold EvP at HO
  simp only at *
  by_cases h0 : re = 0
  · subst h0
    simp only [ne_eq, not_true_eq_false, if_false]
    cases rb
    · simp only [if_true]
      go_enter Try.func14, Try.ntmps14
      go_wp2_with (go_at_call 11; refine (HO.out _ (two_low _ _ _)).mono ?_; rintro e w1 ⟨rfl, HB1⟩; have H1 : Hid (∀ o, Below w.heap.size w (w1.alloc o)) := fun o => low_two HB1 o; clear HB1)
      go_ret2
      exact ⟨rfl, H1.out _⟩
    · simp only [Bool.true_eq_false, if_false]
      by_cases h1 : rn = 1
      · subst h1
        simp only [decide_true]
        go_enter Try.func14, Try.ntmps14
        go_wp2_with (go_at_call 11; refine (HO.out _ (two_low _ _ _)).mono ?_; rintro e w1 ⟨rfl, HB1⟩; have H1 : Hid (V.Two (w1.alloc (.cells #[.bool true, .int .i64 1] 32)) w1.heap.size (.bool true) (.int .i64 1) ∧ ∀ o, Below w.heap.size w (w1.alloc o)) := ⟨V.Two.new w1 _ _ 32, fun o => low_two HB1 o⟩; clear HB1)
        obtain ⟨g1, c0, c1, f0, f1⟩ := H1.out.1
        go_region_held3 (fun w' => w'.cell? ⟨w1.heap.size, 0, none⟩ = some (.bool true) ∧ w'.cell? ⟨w1.heap.size, 1, none⟩ = some (.int .i64 1)) (go_keep) (first | (go_at_call 30; refine (HT.out _).mono ?_; rintro e w2 ⟨rfl, HB2⟩; have H2 : Hid (V.Two w2 w1.heap.size (.bool true) (.int .i64 1) ∧ Below w.heap.size w w2) := ⟨H1.out.1.below (V.below_drew HB2), (H1.out.2 _).trans ((V.below_drew HB2).mono (H1.out.2 _).size)⟩; clear HB2; obtain ⟨g1, c0, c1, f0, f1⟩ := H2.out.1))
        all_goals (
          go_wp2
          go_ret2
          exact ⟨rfl, H2.out.2⟩)
      · have hxs : (rn == 1) = false := by simpa using h1
        have hxd : decide (rn = 1) = false := by simpa using h1
        rw [hxd]
        go_enter Try.func14, Try.ntmps14
        go_wp2_with (go_at_call 11; refine (HO.out _ (two_low _ _ _)).mono ?_; rintro e w1 ⟨rfl, HB1⟩; have H1 : Hid (V.Two (w1.alloc (.cells #[.bool true, .int .i64 rn] 32)) w1.heap.size (.bool true) (.int .i64 rn) ∧ ∀ o, Below w.heap.size w (w1.alloc o)) := ⟨V.Two.new w1 _ _ 32, fun o => low_two HB1 o⟩; clear HB1)
        obtain ⟨g1, c0, c1, f0, f1⟩ := H1.out.1
        go_region_held3 (fun w' => w'.cell? ⟨w1.heap.size, 0, none⟩ = some (.bool true) ∧ w'.cell? ⟨w1.heap.size, 1, none⟩ = some (.int .i64 rn)) (go_keep) (first | (go_at_call 30; refine (HT.out _).mono ?_; rintro e w2 ⟨rfl, HB2⟩; have H2 : Hid (V.Two w2 w1.heap.size (.bool true) (.int .i64 rn) ∧ Below w.heap.size w w2) := ⟨H1.out.1.below (V.below_drew HB2), (H1.out.2 _).trans ((V.below_drew HB2).mono (H1.out.2 _).size)⟩; clear HB2; obtain ⟨g1, c0, c1, f0, f1⟩ := H2.out.1))
        all_goals (
          go_wp2
          go_ret2
          exact ⟨rfl, H2.out.2⟩)
  · have hz := nz h0
    rw [if_pos h0]
    simp only
    go_enter Try.func14, Try.ntmps14
    go_wp2_with (go_at_call 11; refine (HO.out _ (two_low _ _ _)).mono ?_; rintro e w1 ⟨rfl, HB1⟩; have H1 : Hid (∀ o, Below w.heap.size w (w1.alloc o)) := fun o => low_two HB1 o; clear HB1)
    go_ret2
    exact ⟨rfl, H1.out _⟩
theorem Number_any (t : Tr) (k n : Int) (s : ByteArray) (a : Option Addr) (l c : Nat) (v : Value) (ns : List ByteArray) (vs : List Int) (w : World) (hT : Tin w t k n s a l c) (hV : Vin w v ns vs) : Calls Try.prog 13 #[.agg #[.int .i64 k, .int .i64 n, .string s, .slice a l c], v] w (NuP (nuM (ofM (envN ns vs) (V.chk ns vs) t)) w) :=
  number_of _ t k n s a l c v ns vs w hT hV fun w h1 h2 => of_any t k n s a l c v ns vs w h1 h2
theorem ETruth_any (t : Tr) (k n : Int) (s : ByteArray) (a : Option Addr) (l c : Nat) (v : Value) (ns : List ByteArray) (vs : List Int) (w : World) (hT : Tin w t k n s a l c) (hV : Vin w v ns vs) : Calls Try.prog 14 #[.agg #[.int .i64 k, .int .i64 n, .string s, .slice a l c], v] w (TrP (trM (ofM (envN ns vs) (V.chk ns vs) t)) w) :=
  truth_of_any _ t k n s a l c v ns vs w hT hV fun w h1 h2 => of_any t k n s a l c v ns vs w h1 h2
end
end Go.Proofs.Ytfjphlejhcdbaaa
