/-
  The parts of a tree, as the program makes them: what makes them.
-/
import Derived.Test.YtfjphlejhcdbaaaEv56
import Derived.Deep.RegionHeld3
namespace Go.Proofs.Ytfjphlejhcdbaaa
section
open Go.RowKit
set_option linter.unusedVariables false

/-- A part is answered. -/
def PartP (l : V.VL) (v : Value) (r : Va) (w : World) (e : Ending) (w' : World) : Prop := ∃ n cap, e = .returned (.func (.func n) #[] cap) ∧ PartV l v w' (.func (.func n) #[] cap) r ∧ Below w.heap.size w w'
theorem one_cell (w : World) (x : Value) (t : TypeId) : (w.alloc (.cells #[x] t)).cell? ⟨w.heap.size, 0, none⟩ = some x := by
  rw [cell_of_row _ w.heap.size 0 _ t (0, 0) (heap_alloc_new w _)]; rfl
theorem cell_below {w w' : World} {g o : Nat} {x : Value} (h : w.cell? ⟨g, o, none⟩ = some x) (hb : Below w.heap.size w w') : w'.cell? ⟨g, o, none⟩ = some x := (hb.cell (p := ⟨g, o, none⟩) (World.block_lt_of_cell? w _ h)).trans h
theorem below_one (w : World) (o : Obj) : Below w.heap.size w (w.alloc o) := (Below.refl _ _).alloc (Nat.le_refl _) _
set_option maxRecDepth 100000 in
set_option maxHeartbeats 400000 in
theorem ahead_any (l : V.VL) (v : Value) (n : Nat) (cap : Array Value) (k : Int) (r : Va) (hk : k = 5 ∨ k = 6) (hfi : Fine (decide (k = 6)) r) (w : World) (hp : PartV l v w (.func (.func n) #[] cap) r) : Calls Try.prog 48 #[.int .i64 k, .func (.func n) #[] cap] w (PartP l v (oneV k r) w) := by
  have HP : Hid (PartV l v w (.func (.func n) #[] cap) r ∧ (k = 5 ∨ k = 6) ∧ Fine (decide (k = 6)) r) := ⟨hp, hk, hfi⟩
  clear hp hk hfi
  go_enter Try.func48, Try.ntmps48
  go_wp2
  go_ret
  refine ⟨69, _, rfl, ⟨69, _, rfl, Try.call69, fun w2 hb hv => ?_⟩, (below_one _ _).alloc (le_alloc _ _) _⟩
  obtain ⟨hp, hk, hfi⟩ := HP.out
  have k1 : w2.cell? ⟨w.heap.size, 0, none⟩ = some (.int .i64 k) := cell_below (cell_below (one_cell w (.int .i64 k) 3) (below_one _ _)) hb
  have k2 : w2.cell? ⟨w.heap.size + 1, 0, none⟩ = some (.func (.func n) #[] cap) := by
    have := one_cell (w.alloc (.cells #[.int .i64 k] 3)) (.func (.func n) #[] cap) 61
    rw [size_alloc] at this
    exact cell_below this hb
  have hp2 : PartV l v w2 (.func (.func n) #[] cap) r := hp.below ((((below_one w _).alloc (le_alloc _ _) _)).trans (hb.mono (Nat.le_trans (le_alloc _ _) (le_alloc _ _))))
  show Calls Try.prog 69 #[v, .pointer (some ⟨w.heap.size + 1, 0, none⟩), .pointer (some ⟨w.heap.size, 0, none⟩)] w2 _
  unfold oneV
  by_cases h0 : r.e = 0
  · rw [if_neg (by omega)]
    rcases hk with rfl | rfl
    · rw [if_neg (by decide)]
      exact ahead_neg l v _ _ _ r w2 hv k2 k1 hp2 h0 hfi.num
    · rw [if_pos rfl]
      have hb := hfi.type h0
      have hn := hfi.truth h0 (by decide)
      obtain ⟨rb, rn, re⟩ := r
      simp only at h0 hb hn ⊢
      subst h0
      subst hb
      rcases hn with rfl | rfl
      · exact ahead_not0 l v _ _ _ _ w2 hv k2 k1 hp2 rfl
      · exact ahead_not1 l v _ _ _ _ w2 hv k2 k1 hp2 rfl
  · rw [if_pos h0]
    exact ahead_err l v _ _ _ k r w2 hv k2 k1 hp2 h0
theorem three_low (w : World) (o1 o2 o3 : Obj) : Below w.heap.size w (((w.alloc o1).alloc o2).alloc o3) := ((below_one w o1).alloc (le_alloc _ _) _).alloc (Nat.le_trans (le_alloc _ _) (le_alloc _ _)) _
theorem three_cells (w : World) (o1 o2 o3 : Obj) {w2 : World} (hb : Below (((w.alloc o1).alloc o2).alloc o3).heap.size (((w.alloc o1).alloc o2).alloc o3) w2) : Below w.heap.size w w2 ∧ w2.heap[w.heap.size]? = some o1 ∧ w2.heap[w.heap.size + 1]? = some o2 ∧ w2.heap[w.heap.size + 1 + 1]? = some o3 := by
  have s1 : (w.alloc o1).heap.size = w.heap.size + 1 := size_alloc _ _
  have s2 : ((w.alloc o1).alloc o2).heap.size = w.heap.size + 1 + 1 := by rw [size_alloc, s1]
  have s3 : (((w.alloc o1).alloc o2).alloc o3).heap.size = w.heap.size + 1 + 1 + 1 := by rw [size_alloc, s2]
  refine ⟨(three_low w o1 o2 o3).trans (hb.mono (three_low w o1 o2 o3).size), ?_, ?_, ?_⟩
  · rw [hb.block _ (by omega), (below_one ((w.alloc o1).alloc o2) o3).block _ (by omega), (below_one (w.alloc o1) o2).block _ (by omega)]; exact heap_alloc_new w o1
  · rw [hb.block _ (by omega), (below_one ((w.alloc o1).alloc o2) o3).block _ (by omega)]; have := heap_alloc_new (w.alloc o1) o2; rwa [s1] at this
  · rw [hb.block _ (by omega)]; have := heap_alloc_new ((w.alloc o1).alloc o2) o3; rwa [s2] at this
theorem cell_block {w : World} {g : Nat} {x : Value} {t : TypeId} (h : w.heap[g]? = some (.cells #[x] t)) : w.cell? ⟨g, 0, none⟩ = some x := by
  rw [cell_of_row _ g 0 _ t (0, 0) h]; rfl
theorem two_block {w : World} {g : Nat} {x y : Value} {t : TypeId} (h : w.heap[g]? = some (.cells #[x, y] t)) : V.Two w g x y := by
  refine ⟨(Array.getElem?_eq_some_iff.1 h).1, ?_, ?_, ?_, ?_⟩
  · rw [cell_of_row _ g 0 _ t (0, 0) h]; rfl
  · rw [cell_of_row _ g 1 _ t (0, 0) h]; rfl
  · exact frozen_of_row _ g 0 _ t h
  · exact frozen_of_row _ g 1 _ t h
/-- What a side of two comes to. -/
theorem choose_is {l : V.VL} {v : Value} {g1 g2 g3 : Nat} {f f2 : Value} {k s : Int} (hk : k = 13 ∧ s = 0 ∨ k = 14 ∧ s = 1) {a b : Va} (ha : Fine true a) (hb : Fine true b) {w : World} (hv : Vok l v w) (hf : w.cell? ⟨g1, 0, none⟩ = some f) (hs : V.Two w g2 (.bool true) (.int .i64 s)) (hf2 : w.cell? ⟨g3, 0, none⟩ = some f2) (hp : PartV l v w f a) (hp2 : PartV l v w f2 b) :
    Calls Try.prog 71 #[v, .pointer (some ⟨g1, 0, none⟩), .pointer (some ⟨g2, 0, none⟩), .pointer (some ⟨g3, 0, none⟩)] w (EvP (twoV k a b) w) := by
  unfold twoV
  by_cases h0 : a.e = 0
  · rw [if_neg (by omega)]
    have e : a = ⟨true, a.n, 0⟩ := Va.ext' (ha.type h0) rfl h0
    by_cases hq : a.n = s
    · rw [if_pos (by omega)]
      exact choice_same l v f f2 g1 g2 g3 s a b w hv hf hs hf2 hp hp2 (by rw [← hq]; exact e)
    · have hn := ha.truth h0 rfl
      rw [if_neg (by omega)]
      have e2 : (if b.e ≠ 0 then errV b.e else if k = 13 ∨ k = 14 then b else if k = 11 then truV (decide (a.n = b.n)) else if k = 12 then truV (decide (a.n < b.n)) else numV (twoA k a.n b.n)) = b := by
        by_cases hbe : b.e = 0
        · rw [if_neg (by omega), if_pos (by omega)]
        · rw [if_pos hbe]; exact (hb.bad hbe).1.symm
      rw [e2]
      exact choice_other l v f f2 g1 g2 g3 s a b w hv hf hs hf2 hp hp2 a.n hq e
  · rw [if_pos h0]
    have := choice_err l v f f2 g1 g2 g3 s a b w hv hf hs hf2 hp hp2 h0
    rw [← (ha.bad h0).1]
    exact this
set_option maxRecDepth 100000 in
set_option maxHeartbeats 400000 in
theorem choice_any (l : V.VL) (v : Value) (n m : Nat) (cap cap2 : Array Value) (k s : Int) (hk : k = 13 ∧ s = 0 ∨ k = 14 ∧ s = 1) (a b : Va) (ha : Fine true a) (hb : Fine true b) (w : World) (hp : PartV l v w (.func (.func n) #[] cap) a) (hp2 : PartV l v w (.func (.func m) #[] cap2) b) : Calls Try.prog 49 #[.func (.func n) #[] cap, .func (.func m) #[] cap2, .agg #[.bool true, .int .i64 s]] w (PartP l v (twoV k a b) w) := by
  have HP : Hid (PartV l v w (.func (.func n) #[] cap) a ∧ PartV l v w (.func (.func m) #[] cap2) b ∧ (k = 13 ∧ s = 0 ∨ k = 14 ∧ s = 1) ∧ Fine true a ∧ Fine true b) := ⟨hp, hp2, hk, ha, hb⟩
  clear hp hp2 hk ha hb
  go_enter Try.func49, Try.ntmps49
  go_wp2
  go_ret
  refine ⟨71, _, rfl, ⟨71, _, rfl, Try.call71, fun w2 hb hv => ?_⟩, three_low _ _ _ _⟩
  obtain ⟨hp, hp2, hk, hfa, hfb⟩ := HP.out
  obtain ⟨hlow, b1, b2, b3⟩ := three_cells _ _ _ _ hb
  exact choose_is hk hfa hfb hv (cell_block b1) (two_block b3) (cell_block b2) (hp.below hlow) (hp2.below hlow)
theorem between_is {l : V.VL} {v : Value} {g1 g2 g3 : Nat} {f f2 : Value} {k : Int} (h7 : 7 ≤ k) (h12 : k ≤ 12) {ta tb : Bool} {a b : Va} (ha : Fine ta a) (hb : Fine tb b) (htt : k = 11 → ta = tb) {w : World} (hv : Vok l v w) (hf : w.cell? ⟨g1, 0, none⟩ = some f) (hf2 : w.cell? ⟨g2, 0, none⟩ = some f2) (hk : w.cell? ⟨g3, 0, none⟩ = some (.int .i64 k)) (hp : PartV l v w f a) (hp2 : PartV l v w f2 b) :
    Calls Try.prog 72 #[v, .pointer (some ⟨g1, 0, none⟩), .pointer (some ⟨g2, 0, none⟩), .pointer (some ⟨g3, 0, none⟩)] w (EvP (twoV k a b) w) := by
  unfold twoV
  by_cases h0 : a.e = 0
  · rw [if_neg (by omega), if_neg (by omega)]
    by_cases h1 : b.e = 0
    · rw [if_neg (by omega), if_neg (by omega)]
      by_cases h11 : k = 11
      · rw [if_pos h11]
        subst h11
        have e : a = ⟨ta, a.n, 0⟩ := Va.ext' (ha.type h0) rfl h0
        have e2 : b = ⟨ta, b.n, 0⟩ := Va.ext' ((hb.type h1).trans (htt rfl).symm) rfl h1
        by_cases hq : a.n = b.n
        · rw [decide_eq_true hq]
          rw [← hq] at e2
          exact between_eq l v f f2 g1 g2 g3 a b w hv hf hf2 hk hp hp2 ta a.n e e2
        · rw [decide_eq_false hq]
          exact between_ne l v f f2 g1 g2 g3 a b w hv hf hf2 hk hp hp2 ta a.n b.n hq e e2
      · rw [if_neg h11]
        by_cases hk12 : k = 12
        · rw [if_pos hk12]
          subst hk12
          exact between_lt l v f f2 g1 g2 g3 a b w hv hf hf2 hk hp hp2 h0 h1
        · rw [if_neg hk12]
          exact between_num l v f f2 g1 g2 g3 k a b w hv hf hf2 hk hp hp2 h7 (by omega) h0 h1 ha.num hb.num
    · rw [if_pos h1]
      exact between_err2 l v f f2 g1 g2 g3 k a b w hv hf hf2 hk hp hp2 h0 h1
  · rw [if_pos h0]
    exact between_err1 l v f f2 g1 g2 g3 k a b w hv hf hf2 hk hp hp2 h0
set_option maxRecDepth 100000 in
set_option maxHeartbeats 400000 in
theorem between_any (l : V.VL) (v : Value) (n m : Nat) (cap cap2 : Array Value) (k : Int) (h7 : 7 ≤ k) (h12 : k ≤ 12) (ta tb : Bool) (a b : Va) (ha : Fine ta a) (hb : Fine tb b) (htt : k = 11 → ta = tb) (w : World) (hp : PartV l v w (.func (.func n) #[] cap) a) (hp2 : PartV l v w (.func (.func m) #[] cap2) b) : Calls Try.prog 50 #[.int .i64 k, .func (.func n) #[] cap, .func (.func m) #[] cap2] w (PartP l v (twoV k a b) w) := by
  have HP : Hid (PartV l v w (.func (.func n) #[] cap) a ∧ PartV l v w (.func (.func m) #[] cap2) b ∧ 7 ≤ k ∧ k ≤ 12 ∧ Fine ta a ∧ Fine tb b ∧ (k = 11 → ta = tb)) := ⟨hp, hp2, h7, h12, ha, hb, htt⟩
  clear hp hp2 h7 h12 ha hb htt
  go_enter Try.func50, Try.ntmps50
  go_wp2
  go_ret
  refine ⟨72, _, rfl, ⟨72, _, rfl, Try.call72, fun w2 hb hv => ?_⟩, three_low _ _ _ _⟩
  obtain ⟨hp, hp2, h7, h12, hfa, hfb, htt⟩ := HP.out
  obtain ⟨hlow, b1, b2, b3⟩ := three_cells _ _ _ _ hb
  exact between_is h7 h12 hfa hfb htt hv (cell_block b2) (cell_block b3) (cell_block b1) (hp.below hlow) (hp2.below hlow)
set_option maxRecDepth 100000 in
set_option maxHeartbeats 400000 in
theorem leaf_var (l : V.VL) (v : Value) (n : Int) (nm : Bs) (a : Option Addr) (c d : Nat) (w : World) : Calls Try.prog 47 #[.agg #[.int .i64 2, .int .i64 n, .string (ba nm), .slice a c d]] w (PartP l v (varV (envL l nm)) w) := by
  generalize hs : ba nm = s
  have Hs : Hid (ba nm = s) := hs
  clear hs
  go_enter Try.func47, Try.ntmps47
  go_wp2
  go_ret
  refine ⟨65, _, rfl, ⟨65, _, rfl, Try.call65, fun w2 hb hv => ?_⟩, below_one _ _⟩
  exact leaf1_any l v w.heap.size nm w2 hv (by rw [Hs.out]; exact ((Cell4.new w (.int .i64 2) (.int .i64 n) (.string s) (.slice a c d) 24).below hb).c2)
set_option maxRecDepth 100000 in
set_option maxHeartbeats 400000 in
theorem leaf_num (l : V.VL) (v : Value) (n : Int) (s : ByteArray) (a : Option Addr) (c d : Nat) (w : World) : Calls Try.prog 47 #[.agg #[.int .i64 1, .int .i64 n, .string s, .slice a c d]] w (PartP l v ⟨false, n, 0⟩ w) := by
  have HN : Hid (∀ n w, Calls Try.prog 67 #[.int .i64 n] w fun e w' => e = .returned (.agg #[.bool false, .int .i64 n]) ∧ Below w.heap.size w w') := fun n w => number_any n w
  go_enter Try.func47, Try.ntmps47
  go_wp2_with (go_at_call 67; refine (HN.out _ _).mono ?_; rintro e w1 ⟨rfl, HB1⟩; have H1 : Hid (Cell4 w1 w.heap.size (.int .i64 1) (.int .i64 n) (.string s) (.slice a c d) ∧ Below w.heap.size w w1) := ⟨(Cell4.new w (.int .i64 1) (.int .i64 n) (.string s) (.slice a c d) 24).below HB1, (below_one _ _).trans (HB1.mono (le_alloc _ _))⟩; clear HB1; obtain ⟨c0, c1, c2, c3, c4⟩ := H1.out.1; have hw1 : w.heap.size < w1.heap.size := H1.out.1.lt)
  go_ret
  refine ⟨68, _, rfl, ⟨68, _, rfl, Try.call68, fun w2 hb hv => ?_⟩, H1.out.2.trans ((below_one _ _).mono H1.out.2.size)⟩
  exact leaf2_any l v w1.heap.size false n w2 hv ((V.Two.new w1 (.bool false) (.int .i64 n) 32).below hb)
set_option maxRecDepth 100000 in
set_option maxHeartbeats 400000 in
theorem leaf_yes (l : V.VL) (v : Value) (k n : Int) (hk : k = 3 ∨ k = 4) (s : ByteArray) (a : Option Addr) (c d : Nat) (w : World) : Calls Try.prog 47 #[.agg #[.int .i64 k, .int .i64 n, .string s, .slice a c d]] w (PartP l v (truV (decide (k = 3))) w) := by
  have HN : Hid (∀ n w, Calls Try.prog 67 #[.int .i64 n] w fun e w' => e = .returned (.agg #[.bool false, .int .i64 n]) ∧ Below w.heap.size w w') := fun n w => number_any n w
  have HT : Hid (∀ w, Calls Try.prog 30 #[.bool (k == 3)] w fun e w' => e = .returned (.agg #[.bool true, .int .i64 (if k = 3 then 1 else 0)]) ∧ Below w.heap.size w w') := fun w => by have := truth_any (k == 3) w; simpa using this
  have e1 : truV (decide (k = 3)) = ⟨true, if k = 3 then 1 else 0, 0⟩ := by unfold truV; simp
  rw [e1]
  rcases hk with rfl | rfl
  all_goals (
    simp only [if_true, if_false, beq_self_eq_true, show ((4 : Int) == 3) = false from rfl, show ¬ ((4 : Int) = 3) by decide] at HT ⊢
    go_enter Try.func47, Try.ntmps47
    go_wp2_with (first
      | (go_at_call 67; refine (HN.out _ _).mono ?_; rintro e w1 ⟨rfl, HB1⟩; have H1 : Hid (Cell4 w1 w.heap.size _ (.int .i64 n) (.string s) (.slice a c d) ∧ Below w.heap.size w w1) := ⟨(Cell4.new w _ (.int .i64 n) (.string s) (.slice a c d) 24).below HB1, (below_one _ _).trans (HB1.mono (le_alloc _ _))⟩; clear HB1; obtain ⟨c0, c1, c2, c3, c4⟩ := H1.out.1; have hw1 : w.heap.size < w1.heap.size := H1.out.1.lt)
      | (go_at_call 30; refine (HT.out _).mono ?_; rintro e w3 ⟨rfl, HB3⟩; have H3 : Hid (V.Two w3 w1.heap.size (.bool false) (.int .i64 n) ∧ Below w.heap.size w w3) := ⟨(V.Two.new w1 _ _ 32).below HB3, (H1.out.2.trans ((below_one _ _).mono H1.out.2.size)).trans (HB3.mono (Nat.le_trans H1.out.2.size (le_alloc _ _)))⟩; clear HB3; obtain ⟨g1, d0, d1, f0, f1⟩ := H3.out.1))
    go_ret
    refine ⟨68, _, rfl, ⟨68, _, rfl, Try.call68, fun w2 hb hv => ?_⟩, two_put H3.out.2 (Nat.le_trans (Nat.le_refl _) H1.out.2.size) _ _⟩
    exact leaf2_any l v w1.heap.size true _ w2 hv ((V.two_set1 (V.two_set0 H3.out.1 _) _).below hb))
end
section
open Go.RowKit
set_option linter.unusedVariables false

/-- A tree's kind and kids, and one kid, in memory. -/
structure Six (w : World) (g : Nat) (k : Int) (kv : Value) (b o : Nat) (xk xn : Int) (us : ByteArray) (xa : Option Addr) (xl xc : Nat) : Prop where
  q0 : w.cell? ⟨g, 0, none⟩ = some (.int .i64 k)
  q3 : w.cell? ⟨g, 3, none⟩ = some kv
  m0 : w.cell? ⟨b, o, none⟩ = some (.int .i64 xk)
  m1 : w.cell? ⟨b, o + 1, none⟩ = some (.int .i64 xn)
  m2 : w.cell? ⟨b, o + 2, none⟩ = some (.string us)
  m3 : w.cell? ⟨b, o + 3, none⟩ = some (.slice xa xl xc)
theorem Six.below {w w' : World} {g : Nat} {k : Int} {kv : Value} {b o : Nat} {xk xn : Int} {us : ByteArray} {xa : Option Addr} {xl xc : Nat} (h : Six w g k kv b o xk xn us xa xl xc) (hb : Below w.heap.size w w') : Six w' g k kv b o xk xn us xa xl xc :=
  ⟨cell_below h.q0 hb, cell_below h.q3 hb, cell_below h.m0 hb, cell_below h.m1 hb, cell_below h.m2 hb, cell_below h.m3 hb⟩
set_option maxRecDepth 100000 in
set_option maxHeartbeats 800000 in
theorem part_one (l : V.VL) (v : Value) (k n : Int) (s : ByteArray) (b o c : Nat) (us : ByteArray) (xk xn : Int) (xa : Option Addr) (xl xc : Nat) (r : Va) (hk : k = 5 ∨ k = 6) (hfi : Fine (decide (k = 6)) r) (w : World) (hc : 1 ≤ c)
    (m0 : w.cell? ⟨b, o, none⟩ = some (.int .i64 xk)) (m1 : w.cell? ⟨b, o + 1, none⟩ = some (.int .i64 xn)) (m2 : w.cell? ⟨b, o + 2, none⟩ = some (.string us)) (m3 : w.cell? ⟨b, o + 3, none⟩ = some (.slice xa xl xc))
    (HI : Hid (∀ w', Below w.heap.size w w' → Calls Try.prog 28 #[.agg #[.int .i64 xk, .int .i64 xn, .string us, .slice xa xl xc]] w' (PartP l v r w'))) :
    Calls Try.prog 28 #[.agg #[.int .i64 k, .int .i64 n, .string s, .slice (some ⟨b, o, none⟩) 1 c]] w (PartP l v (oneV k r) w) := by
  have HA : Hid (∀ n cap w, PartV l v w (.func (.func n) #[] cap) r → Calls Try.prog 48 #[.int .i64 k, .func (.func n) #[] cap] w (PartP l v (oneV k r) w)) := fun n cap w h => ahead_any l v n cap k r hk hfi w h
  clear hk hfi
  have hbl : b < w.heap.size := World.block_lt_of_cell? w _ m0
  have HO : Hid (Six (w.alloc (.cells #[.int .i64 k, .int .i64 n, .string s, .slice (some ⟨b, o, none⟩) 1 c] 24)) w.heap.size k (.slice (some ⟨b, o, none⟩) 1 c) b o xk xn us xa xl xc) := by
    have h := Cell4.new w (.int .i64 k) (.int .i64 n) (.string s) (.slice (some ⟨b, o, none⟩) 1 c) 24
    exact ⟨h.c0, h.c3, cell_below m0 (below_one _ _), cell_below m1 (below_one _ _), cell_below m2 (below_one _ _), cell_below m3 (below_one _ _)⟩
  go_enter Try.func28, Try.ntmps28
  go_wp2_with fail
  go_region_held3 (fun w' => w'.cell? ⟨w.heap.size, 0, none⟩ = some (.int .i64 k) ∧ w'.cell? ⟨w.heap.size, 3, none⟩ = some (.slice (some ⟨b, o, none⟩) 1 c) ∧ w'.cell? ⟨b, o, none⟩ = some (.int .i64 xk) ∧ w'.cell? ⟨b, o + 1, none⟩ = some (.int .i64 xn) ∧ w'.cell? ⟨b, o + 2, none⟩ = some (.string us) ∧ w'.cell? ⟨b, o + 3, none⟩ = some (.slice xa xl xc)) (go_keep) (first
    | (go_at_call 28; refine (HI.out _ (Below.drew (below_one _ _))).mono ?_; rintro e w2 ⟨n2, cap2, rfl, hPV, HB⟩; have H2 : Hid (PartV l v w2 (.func (.func n2) #[] cap2) r ∧ Below w.heap.size w w2 ∧ Six w2 w.heap.size k (.slice (some ⟨b, o, none⟩) 1 c) b o xk xn us xa xl xc) := ⟨hPV, (Below.drew (below_one _ _)).trans (HB.mono (le_alloc _ _)), HO.out.below (Below.trans (Below.drew (Below.refl _ _)) HB)⟩; obtain ⟨q0, q3, m0, m1, m2, m3⟩ := H2.out.2.2; clear HB hPV)
    | (go_at_call 48; refine (HA.out _ _ _ H2.out.1).mono ?_; rintro e w3 ⟨n3, cap3, rfl, hPV3, HB3⟩; have H3 : Hid (PartV l v w3 (.func (.func n3) #[] cap3) (oneV k r) ∧ Below w.heap.size w w3 ∧ Six w3 w.heap.size k (.slice (some ⟨b, o, none⟩) 1 c) b o xk xn us xa xl xc) := ⟨hPV3, H2.out.2.1.trans (HB3.mono H2.out.2.1.size), H2.out.2.2.below HB3⟩; obtain ⟨q0, q3, m0, m1, m2, m3⟩ := H3.out.2.2; clear HB3 hPV3))
  all_goals (
    go_wp2
    go_ret
    exact ⟨n3, cap3, rfl, H3.out.1, H3.out.2.1⟩)
set_option maxRecDepth 100000 in
set_option maxHeartbeats 1200000 in
theorem part_and (l : V.VL) (v : Value) (n : Int) (s : ByteArray) (b o c : Nat) (us ut : ByteArray) (xk xn yk yn : Int) (xa ya : Option Addr) (xl xc yl yc : Nat) (r q : Va) (hr : Fine true r) (hq : Fine true q) (w : World) (hc : 2 ≤ c)
    (m0 : w.cell? ⟨b, o, none⟩ = some (.int .i64 xk)) (m1 : w.cell? ⟨b, o + 1, none⟩ = some (.int .i64 xn)) (m2 : w.cell? ⟨b, o + 2, none⟩ = some (.string us)) (m3 : w.cell? ⟨b, o + 3, none⟩ = some (.slice xa xl xc))
    (t0 : w.cell? ⟨b, o + 4, none⟩ = some (.int .i64 yk)) (t1 : w.cell? ⟨b, o + 4 + 1, none⟩ = some (.int .i64 yn)) (t2 : w.cell? ⟨b, o + 4 + 2, none⟩ = some (.string ut)) (t3 : w.cell? ⟨b, o + 4 + 3, none⟩ = some (.slice ya yl yc))
    (HI : Hid (∀ w', Below w.heap.size w w' → Calls Try.prog 28 #[.agg #[.int .i64 xk, .int .i64 xn, .string us, .slice xa xl xc]] w' (PartP l v r w')))
    (HJ : Hid (∀ w', Below w.heap.size w w' → Calls Try.prog 28 #[.agg #[.int .i64 yk, .int .i64 yn, .string ut, .slice ya yl yc]] w' (PartP l v q w'))) :
    Calls Try.prog 28 #[.agg #[.int .i64 13, .int .i64 n, .string s, .slice (some ⟨b, o, none⟩) 2 c]] w (PartP l v (twoV 13 r q) w) := by
  have HT : Hid (∀ w, Calls Try.prog 30 #[.bool false] w fun e w' => e = .returned (.agg #[.bool true, .int .i64 0]) ∧ Below w.heap.size w w') := fun w => truth_any false w
  have HA : Hid (∀ n m cap cap2 w, PartV l v w (.func (.func n) #[] cap) r → PartV l v w (.func (.func m) #[] cap2) q → Calls Try.prog 49 #[.func (.func n) #[] cap, .func (.func m) #[] cap2, .agg #[.bool true, .int .i64 0]] w (PartP l v (twoV 13 r q) w)) := fun n m cap cap2 w h h2 => choice_any l v n m cap cap2 13 0 (by decide) r q hr hq w h h2
  clear hr hq
  have hbl : b < w.heap.size := World.block_lt_of_cell? w _ m0
  have HO : Hid (Six (w.alloc (.cells #[.int .i64 13, .int .i64 n, .string s, .slice (some ⟨b, o, none⟩) 2 c] 24)) w.heap.size (13) (.slice (some ⟨b, o, none⟩) 2 c) b o xk xn us xa xl xc ∧ Six (w.alloc (.cells #[.int .i64 13, .int .i64 n, .string s, .slice (some ⟨b, o, none⟩) 2 c] 24)) w.heap.size (13) (.slice (some ⟨b, o, none⟩) 2 c) b (o + 4) yk yn ut ya yl yc) := by
    have h := Cell4.new w (.int .i64 13) (.int .i64 n) (.string s) (.slice (some ⟨b, o, none⟩) 2 c) 24
    exact ⟨⟨h.c0, h.c3, cell_below m0 (below_one _ _), cell_below m1 (below_one _ _), cell_below m2 (below_one _ _), cell_below m3 (below_one _ _)⟩, ⟨h.c0, h.c3, cell_below t0 (below_one _ _), cell_below t1 (below_one _ _), cell_below t2 (below_one _ _), cell_below t3 (below_one _ _)⟩⟩
  go_enter Try.func28, Try.ntmps28
  go_wp2_with fail
  go_region_held3 (fun w' => w'.cell? ⟨w.heap.size, 3, none⟩ = some (.slice (some ⟨b, o, none⟩) 2 c) ∧ w'.cell? ⟨b, o, none⟩ = some (.int .i64 xk) ∧ w'.cell? ⟨b, o + 1, none⟩ = some (.int .i64 xn) ∧ w'.cell? ⟨b, o + 2, none⟩ = some (.string us) ∧ w'.cell? ⟨b, o + 3, none⟩ = some (.slice xa xl xc) ∧ w'.cell? ⟨b, o + 4, none⟩ = some (.int .i64 yk) ∧ w'.cell? ⟨b, o + 4 + 1, none⟩ = some (.int .i64 yn) ∧ w'.cell? ⟨b, o + 4 + 2, none⟩ = some (.string ut) ∧ w'.cell? ⟨b, o + 4 + 3, none⟩ = some (.slice ya yl yc)) (go_keep) (first
    | (go_at_call 28; have := H2; refine (HJ.out _ H2.out.2.1).mono ?_; rintro e w3 ⟨n3, cap3, rfl, hPV3, HB3⟩; have H3 : Hid (PartV l v w3 (.func (.func n2) #[] cap2) r ∧ PartV l v w3 (.func (.func n3) #[] cap3) q ∧ Below w.heap.size w w3 ∧ Six w3 w.heap.size (13) (.slice (some ⟨b, o, none⟩) 2 c) b o xk xn us xa xl xc ∧ Six w3 w.heap.size (13) (.slice (some ⟨b, o, none⟩) 2 c) b (o + 4) yk yn ut ya yl yc) := ⟨H2.out.1.below HB3, hPV3, H2.out.2.1.trans (HB3.mono H2.out.2.1.size), H2.out.2.2.1.below HB3, H2.out.2.2.2.below HB3⟩; obtain ⟨q0, q3, m0, m1, m2, m3⟩ := H3.out.2.2.2.1; obtain ⟨q0, q3, t0, t1, t2, t3⟩ := H3.out.2.2.2.2; clear HB3 hPV3)
    | (go_at_call 28; refine (HI.out _ (Below.drew (below_one _ _))).mono ?_; rintro e w2 ⟨n2, cap2, rfl, hPV, HB⟩; have H2 : Hid (PartV l v w2 (.func (.func n2) #[] cap2) r ∧ Below w.heap.size w w2 ∧ Six w2 w.heap.size (13) (.slice (some ⟨b, o, none⟩) 2 c) b o xk xn us xa xl xc ∧ Six w2 w.heap.size (13) (.slice (some ⟨b, o, none⟩) 2 c) b (o + 4) yk yn ut ya yl yc) := ⟨hPV, (Below.drew (below_one _ _)).trans (HB.mono (le_alloc _ _)), HO.out.1.below (Below.trans (Below.drew (Below.refl _ _)) HB), HO.out.2.below (Below.trans (Below.drew (Below.refl _ _)) HB)⟩; obtain ⟨q0, q3, m0, m1, m2, m3⟩ := H2.out.2.2.1; obtain ⟨q0, q3, t0, t1, t2, t3⟩ := H2.out.2.2.2; clear HB hPV))
  all_goals (
    go_wp2_with (first
      | (go_at_call 30; refine (HT.out _).mono ?_; rintro e w4 ⟨rfl, HB4⟩; have H4 : Hid (PartV l v w4 (.func (.func n2) #[] cap2) r ∧ PartV l v w4 (.func (.func n3) #[] cap3) q ∧ Below w.heap.size w w4) := ⟨H3.out.1.below HB4, H3.out.2.1.below HB4, H3.out.2.2.1.trans (HB4.mono H3.out.2.2.1.size)⟩; clear HB4)
      | (go_at_call 49; refine (HA.out _ _ _ _ _ H4.out.1 H4.out.2.1).mono ?_; rintro e w5 ⟨n5, cap5, rfl, hPV5, HB5⟩; have H5 : Hid (PartV l v w5 (.func (.func n5) #[] cap5) (twoV 13 r q) ∧ Below w.heap.size w w5) := ⟨hPV5, H4.out.2.2.trans (HB5.mono H4.out.2.2.size)⟩; clear HB5 hPV5))
    go_ret
    exact ⟨n5, cap5, rfl, H5.out.1, H5.out.2⟩)
set_option maxRecDepth 100000 in
set_option maxHeartbeats 1200000 in
theorem part_or (l : V.VL) (v : Value) (n : Int) (s : ByteArray) (b o c : Nat) (us ut : ByteArray) (xk xn yk yn : Int) (xa ya : Option Addr) (xl xc yl yc : Nat) (r q : Va) (hr : Fine true r) (hq : Fine true q) (w : World) (hc : 2 ≤ c)
    (m0 : w.cell? ⟨b, o, none⟩ = some (.int .i64 xk)) (m1 : w.cell? ⟨b, o + 1, none⟩ = some (.int .i64 xn)) (m2 : w.cell? ⟨b, o + 2, none⟩ = some (.string us)) (m3 : w.cell? ⟨b, o + 3, none⟩ = some (.slice xa xl xc))
    (t0 : w.cell? ⟨b, o + 4, none⟩ = some (.int .i64 yk)) (t1 : w.cell? ⟨b, o + 4 + 1, none⟩ = some (.int .i64 yn)) (t2 : w.cell? ⟨b, o + 4 + 2, none⟩ = some (.string ut)) (t3 : w.cell? ⟨b, o + 4 + 3, none⟩ = some (.slice ya yl yc))
    (HI : Hid (∀ w', Below w.heap.size w w' → Calls Try.prog 28 #[.agg #[.int .i64 xk, .int .i64 xn, .string us, .slice xa xl xc]] w' (PartP l v r w')))
    (HJ : Hid (∀ w', Below w.heap.size w w' → Calls Try.prog 28 #[.agg #[.int .i64 yk, .int .i64 yn, .string ut, .slice ya yl yc]] w' (PartP l v q w'))) :
    Calls Try.prog 28 #[.agg #[.int .i64 14, .int .i64 n, .string s, .slice (some ⟨b, o, none⟩) 2 c]] w (PartP l v (twoV 14 r q) w) := by
  have HT : Hid (∀ w, Calls Try.prog 30 #[.bool true] w fun e w' => e = .returned (.agg #[.bool true, .int .i64 1]) ∧ Below w.heap.size w w') := fun w => truth_any true w
  have HA : Hid (∀ n m cap cap2 w, PartV l v w (.func (.func n) #[] cap) r → PartV l v w (.func (.func m) #[] cap2) q → Calls Try.prog 49 #[.func (.func n) #[] cap, .func (.func m) #[] cap2, .agg #[.bool true, .int .i64 1]] w (PartP l v (twoV 14 r q) w)) := fun n m cap cap2 w h h2 => choice_any l v n m cap cap2 14 1 (by decide) r q hr hq w h h2
  clear hr hq
  have hbl : b < w.heap.size := World.block_lt_of_cell? w _ m0
  have HO : Hid (Six (w.alloc (.cells #[.int .i64 14, .int .i64 n, .string s, .slice (some ⟨b, o, none⟩) 2 c] 24)) w.heap.size (14) (.slice (some ⟨b, o, none⟩) 2 c) b o xk xn us xa xl xc ∧ Six (w.alloc (.cells #[.int .i64 14, .int .i64 n, .string s, .slice (some ⟨b, o, none⟩) 2 c] 24)) w.heap.size (14) (.slice (some ⟨b, o, none⟩) 2 c) b (o + 4) yk yn ut ya yl yc) := by
    have h := Cell4.new w (.int .i64 14) (.int .i64 n) (.string s) (.slice (some ⟨b, o, none⟩) 2 c) 24
    exact ⟨⟨h.c0, h.c3, cell_below m0 (below_one _ _), cell_below m1 (below_one _ _), cell_below m2 (below_one _ _), cell_below m3 (below_one _ _)⟩, ⟨h.c0, h.c3, cell_below t0 (below_one _ _), cell_below t1 (below_one _ _), cell_below t2 (below_one _ _), cell_below t3 (below_one _ _)⟩⟩
  go_enter Try.func28, Try.ntmps28
  go_wp2_with fail
  go_region_held3 (fun w' => w'.cell? ⟨w.heap.size, 3, none⟩ = some (.slice (some ⟨b, o, none⟩) 2 c) ∧ w'.cell? ⟨b, o, none⟩ = some (.int .i64 xk) ∧ w'.cell? ⟨b, o + 1, none⟩ = some (.int .i64 xn) ∧ w'.cell? ⟨b, o + 2, none⟩ = some (.string us) ∧ w'.cell? ⟨b, o + 3, none⟩ = some (.slice xa xl xc) ∧ w'.cell? ⟨b, o + 4, none⟩ = some (.int .i64 yk) ∧ w'.cell? ⟨b, o + 4 + 1, none⟩ = some (.int .i64 yn) ∧ w'.cell? ⟨b, o + 4 + 2, none⟩ = some (.string ut) ∧ w'.cell? ⟨b, o + 4 + 3, none⟩ = some (.slice ya yl yc)) (go_keep) (first
    | (go_at_call 28; have := H2; refine (HJ.out _ H2.out.2.1).mono ?_; rintro e w3 ⟨n3, cap3, rfl, hPV3, HB3⟩; have H3 : Hid (PartV l v w3 (.func (.func n2) #[] cap2) r ∧ PartV l v w3 (.func (.func n3) #[] cap3) q ∧ Below w.heap.size w w3 ∧ Six w3 w.heap.size (14) (.slice (some ⟨b, o, none⟩) 2 c) b o xk xn us xa xl xc ∧ Six w3 w.heap.size (14) (.slice (some ⟨b, o, none⟩) 2 c) b (o + 4) yk yn ut ya yl yc) := ⟨H2.out.1.below HB3, hPV3, H2.out.2.1.trans (HB3.mono H2.out.2.1.size), H2.out.2.2.1.below HB3, H2.out.2.2.2.below HB3⟩; obtain ⟨q0, q3, m0, m1, m2, m3⟩ := H3.out.2.2.2.1; obtain ⟨q0, q3, t0, t1, t2, t3⟩ := H3.out.2.2.2.2; clear HB3 hPV3)
    | (go_at_call 28; refine (HI.out _ (Below.drew (below_one _ _))).mono ?_; rintro e w2 ⟨n2, cap2, rfl, hPV, HB⟩; have H2 : Hid (PartV l v w2 (.func (.func n2) #[] cap2) r ∧ Below w.heap.size w w2 ∧ Six w2 w.heap.size (14) (.slice (some ⟨b, o, none⟩) 2 c) b o xk xn us xa xl xc ∧ Six w2 w.heap.size (14) (.slice (some ⟨b, o, none⟩) 2 c) b (o + 4) yk yn ut ya yl yc) := ⟨hPV, (Below.drew (below_one _ _)).trans (HB.mono (le_alloc _ _)), HO.out.1.below (Below.trans (Below.drew (Below.refl _ _)) HB), HO.out.2.below (Below.trans (Below.drew (Below.refl _ _)) HB)⟩; obtain ⟨q0, q3, m0, m1, m2, m3⟩ := H2.out.2.2.1; obtain ⟨q0, q3, t0, t1, t2, t3⟩ := H2.out.2.2.2; clear HB hPV))
  all_goals (
    go_wp2_with (first
      | (go_at_call 30; refine (HT.out _).mono ?_; rintro e w4 ⟨rfl, HB4⟩; have H4 : Hid (PartV l v w4 (.func (.func n2) #[] cap2) r ∧ PartV l v w4 (.func (.func n3) #[] cap3) q ∧ Below w.heap.size w w4) := ⟨H3.out.1.below HB4, H3.out.2.1.below HB4, H3.out.2.2.1.trans (HB4.mono H3.out.2.2.1.size)⟩; clear HB4)
      | (go_at_call 49; refine (HA.out _ _ _ _ _ H4.out.1 H4.out.2.1).mono ?_; rintro e w5 ⟨n5, cap5, rfl, hPV5, HB5⟩; have H5 : Hid (PartV l v w5 (.func (.func n5) #[] cap5) (twoV 14 r q) ∧ Below w.heap.size w w5) := ⟨hPV5, H4.out.2.2.trans (HB5.mono H4.out.2.2.size)⟩; clear HB5 hPV5))
    go_ret
    exact ⟨n5, cap5, rfl, H5.out.1, H5.out.2⟩)
set_option maxRecDepth 100000 in
set_option maxHeartbeats 1200000 in
theorem part_between (l : V.VL) (v : Value) (k : Int) (n : Int) (s : ByteArray) (b o c : Nat) (us ut : ByteArray) (xk xn yk yn : Int) (xa ya : Option Addr) (xl xc yl yc : Nat) (r q : Va) (h7 : 7 ≤ k) (h12 : k ≤ 12) (ta tb : Bool) (hr : Fine ta r) (hq : Fine tb q) (htt : k = 11 → ta = tb) (w : World) (hc : 2 ≤ c)
    (m0 : w.cell? ⟨b, o, none⟩ = some (.int .i64 xk)) (m1 : w.cell? ⟨b, o + 1, none⟩ = some (.int .i64 xn)) (m2 : w.cell? ⟨b, o + 2, none⟩ = some (.string us)) (m3 : w.cell? ⟨b, o + 3, none⟩ = some (.slice xa xl xc))
    (t0 : w.cell? ⟨b, o + 4, none⟩ = some (.int .i64 yk)) (t1 : w.cell? ⟨b, o + 4 + 1, none⟩ = some (.int .i64 yn)) (t2 : w.cell? ⟨b, o + 4 + 2, none⟩ = some (.string ut)) (t3 : w.cell? ⟨b, o + 4 + 3, none⟩ = some (.slice ya yl yc))
    (HI : Hid (∀ w', Below w.heap.size w w' → Calls Try.prog 28 #[.agg #[.int .i64 xk, .int .i64 xn, .string us, .slice xa xl xc]] w' (PartP l v r w')))
    (HJ : Hid (∀ w', Below w.heap.size w w' → Calls Try.prog 28 #[.agg #[.int .i64 yk, .int .i64 yn, .string ut, .slice ya yl yc]] w' (PartP l v q w'))) :
    Calls Try.prog 28 #[.agg #[.int .i64 k, .int .i64 n, .string s, .slice (some ⟨b, o, none⟩) 2 c]] w (PartP l v (twoV k r q) w) := by
  have HA : Hid (∀ n m cap cap2 w, PartV l v w (.func (.func n) #[] cap) r → PartV l v w (.func (.func m) #[] cap2) q → Calls Try.prog 50 #[.int .i64 k, .func (.func n) #[] cap, .func (.func m) #[] cap2] w (PartP l v (twoV k r q) w)) := fun n m cap cap2 w h h2 => between_any l v n m cap cap2 k h7 h12 ta tb r q hr hq htt w h h2
  have k13 : (k == 13) = false := by simp; omega
  have k14 : (k == 14) = false := by simp; omega
  clear hr hq htt h7 h12
  have hbl : b < w.heap.size := World.block_lt_of_cell? w _ m0
  have HO : Hid (Six (w.alloc (.cells #[.int .i64 k, .int .i64 n, .string s, .slice (some ⟨b, o, none⟩) 2 c] 24)) w.heap.size (k) (.slice (some ⟨b, o, none⟩) 2 c) b o xk xn us xa xl xc ∧ Six (w.alloc (.cells #[.int .i64 k, .int .i64 n, .string s, .slice (some ⟨b, o, none⟩) 2 c] 24)) w.heap.size (k) (.slice (some ⟨b, o, none⟩) 2 c) b (o + 4) yk yn ut ya yl yc) := by
    have h := Cell4.new w (.int .i64 k) (.int .i64 n) (.string s) (.slice (some ⟨b, o, none⟩) 2 c) 24
    exact ⟨⟨h.c0, h.c3, cell_below m0 (below_one _ _), cell_below m1 (below_one _ _), cell_below m2 (below_one _ _), cell_below m3 (below_one _ _)⟩, ⟨h.c0, h.c3, cell_below t0 (below_one _ _), cell_below t1 (below_one _ _), cell_below t2 (below_one _ _), cell_below t3 (below_one _ _)⟩⟩
  go_enter Try.func28, Try.ntmps28
  go_wp2_with fail
  go_region_held3 (fun w' => w'.cell? ⟨w.heap.size, 3, none⟩ = some (.slice (some ⟨b, o, none⟩) 2 c) ∧ w'.cell? ⟨b, o, none⟩ = some (.int .i64 xk) ∧ w'.cell? ⟨b, o + 1, none⟩ = some (.int .i64 xn) ∧ w'.cell? ⟨b, o + 2, none⟩ = some (.string us) ∧ w'.cell? ⟨b, o + 3, none⟩ = some (.slice xa xl xc) ∧ w'.cell? ⟨b, o + 4, none⟩ = some (.int .i64 yk) ∧ w'.cell? ⟨b, o + 4 + 1, none⟩ = some (.int .i64 yn) ∧ w'.cell? ⟨b, o + 4 + 2, none⟩ = some (.string ut) ∧ w'.cell? ⟨b, o + 4 + 3, none⟩ = some (.slice ya yl yc)) (go_keep) (first
    | (go_at_call 28; have := H2; refine (HJ.out _ H2.out.2.1).mono ?_; rintro e w3 ⟨n3, cap3, rfl, hPV3, HB3⟩; have H3 : Hid (PartV l v w3 (.func (.func n2) #[] cap2) r ∧ PartV l v w3 (.func (.func n3) #[] cap3) q ∧ Below w.heap.size w w3 ∧ Six w3 w.heap.size (k) (.slice (some ⟨b, o, none⟩) 2 c) b o xk xn us xa xl xc ∧ Six w3 w.heap.size (k) (.slice (some ⟨b, o, none⟩) 2 c) b (o + 4) yk yn ut ya yl yc) := ⟨H2.out.1.below HB3, hPV3, H2.out.2.1.trans (HB3.mono H2.out.2.1.size), H2.out.2.2.1.below HB3, H2.out.2.2.2.below HB3⟩; obtain ⟨q0, q3, m0, m1, m2, m3⟩ := H3.out.2.2.2.1; obtain ⟨q0, q3, t0, t1, t2, t3⟩ := H3.out.2.2.2.2; clear HB3 hPV3)
    | (go_at_call 28; refine (HI.out _ (Below.drew (below_one _ _))).mono ?_; rintro e w2 ⟨n2, cap2, rfl, hPV, HB⟩; have H2 : Hid (PartV l v w2 (.func (.func n2) #[] cap2) r ∧ Below w.heap.size w w2 ∧ Six w2 w.heap.size (k) (.slice (some ⟨b, o, none⟩) 2 c) b o xk xn us xa xl xc ∧ Six w2 w.heap.size (k) (.slice (some ⟨b, o, none⟩) 2 c) b (o + 4) yk yn ut ya yl yc) := ⟨hPV, (Below.drew (below_one _ _)).trans (HB.mono (le_alloc _ _)), HO.out.1.below (Below.trans (Below.drew (Below.refl _ _)) HB), HO.out.2.below (Below.trans (Below.drew (Below.refl _ _)) HB)⟩; obtain ⟨q0, q3, m0, m1, m2, m3⟩ := H2.out.2.2.1; obtain ⟨q0, q3, t0, t1, t2, t3⟩ := H2.out.2.2.2; clear HB hPV))
  all_goals (
    go_wp2_with (go_at_call 50; refine (HA.out _ _ _ _ _ H3.out.1 H3.out.2.1).mono ?_; rintro e w5 ⟨n5, cap5, rfl, hPV5, HB5⟩; have H5 : Hid (PartV l v w5 (.func (.func n5) #[] cap5) (twoV k r q) ∧ Below w.heap.size w w5) := ⟨hPV5, H3.out.2.2.1.trans (HB5.mono H3.out.2.2.1.size)⟩; clear HB5 hPV5)
    go_ret
    exact ⟨n5, cap5, rfl, H5.out.1, H5.out.2⟩)
end
section
open Go.RowKit
set_option linter.unusedVariables false

set_option maxRecDepth 100000 in
set_option maxHeartbeats 400000 in
theorem part_leaf (l : V.VL) (v : Value) (k n : Int) (s : ByteArray) (a : Option Addr) (c : Nat) (r : Va) (w : World) (HI : Hid (∀ w', Calls Try.prog 47 #[.agg #[.int .i64 k, .int .i64 n, .string s, .slice a 0 c]] w' (PartP l v r w'))) :
    Calls Try.prog 28 #[.agg #[.int .i64 k, .int .i64 n, .string s, .slice a 0 c]] w (PartP l v r w) := by
  go_enter Try.func28, Try.ntmps28
  go_wp2_with (go_at_call 47; refine (HI.out _).mono ?_; rintro e w2 ⟨n2, cap2, rfl, hPV, HB⟩)
  go_ret
  exact ⟨n2, cap2, rfl, hPV, (below_one _ _).trans (HB.mono (le_alloc _ _))⟩
theorem leaf_any (l : V.VL) (v : Value) (t : Tr) (h1 : 1 ≤ t.kind) (h4 : t.kind ≤ 4) (a : Option Addr) (c : Nat) (w : World) : Calls Try.prog 47 #[.agg #[.int .i64 t.kind, .int .i64 t.n, .string (ba t.name), .slice a 0 c]] w (PartP l v (leafV (envL l) t) w) := by
  obtain ⟨k, n, nm, ks⟩ := t
  simp only at *
  unfold leafV
  simp only
  by_cases e1 : k = 1
  · subst e1; rw [if_pos rfl]; exact leaf_num l v n _ a 0 c w
  · rw [if_neg e1]
    by_cases e2 : k = 2
    · subst e2; rw [if_pos rfl]; exact leaf_var l v n nm a 0 c w
    · rw [if_neg e2]; exact leaf_yes l v k n (by omega) _ a 0 c w
theorem ev_leaf {env : Env} {d : Nat} {t : Tr} (h : t.kids = []) : evM env (d + 1) t = leafV env t := by
  conv => lhs; unfold evM
  rw [h]
theorem ev_one {env : Env} {d : Nat} {t x : Tr} (h : t.kids = [x]) : evM env (d + 1) t = oneV t.kind (evM env d x) := by
  conv => lhs; unfold evM
  rw [h]
theorem ev_two {env : Env} {d : Nat} {t x y : Tr} (h : t.kids = [x, y]) : evM env (d + 1) t = twoV t.kind (evM env d x) (evM env d y) := by
  conv => lhs; unfold evM
  rw [h]
theorem ty_one' {d : Nat} {t x : Tr} (h : tyM (d + 1) t = true) (hk : t.kids = [x]) (h5 : t.kind = 5 ∨ t.kind = 6) : tyM d x = true ∧ truthK x.kind = decide (t.kind = 6) := by
  obtain ⟨k, n, nm, ks⟩ := t
  simp only at *
  subst hk
  exact ty_one h h5
theorem ty_two' {d : Nat} {t x y : Tr} (h : tyM (d + 1) t = true) (hk : t.kids = [x, y]) (h7 : 7 ≤ t.kind) : tyM d x = true ∧ tyM d y = true ∧ (t.kind = 11 ∧ truthK x.kind = truthK y.kind ∨ t.kind ≠ 11 ∧ truthK x.kind = wantT t.kind ∧ truthK y.kind = wantT t.kind) := by
  obtain ⟨k, n, nm, ks⟩ := t
  simp only at *
  subst hk
  exact ty_two h h7
theorem part_any (l : V.VL) (v : Value) (hE : EnvIn (envL l)) : ∀ (d : Nat) (t : Tr) (P : Nat → Prop) (tv : Value) (w : World), checkM d t = 0 → tyM d t = true → Tre w P tv t → Calls Try.prog 28 #[tv] w (PartP l v (evM (envL l) d t) w)
  | 0, t, P, tv, w, h, _, _ => by cases h
  | d + 1, t, P, tv, w, h, ht, hT => by
    have hs := shape h
    obtain ⟨a, cap, rfl, hcap, hk, hn, hnm, hlen, hkids⟩ := hT.opened
    have h1 := hs.lo; have h2 := hs.hi
    rcases hs.kids with ⟨h4, hks⟩ | ⟨h5, x, hks, hx⟩ | ⟨h7, x, y, hks, hx, hy⟩
    · rw [ev_leaf hks]
      have e0 : t.kids.length = 0 := by rw [hks]; rfl
      rw [e0]
      exact part_leaf l v _ _ _ a cap _ w (fun w' => leaf_any l v t h1 h4 a cap w')
    · obtain ⟨hty, htk⟩ := ty_one' ht hks h5
      rw [ev_one hks]
      have e0 : t.kids.length = 1 := by rw [hks]; rfl
      obtain ⟨b, o, ka, kc, hK⟩ := hkids 0 (by omega)
      have ex : t.kids.getD 0 zeroT = x := by rw [hks]; rfl
      rw [ex] at hK
      rw [e0] at hcap ⊢
      obtain ⟨rfl, m0, m1, m2, m3, hkt⟩ := hK
      rw [Nat.zero_mul, Nat.add_zero] at m0 m1 m2 m3
      have hfi : Fine (decide (t.kind = 6)) (evM (envL l) d x) := by rw [← htk]; exact ev_fine _ hE d x hx hty (tre_nums hkt d)
      exact part_one l v _ _ _ b o cap _ _ _ ka _ kc _ h5 hfi w hcap m0 m1 m2 m3 (fun w' hb => part_any l v hE d x P _ w' hx hty (hkt.below hb))
    · obtain ⟨htx, hty, htk⟩ := ty_two' ht hks h7
      rw [ev_two hks]
      have e0 : t.kids.length = 2 := by rw [hks]; rfl
      obtain ⟨b, o, ka, kc, hK⟩ := hkids 0 (by omega)
      obtain ⟨b2, o2, ka2, kc2, hK2⟩ := hkids 1 (by omega)
      have ex : t.kids.getD 0 zeroT = x := by rw [hks]; rfl
      have ey : t.kids.getD 1 zeroT = y := by rw [hks]; rfl
      rw [ex] at hK
      rw [ey] at hK2
      rw [e0] at hcap ⊢
      obtain ⟨rfl, m0, m1, m2, m3, hkt⟩ := hK
      obtain ⟨e2, t0, t1, t2, t3, hkt2⟩ := hK2
      injection e2 with e2
      injection e2 with e3 e4 e5
      subst e3
      subst e4
      rw [Nat.zero_mul, Nat.add_zero] at m0 m1 m2 m3
      rw [Nat.one_mul] at t0 t1 t2 t3
      have hfx := ev_fine _ hE d x hx htx (tre_nums hkt d)
      have hfy := ev_fine _ hE d y hy hty (tre_nums hkt2 d)
      have HI : Hid (∀ w', Below w.heap.size w w' → Calls Try.prog 28 #[.agg #[.int .i64 x.kind, .int .i64 x.n, .string (ba x.name), .slice ka x.kids.length kc]] w' (PartP l v (evM (envL l) d x) w')) := fun w' hb => part_any l v hE d x P _ w' hx htx (hkt.below hb)
      have HJ : Hid (∀ w', Below w.heap.size w w' → Calls Try.prog 28 #[.agg #[.int .i64 y.kind, .int .i64 y.n, .string (ba y.name), .slice ka2 y.kids.length kc2]] w' (PartP l v (evM (envL l) d y) w')) := fun w' hb => part_any l v hE d y P _ w' hy hty (hkt2.below hb)
      by_cases h13 : t.kind = 13
      · rcases htk with ⟨h, _⟩ | ⟨_, hq1, hq2⟩
        · omega
        · rw [h13] at hq1 hq2 ⊢
          exact part_and l v _ _ b o cap _ _ _ _ _ _ ka ka2 _ kc _ kc2 _ _ (fine_retype hfx (hq1.trans rfl)) (fine_retype hfy (hq2.trans rfl)) w hcap m0 m1 m2 m3 t0 t1 t2 t3 HI HJ
      · by_cases h14 : t.kind = 14
        · rcases htk with ⟨h, _⟩ | ⟨_, hq1, hq2⟩
          · omega
          · rw [h14] at hq1 hq2 ⊢
            exact part_or l v _ _ b o cap _ _ _ _ _ _ ka ka2 _ kc _ kc2 _ _ (fine_retype hfx (hq1.trans rfl)) (fine_retype hfy (hq2.trans rfl)) w hcap m0 m1 m2 m3 t0 t1 t2 t3 HI HJ
        · refine part_between l v _ _ _ b o cap _ _ _ _ _ _ ka ka2 _ kc _ kc2 _ _ h7 (by omega) _ _ hfx hfy (fun h11 => ?_) w hcap m0 m1 m2 m3 t0 t1 t2 t3 HI HJ
          rcases htk with ⟨_, h⟩ | ⟨h, _⟩
          · exact h
          · exact absurd h11 h
end
end Go.Proofs.Ytfjphlejhcdbaaa
