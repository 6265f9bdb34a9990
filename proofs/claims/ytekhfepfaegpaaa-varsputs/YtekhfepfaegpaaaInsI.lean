/-
  slices.Insert of one cell into a row of the call's own: contracts, at texts and at numbers.
-/
import Derived.Test.YtekhfepfaegpaaaInsM
import Derived.Lib.AppendZerosOnto
namespace Go.Proofs.Ytekhfepfaegpaaa
open Go.RowKit Pack
set_option linter.unusedVariables false

theorem szof2 (w : World) : (Go.sizeOf 2).run Try.prog w = .ok 1 w := by
  obtain ⟨i, hi, hz, hs, hb⟩ := info_parts Try.info2
  simp [Go.sizeOf, typeInfo, hi, hs]
theorem over2 (w : World) (g vb i lb cb : Nat) (x : Value) (cur : Array Value) (hne : vb ≠ g) (hx : w.heap[vb]? = some (.cells #[x] 2 (0, 0))) (hg : w.heap[g]? = some (.cells cur 2 (0, 0))) (hc : cur.size ≠ 0) :
    (callFunc 64 #[.slice (some ⟨vb, 0, none⟩) 1 1, .slice (some ⟨g, i, none⟩) lb cb]).run Try.prog w = .ok (.value (.bool false)) w := by
  rw [run_callFunc_extern Try.func64 (by kernel_rfl) (by kernel_rfl) (by kernel_rfl) (e := Extern.SlicesOverlaps.overlaps #[23, 23] #[4]) (by kernel_rfl),
    Lib.run_overlaps_apart w 23 4 2 Try.underlying23 1 szof2 ⟨vb, 0, none⟩ ⟨g, i, none⟩ 1 1 lb cb hne 2 2 1 cur.size (by simp [World.shape?, hx]) (by simp [World.shape?, hg]) hc (frozen_of_row w vb 0 _ 2 hx) (frozen_of_row w vb 1 _ 2 hx)]
  rfl
set_option maxRecDepth 100000 in
set_option maxHeartbeats 2000000 in
theorem shift2 (base g n cap i vb : Nat) (l : List Value) (x : Value) (w : World) (h1l : ∀ u ∈ l, u.oneCell' = true) (h1x : x.oneCell' = true) (ho : Ow w base 2 (.slice (some ⟨g, 0, none⟩) n cap) l) (hi : i < n) (hroom : n + 1 ≤ cap) (hvb : vb ≠ g) (hx : w.heap[vb]? = some (.cells #[x] 2 (0, 0))) :
    Calls Try.prog 54 #[.slice (some ⟨g, 0, none⟩) n cap, .int .i64 i, .slice (some ⟨vb, 0, none⟩) 1 1] w fun e w' => e = .returned (.slice (some ⟨g, 0, none⟩) (n + 1) cap) ∧ Ow w' base 2 (.slice (some ⟨g, 0, none⟩) (n + 1) cap) (l.insertIdx i x) ∧ w.grownBy w' (some g) := by
  obtain ⟨k1, k2, k3, k4, k5, ⟨cur, k6, k7⟩, k8, k9, k10⟩ := ow_cells ho
  have HW : Hid (∀ W, W = (w.drew.setCells g (i + 1) (l.drop i)).setCells g i [x] → Ow W base 2 (.slice (some ⟨g, 0, none⟩) (n + 1) cap) (l.insertIdx i x) ∧ w.grownBy W (some g)) := fun W h => ins_shift ho hi hroom (.inl h)
  have hov : ∀ lb cb, (callFunc 64 #[.slice (some ⟨vb, 0, none⟩) 1 1, .slice (some ⟨g, i + 1, none⟩) lb cb]).run Try.prog w = .ok (.value (.bool false)) w := fun lb cb => over2 w g vb (i + 1) lb cb x cur hvb hx k6 (by omega)
  have hsz : (Try.prog.info? 2).map (·.size) = some 1 := by
    obtain ⟨i0, hi0, _, h1, _⟩ := info_parts Try.info2
    rw [hi0]; simp [h1]
  have hdl : (l.drop i).length = n - i := by rw [List.length_drop, k1]
  have hcp1 : ∀ ty dc sc, (Builtin.copy_ #[23, 23] ty #[.slice (some ⟨g, i + 1, none⟩) (n - i) dc, .slice (some ⟨g, i, none⟩) (n + 1 - i) sc]).run Try.prog w.drew = .ok (goInt (l.drop i).length) (w.drew.setCells g (i + 1) (l.drop i)) := fun ty dc sc =>
    run_copy_cells w.drew _ _ ty 2 g (i + 1) (n - i) dc ⟨g, i, none⟩ (n + 1 - i) sc (l.drop i) Try.underlying23 hsz (by rw [hdl]; simp only [Nat.min_def]; split <;> omega)
      (fun j v hj => by rw [add_plain]; exact k8 (i + j) v (by rwa [List.getElem?_drop] at hj)) (fun j hj => k9 _ (by omega)) (fun j hj => k10 _) (fun v hv => h1l v (List.mem_of_mem_drop hv))
  have hsome : ∀ W : World, (∀ p, W.cell? p = (w.drew.setCells g (i + 1) (l.drop i)).cell? p) → (∀ p, W.frozen? p = (w.drew.setCells g (i + 1) (l.drop i)).frozen? p) → ∀ ty dc, (Builtin.copy_ #[23, 23] ty #[.slice (some ⟨g, i, none⟩) (n + 1 - i) dc, .slice (some ⟨vb, 0, none⟩) 1 1]).run Try.prog W = .ok (goInt [x].length) (W.setCells g i [x]) := fun W hc hf ty dc =>
    run_copy_cells W _ _ ty 2 g i (n + 1 - i) dc ⟨vb, 0, none⟩ 1 1 [x] Try.underlying23 hsz (by simp only [Nat.min_def]; split <;> simp <;> omega)
      (fun j v hj => by
        rw [add_plain, hc, World.cell?_setCells_out g _ _ _ _ (fun h _ => absurd h hvb)]
        show w.cell? _ = _
        rw [cell_of_row w vb _ _ 2 (0, 0) hx]
        simpa using hj)
      (fun j hj => by
        obtain ⟨c1, q1, q2⟩ := setCells_block g 2 (l.drop i) (i + 1) w.drew cur k6
        rw [hc, cell_of_row _ g _ c1 2 (0, 0) q1, Array.getElem?_eq_getElem (by simp at hj; omega)]; rfl)
      (fun j hj => by rw [hf, World.frozen?_setCells]; exact k10 _) (fun v hv => by simp at hv; rw [hv]; exact h1x)
  have hw1 : IntKind.i64.wrap ((i : Int) + 1) = (i : Int) + 1 := by rw [IntKind.wrap_i64]; omega
  have hz2 : ¬ ((i : Int) = (n : Int)) := by omega
  have htn : ((i : Int) + 1).toNat = i + 1 := by omega
  have hb1 : (0 : Int) ≤ (i : Int) + 1 := by omega
  have hb2 : ¬ (cap = i + 1) := by omega
  have hb3 : (i : Int) ≤ (n : Int) + 1 := by omega
  have hb4 : ¬ (cap = i) := by omega
  have hin : i ≤ n := by omega
  clear ho k1 k4 k5 k6 k7 k8 k9 k10 hdl h1l hx hsz
  have mixed : Try.prog.follows Departure.mixedOrders = true := by kernel_rfl
  go_enter Try.func54, Try.ntmps54
  go_wp2_with (simp only [hov])
  go_region_law_o (refine step_copy_known rfl _ _ 23 23 rfl _ _ (by simp [Act.eval, Act.put]) (by simp [Act.eval, Act.put]) (hcp1 _ _ _) ?_)
  go_wp2_with (at_builtin; refine wpList_copy_known _ rfl _ _ 23 23 rfl _ _ rfl rfl (hsome _ (fun _ => rfl) (fun _ => rfl) _ _) ?_)
  go_ret
  exact ⟨rfl, HW.out _ rfl⟩
set_option maxRecDepth 100000 in
set_option maxHeartbeats 2000000 in
theorem grow2 (base g n cap i vb : Nat) (l : List Value) (x : Value) (w : World) (h1l : ∀ u ∈ l, u.oneCell' = true) (h1x : x.oneCell' = true) (ho : Ow w base 2 (.slice (some ⟨g, 0, none⟩) n cap) l) (hi : i < n) (hroom : cap < n + 1) (hn : n ≤ 1000000) (hx : w.heap[vb]? = some (.cells #[x] 2 (0, 0))) (hbw : base ≤ w.heap.size) :
    Calls Try.prog 54 #[.slice (some ⟨g, 0, none⟩) n cap, .int .i64 i, .slice (some ⟨vb, 0, none⟩) 1 1] w fun e w' => ∃ C, e = .returned (.slice (some ⟨w.heap.size, 0, none⟩) (n + 1) C) ∧ Ow w' base 2 (.slice (some ⟨w.heap.size, 0, none⟩) (n + 1) C) (l.insertIdx i x) ∧ w.grownBy w' none := by
  obtain ⟨k1, k2, k3, k4, k5, ⟨cur, k6, k7⟩, k8, k9, k10⟩ := ow_cells ho
  obtain ⟨i0, hi0, hz0, hzs, hzb⟩ := info_parts Try.info2
  have hsz : (Try.prog.info? 2).map (·.size) = some 1 := by rw [hi0]; simp [hzs]
  have hvw : vb < w.heap.size := (Array.getElem?_eq_some_iff.1 hx).1
  have hik : i + (n + 1 - i) = n + 1 := by omega
  have hkk : (n : Int) + 1 - (i : Int) = ((n + 1 - i : Nat) : Int) := by omega
  have hold : (Builtin.firstCells i0.size i (.slice (some ⟨g, 0, none⟩) i cap)).run Try.prog w.drew = .ok (l.take i).toArray w.drew := by
    rw [hzs]
    refine run_firstCells_some w.drew 1 i ⟨g, 0, none⟩ i cap (l.take i) (by rw [List.length_take]; omega) (fun j v hj => ?_)
    rw [add_plain, Nat.zero_add]
    rw [List.getElem?_take] at hj
    split at hj
    · exact k8 j v hj
    · cases hj
  obtain ⟨G, hG⟩ : ∃ G, G = grownCap w (n + 1) cap 2 := ⟨_, rfl⟩
  obtain ⟨ROW, hROW⟩ : ∃ ROW : Array Value, ROW = (l.take i).toArray ++ Builtin.zeroCells (.int .i64 0 : Value).cells (n + 1 - i) ++ Builtin.zeroCells (.int .i64 0 : Value).cells (G - (n + 1)) := ⟨_, rfl⟩
  have hrz : ∀ ty, (Builtin.append_ #[23, 3] ty #[.slice (some ⟨g, 0, none⟩) i cap, .int .i64 ((n : Int) + 1 - (i : Int))]).run Try.prog w = .ok (.slice (some ⟨w.heap.size, 0, none⟩) (n + 1) G) (w.drew.alloc (.cells ROW 2)) := fun ty => by
    have h := Lib.run_append_grow_zeros w 23 3 ty 2 i0 _ .i64 .i64 Try.underlying23 Try.underlying3 hi0 hz0 (some ⟨g, 0, none⟩) i cap (l.take i) hold (n + 1 - i) (by omega) (by omega) (by omega) (by omega) (by rw [hzb]; omega) (by rw [hzb, hik]; exact growslice_fits hroom (by omega))
    rw [hik, ← hG, ← hROW] at h
    rw [hkk]
    exact h
  have hGn : n + 1 ≤ G := by rw [hG]; exact grownCap_ge w _ _ _
  have hG63 : G ≤ 9223372036854775807 := by
    have := grownCap_le_maxLen w (n + 1) cap 2 (by unfold maxLen; omega)
    rw [← hG] at this
    unfold maxLen at this
    omega
  have hRs : ROW.size = G := by
    rw [hROW]
    simp [Builtin.zeroCells, Value.cells]
    omega
  have hRl : ∀ j u, j < i → l[j]? = some u → ROW[j]? = some u := fun j u hj hu => by
    rw [hROW, Array.append_assoc, Array.getElem?_append_left (by simp; omega)]
    simp [hj, hu]
  have HW : Hid (∀ W, W = (((w.alloc (.cells ROW 2)).drew.setCells w.heap.size i [x]).drew).setCells w.heap.size (i + 1) (l.drop i) → Ow W base 2 (.slice (some ⟨w.heap.size, 0, none⟩) (n + 1) G) (l.insertIdx i x) ∧ w.grownBy W none) := fun W h => ins_grow k1 hi hGn hG63 hRs hRl hbw h
  have h6 : (w.alloc (.cells ROW 2)).heap[w.heap.size]? = some (.cells ROW 2 (0, 0)) := heap_alloc_new w _
  have hcpA : ∀ (W : World), (∀ p, W.cell? p = (w.alloc (.cells ROW 2)).cell? p) → (∀ p, W.frozen? p = (w.alloc (.cells ROW 2)).frozen? p) → ∀ ty dc, (Builtin.copy_ #[23, 23] ty #[.slice (some ⟨w.heap.size, i, none⟩) (n + 1 - i) dc, .slice (some ⟨vb, 0, none⟩) 1 1]).run Try.prog W = .ok (goInt [x].length) (W.setCells w.heap.size i [x]) := fun W hc hf ty dc =>
    run_copy_cells W _ _ ty 2 w.heap.size i (n + 1 - i) dc ⟨vb, 0, none⟩ 1 1 [x] Try.underlying23 hsz (by simp only [Nat.min_def]; split <;> simp <;> omega)
      (fun j v hj => by
        rw [add_plain, hc, cell_of_row (w.alloc (.cells ROW 2)) vb _ #[x] 2 (0, 0) ((Below.heap_alloc w _ vb hvw).trans hx)]
        simpa using hj)
      (fun j hj => by rw [hc, cell_of_row _ w.heap.size _ ROW 2 (0, 0) h6, Array.getElem?_eq_getElem (by simp at hj; omega)]; rfl)
      (fun j hj => by rw [hf]; exact frozen_of_row _ w.heap.size _ ROW 2 h6) (fun v hv => by simp at hv; rw [hv]; exact h1x)
  have hdl : (l.drop i).length = n - i := by rw [List.length_drop, k1]
  have hgN : g ≠ w.heap.size := by omega
  obtain ⟨c1, q1, q2⟩ := setCells_block w.heap.size 2 [x] i _ ROW h6
  have hcpB : ∀ (W : World), (∀ p, W.cell? p = ((w.alloc (.cells ROW 2)).setCells w.heap.size i [x]).cell? p) → (∀ p, W.frozen? p = ((w.alloc (.cells ROW 2)).setCells w.heap.size i [x]).frozen? p) → ∀ ty dc sc, (Builtin.copy_ #[23, 23] ty #[.slice (some ⟨w.heap.size, i + 1, none⟩) (n + 1 - (i + 1)) dc, .slice (some ⟨g, i, none⟩) (n - i) sc]).run Try.prog W = .ok (goInt (l.drop i).length) (W.setCells w.heap.size (i + 1) (l.drop i)) := fun W hc hf ty dc sc =>
    run_copy_cells W _ _ ty 2 w.heap.size (i + 1) (n + 1 - (i + 1)) dc ⟨g, i, none⟩ (n - i) sc (l.drop i) Try.underlying23 hsz (by rw [hdl]; simp only [Nat.min_def]; split <;> omega)
      (fun j v hj => by
        rw [add_plain, hc, World.cell?_setCells_out _ _ _ _ _ (fun h _ => absurd h hgN)]
        rw [World.cell?_of_block (w := w) (a := ⟨g, i + j, none⟩) (Below.heap_alloc w _ g k5)]
        exact k8 (i + j) v (by rwa [List.getElem?_drop] at hj))
      (fun j hj => by rw [hc, cell_of_row _ w.heap.size _ c1 2 (0, 0) q1, Array.getElem?_eq_getElem (by omega)]; rfl)
      (fun j hj => by rw [hf, World.frozen?_setCells]; exact frozen_of_row _ w.heap.size _ ROW 2 h6) (fun v hv => h1l v (List.mem_of_mem_drop hv))
  have hE1 : ∀ p, ((w.alloc (.cells ROW 2)).drew).cell? p = (w.alloc (.cells ROW 2)).cell? p := fun p => rfl
  have hE2 : ∀ p, ((w.alloc (.cells ROW 2)).drew).frozen? p = (w.alloc (.cells ROW 2)).frozen? p := fun p => rfl
  have hF1 : ∀ p, (((w.alloc (.cells ROW 2)).drew.setCells w.heap.size i [x]).drew).cell? p = ((w.alloc (.cells ROW 2)).setCells w.heap.size i [x]).cell? p := fun p => rfl
  have hF2 : ∀ p, (((w.alloc (.cells ROW 2)).drew.setCells w.heap.size i [x]).drew).frozen? p = ((w.alloc (.cells ROW 2)).setCells w.heap.size i [x]).frozen? p := fun p => rfl
  have hGi : ¬ (G = i) := by omega
  have hGim : ¬ (G = i + 1) := by omega
  have hci : ¬ (cap = i) := by omega
  have hw1 : IntKind.i64.wrap ((i : Int) + 1) = (i : Int) + 1 := by rw [IntKind.wrap_i64]; omega
  have hz2 : ¬ ((i : Int) = (n : Int)) := by omega
  have hz3 : (cap : Int) < (n : Int) + 1 := by omega
  have htn : ((i : Int) + 1).toNat = i + 1 := by omega
  have hb1 : (0 : Int) ≤ (i : Int) + 1 := by omega
  have hin : i ≤ n := by omega
  have hb3 : (i : Int) ≤ (n : Int) := by omega
  clear ho k1 k4 k6 k7 k8 k9 k10 hdl h1l hx hsz hold hROW hG hRs hRl h6 q1 q2 hkk hik
  have mixed : Try.prog.follows Departure.mixedOrders = true := by kernel_rfl
  go_enter Try.func54, Try.ntmps54
  go_wp2_with (first
    | (at_builtin; refine Lib.wpList_append_run _ rfl _ _ _ _ rfl _ _ rfl rfl _ _ (hrz _) ?_)
    | (at_builtin; refine wpList_copy_known _ rfl _ _ 23 23 rfl _ _ rfl rfl (hcpA _ hE1 hE2 _ _) ?_))
  go_region_law_o (refine step_copy_known rfl _ _ 23 23 rfl (.slice (some ⟨w.heap.size, i + 1, none⟩) (n + 1 - (i + 1)) (G - (i + 1))) (.slice (some ⟨g, i, none⟩) (n - i) (cap - i)) (by simp [Act.eval, Act.put]) (by simp [Act.eval, Act.put]) (hcpB _ hF1 hF2 3 (G - (i + 1)) (cap - i)) ?_)
  go_wp2
  go_ret
  exact ⟨G, rfl, HW.out _ rfl⟩
set_option maxRecDepth 100000 in
set_option maxHeartbeats 1000000 in
theorem last2 (base vb : Nat) (v : Value) (l : List Value) (x : Value) (w : World) (h1x : x.oneCell' = true) (ho : Ow w base 2 v l) (hn : l.length ≤ 1000000) (hx : w.heap[vb]? = some (.cells #[x] 2 (0, 0))) (hbw : base ≤ w.heap.size) :
    Calls Try.prog 54 #[v, .int .i64 l.length, .slice (some ⟨vb, 0, none⟩) 1 1] w fun e w' => ∃ v', e = .returned v' ∧ Ow w' base 2 v' (l ++ [x]) ∧ w.grownBy w' v.ownBlock := by
  have HO : Hid (Ow w base 2 v l) := ho
  have HX : Hid (Rd w (.slice (some ⟨vb, 0, none⟩) 1 1) [x]) := ⟨_, 1, rfl, (fun h => by cases h), Nat.le_refl _, by decide, .inr ⟨vb, 0, rfl, (Array.getElem?_eq_some_iff.1 hx).1, fun i u hu => by rw [Nat.zero_add, cell_of_row w vb i _ 2 (0, 0) hx]; simpa using hu⟩⟩
  have H1 : Hid (∀ u ∈ [x], u.oneCell' = true) := fun u hu => by simp at hu; rw [hu]; exact h1x
  have HL : Hid (l.length + [x].length ≤ 1000000000000) := by show l.length + 1 ≤ _; omega
  obtain ⟨a, c, rfl⟩ := (Rd.of_own ho).form
  obtain ⟨_, hnc, hcm, hnil, _⟩ := (Rd.of_own ho).at
  clear ho hx
  cases a with
  | none =>
    have h0 := hnil rfl
    subst h0
    have hl0 : l.length = 0 := by omega
    have HLz : Hid (l.length + [x].length ≤ 1000000000000) := HL
    generalize hlq : l.length = N at *
    subst hl0
    have HLz : Hid (l.length + [x].length ≤ 1000000000000) := by show l.length + 1 ≤ _; omega
    go_enter Try.func54, Try.ntmps54
    go_wp2_with (at_builtin; (refine wpList_append_ow rfl (.tmp 23) (.tmp 24) 23 2 rfl base Try.underlying23 (.int .i64 0) 8 Try.info2 (by decide) rfl _ l rfl HO.out _ [x] rfl HX.out H1.out HLz.out hbw ?_); intro v1 w1 hown1 hg1; have O1 : Hid (Ow w1 base 2 v1 (l ++ [x]) ∧ w.grownBy w1 _) := ⟨hown1, hg1⟩; clear hown1 hg1)
    go_ret
    exact ⟨_, rfl, O1.out⟩
  | some ad =>
    have HN : Hid (l.length = l.length) := rfl
    have HL2 : Hid (l.length + [x].length ≤ 1000000000000) := HL
    generalize hN : l.length = N at *
    obtain ⟨ab, ao, asp⟩ := ad
    go_enter Try.func54, Try.ntmps54
    go_wp2_with (at_builtin; refine wpList_append_ow rfl (.tmp 23) (.tmp 24) 23 2 rfl base Try.underlying23 (.int .i64 0) 8 Try.info2 (by decide) rfl _ l rfl HO.out _ [x] rfl HX.out H1.out (by rw [hN]; exact HL.out) hbw ?_; intro v1 w1 hown1 hg1; have O1 : Hid (Ow w1 base 2 v1 (l ++ [x]) ∧ w.grownBy w1 _) := ⟨hown1, hg1⟩; clear hown1 hg1)
    all_goals
      (go_ret
       exact ⟨_, rfl, O1.out⟩)
/-- One more cell in a row of the call's own. -/
theorem ins2_any (base vb i : Nat) (v : Value) (l : List Value) (x : Value) (w : World) (h1l : ∀ u ∈ l, u.oneCell' = true) (h1x : x.oneCell' = true) (ho : Ow w base 2 v l) (hi : i ≤ l.length) (hn : l.length ≤ 1000000) (hne : v.ownBlock ≠ some vb) (hx : w.heap[vb]? = some (.cells #[x] 2 (0, 0))) (hbw : base ≤ w.heap.size) :
    Calls Try.prog 54 #[v, .int .i64 i, .slice (some ⟨vb, 0, none⟩) 1 1] w fun e w' => ∃ v', e = .returned v' ∧ Ow w' base 2 v' (l.insertIdx i x) ∧ w.grownBy w' v.ownBlock := by
  by_cases he : i = l.length
  · subst he
    refine (last2 base vb v l x w h1x ho hn hx hbw).mono ?_
    rintro e w' ⟨v', rfl, h1, h2⟩
    exact ⟨v', rfl, by simpa using h1, h2⟩
  · have hlt : i < l.length := by omega
    rcases ho.2 with ⟨_, h0⟩ | ⟨g, cap, cur, rfl, hrest⟩
    · omega
    · by_cases hroom : l.length + 1 ≤ cap
      · refine (shift2 base g l.length cap i vb l x w h1l h1x ho hlt hroom (fun e => hne (by rw [e]; rfl)) hx).mono ?_
        rintro e w' ⟨rfl, h1, h2⟩
        exact ⟨_, rfl, h1, h2⟩
      · refine (grow2 base g l.length cap i vb l x w h1l h1x ho hlt (by omega) hn hx hbw).mono ?_
        rintro e w' ⟨C, rfl, h1, h2⟩
        exact ⟨_, rfl, h1, h2.os, h2.tape, h2.output, h2.size, fun k hk _ => h2.block k hk (by simp)⟩
end Go.Proofs.Ytekhfepfaegpaaa
