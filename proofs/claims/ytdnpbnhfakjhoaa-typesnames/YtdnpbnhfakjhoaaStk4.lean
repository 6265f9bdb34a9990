/-
  The levels of the scan: plain laws.
-/
import Derived.Test.YtdnpbnhfakjhoaaStk3
namespace Go.Proofs.Ytdnpbnhfakjhoaa
open Go.RowKit Go.Maps
set_option linter.unusedVariables false

theorem LevV.cuts {w : World} {base n c : Nat} {a : Option Addr} {l : List Nat} (h : LevV w base (.slice a l.length c) l) (hn : n ≤ l.length) : LevV w base (.slice a n c) (l.take n) := by
  rcases h.2 with ⟨e, h0⟩ | ⟨g, cap, cur, e, hb, hg, hnc, hcm, hcs, ht⟩
  · injection e with e1 e2 e3
    subst e1; subst e3
    have h1 : n = 0 := by omega
    subst h1
    exact LevV.nil _ _
  · injection e with e1 e2 e3
    subst e1; subst e3
    have hl : (l.take n).length = n := by rw [List.length_take]; omega
    unfold LevV
    rw [hl]
    refine ⟨by rw [ints_len, hl]; omega, .inr ⟨g, c, cur, rfl, hb, hg, by omega, hcm, hcs, ?_⟩⟩
    have : (cur.toList.take (l.length * 1)).take (n * 1) = cur.toList.take (n * 1) := by rw [List.take_take, Nat.min_eq_left (by omega)]
    rw [← this, ht, Nat.mul_one]
    unfold ints
    rw [List.map_take]
theorem LevV.mono {w : World} {b b2 : Nat} {v : Value} {l : List Nat} (h : LevV w b v l) (hb : b2 ≤ b) : LevV w b2 v l := by
  refine ⟨h.1, ?_⟩
  rcases h.2 with h | ⟨g, cap, cur, e, hg, rest⟩
  · exact .inl h
  · exact .inr ⟨g, cap, cur, e, Nat.le_trans hb hg, rest⟩
theorem rev_take {pre l : List Nat} : ((pre ++ l).reverse).take l.length = l.reverse := by
  rw [List.reverse_append]
  have := List.take_left (l₁ := l.reverse) (l₂ := pre.reverse)
  rw [List.length_reverse] at this
  exact this
/-- What is left of the levels. -/
theorem LevV.left {w : World} {base c tn : Nat} {a : Option Addr} {t l : List Nat} (h : LevV w base (.slice a tn c) t.reverse) (ht : t.length = tn) (hs : l <:+ t) : LevV w base (.slice a l.length c) l.reverse := by
  obtain ⟨pre, rfl⟩ := hs
  have := LevV.cuts (n := l.length) (by rw [List.length_reverse, ht]; exact h) (by rw [List.length_reverse, List.length_append]; omega)
  rw [rev_take] at this
  exact this
theorem lev_last {w : World} {base c : Nat} {a : Option Addr} {x : Nat} {r : List Nat} (h : LevV w base (.slice a (r.length + 1) c) (x :: r).reverse) : ∃ gl, a = some ⟨gl, 0, none⟩ ∧ gl < w.heap.size ∧ w.cell? ⟨gl, r.length, none⟩ = some (.int .i64 x) ∧ r.length + 1 ≤ c := by
  obtain ⟨g, cap, e, hc⟩ := h.at (i := r.length) (by simp)
  injection e with e1 e2 e3
  obtain ⟨a2, c2, e4, hc2⟩ := h.slice
  injection e4 with e5 e6 e7
  refine ⟨g, e1, World.block_lt_of_cell? _ _ hc, ?_, ?_⟩
  · rw [hc, List.reverse_cons, List.getD_eq_getElem?_getD, List.getElem?_append_right (by simp)]
    simp
  · rw [e7]; simpa using hc2
theorem infoL : (Try.prog.info? 3).map (fun i => (i.zero, i.size, i.bytes)) = some (some (.int .i64 0), 1, 8) := by kernel_rfl
theorem wpList_levs {ops : Array Oper} {rest : List Oper} {o : Oper} {a : Act} {Q : Exit → Act → World → Prop} {w : World} (hgd : o.guard = none) (s x : Operand)
    (ho : o.op = .call { callee := .builtin .append, args := #[s, x], argTypes := #[71, 71] }) (hs : a.eval s = .slice none 0 0) {base tc n : Nat} {ta : Option Addr} {lv : List Nat} (hx : a.eval x = .slice ta n tc) (hl : LevV w base (.slice ta n tc) lv) (hn : lv.length = n) (hlen : n ≤ 4096)
    (h : ∀ v' w', LevV w' w.heap.size v' lv → w.grownBy w' none → wpList Try.prog ops Q rest (a.put o.dst v') w') : wpList Try.prog ops Q (o :: rest) a w := by
  obtain ⟨i, hi, hz, hsz, hby⟩ := info_parts infoL
  subst hn
  rcases hl.2 with ⟨e, h0⟩ | ⟨g, cap, cur, e, hb, hg, hnc, hcm, hcs, ht⟩
  · have : lv = [] := List.length_eq_zero_iff.1 h0
    subst this
    injection e with e1 e2 e3
    subst e1; subst e3
    exact wpList_append_own_none hgd s x 71 ho w.heap.size 3 i 1 Try.underlying71 hi (.slice none 0 0) 0 [] hs (World.ownsRow_nil _ _ _ _) hx (h _ _ (LevV.nil _ _) ⟨rfl, rfl, rfl, Nat.le_refl _, fun _ _ _ => rfl⟩)
  · injection e with e1 e2 e3
    subst e1; subst e3
    refine wpList_append_own_at _ hgd s x 71 ho w.heap.size 3 i _ 1 8 Try.underlying71 hi hz hsz hby rfl (by decide) (.slice none 0 0) 0 [] hs (World.ownsRow_nil _ _ _ _) ⟨g, 0, none⟩ lv.length tc (ints lv) hx (by rw [ints_len]; omega) (World.ownsRow.cells hl rfl) (by intro u hu; unfold ints at hu; obtain ⟨y, _, rfl⟩ := List.mem_map.1 hu; rfl) (by unfold maxLen; omega) (by omega) (Nat.le_refl _) ?_
    intro v' w' hown hgr _ _
    refine h v' w' ?_ hgr
    rw [Nat.zero_add] at hown
    exact hown
theorem wpList_lev1 {ops : Array Oper} {rest : List Oper} {o : Oper} {a : Act} {Q : Exit → Act → World → Prop} {wX : World} (hgd : o.guard = none) (s x : Operand)
    (ho : o.op = .call { callee := .builtin .append, args := #[s, x], argTypes := #[71, 71] }) {base B : Nat} {v : Value} {lv : List Nat} (k : Nat) (hl : LevV wX base v lv) (hbase : base ≤ wX.heap.size) (hs : a.eval s = v) (hx : a.eval x = .slice (some ⟨B, 0, none⟩) 1 1) (hB : B = wX.heap.size) (hlen : lv.length ≤ 4096)
    (h : ∀ v' w', LevV w' base v' (lv ++ [k]) → (wX.alloc (.cells #[.int .i64 k] 3)).grownBy w' v.ownBlock → wpList Try.prog ops Q rest (a.put o.dst v') w') : wpList Try.prog ops Q (o :: rest) a (wX.alloc (.cells #[.int .i64 k] 3)) := by
  subst hB
  obtain ⟨i, hi, hz, hsz, hby⟩ := info_parts infoL
  refine wpList_append_own_at _ hgd s x 71 ho base 3 i _ 1 8 Try.underlying71 hi hz hsz hby rfl (by decide) v lv.length (ints lv) hs (World.ownsRow.alloc hl _) ⟨wX.heap.size, 0, none⟩ 1 1 [.int .i64 k] hx rfl (cell_one_new _ _ _) (by intro u hu; simp at hu; rw [hu]; rfl) (by unfold maxLen; omega) (by omega) (by rw [size_alloc]; omega) ?_
  intro v' w' hown hgr _ _
  refine h v' w' ?_ hgr
  unfold LevV
  rw [show ints (lv ++ [k]) = ints lv ++ [.int .i64 k] from List.map_append .., List.length_append]
  exact hown
/-- The top as it lies, and that it may be written. -/
theorem Sc.open {w wr : World} {g n cap : Nat} {st : List Op1} (h : Sc w wr (.slice (some ⟨g, 0, none⟩) (n + 1) cap) st) (hn : st.length = n + 1) : g < wr.heap.size ∧ (∃ y0, wr.cell? ⟨g, n * 2, none⟩ = some y0) ∧ (∃ y1, wr.cell? ⟨g, n * 2 + 1, none⟩ = some y1) ∧ ∀ i, wr.frozen? ⟨g, i, none⟩ = false := by
  obtain ⟨ls, h1, h2, _⟩ := h.lays
  have hls : ls.length = n + 1 := by omega
  rw [hls] at h2
  obtain ⟨f0, f1⟩ := flat2_at ls (i := n) (by omega)
  have k0 := World.ownsRow.cellAt h2 (n * 2) (by omega)
  have k1 := World.ownsRow.cellAt h2 (n * 2 + 1) (by omega)
  rcases h2.2 with ⟨e, _⟩ | ⟨g2, cap2, cur, e, hb, hg, _⟩
  · cases e
  · injection e with e1 e2 e3
    injection e1 with e1
    injection e1 with e1 _ _
    subst e1
    exact ⟨(Array.getElem?_eq_some_iff.1 hg).1, ⟨_, k0.trans f0⟩, ⟨_, k1.trans f1⟩, fun i => by simp [World.frozen?, hg]⟩
theorem lv_six {x : W} (h : kindW x = 0) : levW x = 6 := by unfold levW; rw [h]; rfl
theorem lv_top (x : W) : levW x ≤ 6 := by
  unfold levW rowK
  repeat' split
  all_goals decide
theorem kd_shut {x : W} (h : isW x 41 = true) : kindW x = 0 := by
  unfold isW at h
  simp only [Bool.and_eq_true, decide_eq_true_eq] at h
  unfold kindW
  rw [if_pos h.1, h.2]; rfl
theorem suffix_tail {x : Nat} {r t : List Nat} (h : (x :: r) <:+ t) : r <:+ t := (List.suffix_cons x r).trans h
end Go.Proofs.Ytdnpbnhfakjhoaa
