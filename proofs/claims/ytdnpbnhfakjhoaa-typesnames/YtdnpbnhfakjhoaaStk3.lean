/-
  The scan's stack grown, cut and written: plain laws.
-/
import Derived.Test.YtdnpbnhfakjhoaaScanL
import Derived.Laws.AppendOwnNone
namespace Go.Proofs.Ytdnpbnhfakjhoaa
open Go.RowKit Go.Maps
set_option linter.unusedVariables false


theorem lev_apart {w : World} {base n : Nat} {v u : Value} {xs : List Value} {l : List Nat} (h : w.ownsRow base 73 2 v n xs) (hl : LevV w base u l) : u.ownBlock = none ∨ u.ownBlock ≠ v.ownBlock := by
  rcases hl.2 with ⟨rfl, _⟩ | ⟨g, cap, cur, rfl, _, hg, _⟩
  · exact .inl rfl
  · right
    rcases h.2 with ⟨rfl, _⟩ | ⟨g2, cap2, cur2, rfl, _, hg2, _⟩
    · simp [Value.ownBlock]
    · intro e
      simp only [Value.ownBlock, Option.some.injEq] at e
      subst e
      rw [hg] at hg2
      simp at hg2
theorem Sc.below {w wr wX : World} {v : Value} {st : List Op1} (h : Sc w wr v st) (hb : Below wr.heap.size wr wX) : Sc w wX v st := by
  obtain ⟨ls, h1, h2, h3⟩ := h.lays
  exact ⟨⟨ls, h1, own_below h2 hb, fun i hi => ⟨(h3 i hi).1, own_below (h3 i hi).2 hb⟩⟩, h.bel.trans (hb.mono h.bel.size)⟩
theorem getD_two {α β : Type} {ls : List α} {st : List β} (h : ls.length = st.length) (y a : α) (x b : β) {p : α → β → Prop} (h3 : ∀ i, i < st.length → p (ls.getD i a) (st.getD i b)) (hp : p y x) : ∀ i, i < (st ++ [x]).length → p ((ls ++ [y]).getD i a) ((st ++ [x]).getD i b) := by
  intro i hi
  rw [List.length_append] at hi
  simp only [List.length_singleton] at hi
  by_cases e : i < st.length
  · have := h3 i e
    simp only [List.getD_eq_getElem?_getD] at this ⊢
    rw [List.getElem?_append_left (by omega), List.getElem?_append_left e]
    exact this
  · have : i = st.length := by omega
    subst this
    simp only [List.getD_eq_getElem?_getD]
    rw [List.getElem?_append_right (by omega), List.getElem?_append_right (by omega), h]
    simpa using hp
theorem Sc.pushed {w wX w' : World} {v v' : Value} {st : List Op1} {ls : List Lay2} {o : Obj} {d : Nat} (hb : Below w.heap.size w wX) (h1 : ls.length = st.length) (h2 : wX.ownsRow w.heap.size 73 2 v ls.length (flat2 ls))
    (h3 : ∀ i, i < st.length → (ls.getD i zLay).1 = (st.getD i zOp).1 ∧ LevV wX w.heap.size (ls.getD i zLay).2 (st.getD i zOp).2)
    (hown : w'.ownsRow w.heap.size 73 2 v' (ls.length + 1) (flat2 (ls ++ [(d, .slice none 0 0)]))) (hg : (wX.alloc o).grownBy w' v.ownBlock) : Sc w w' v' (st ++ [(d, [])]) := by
  refine ⟨⟨ls ++ [(d, .slice none 0 0)], by simp [h1], by rw [List.length_append]; exact hown, ?_⟩, ?_⟩
  · refine getD_two h1 _ zLay _ zOp (p := fun y x => y.1 = x.1 ∧ LevV w' w.heap.size y.2 x.2) (fun i hi => ⟨(h3 i hi).1, ?_⟩) ⟨rfl, LevV.nil _ _⟩
    exact World.ownsRow.kept (World.ownsRow.alloc (h3 i hi).2 o) hg (lev_apart h2 (h3 i hi).2)
  · exact (hb.alloc hb.size o).grown hg (Nat.le_trans hb.size (le_alloc _ _)) (fun k hk => (World.ownsRow.lt h2 k hk).1)
theorem take_last {α : Type} {l : List α} {n : Nat} (h : l.length = n + 1) (z : α) : l = l.take n ++ [l.getD n z] := by
  conv => lhs; rw [← List.take_append_drop n l]
  congr 1
  rw [List.drop_eq_getElem_cons (by omega), List.getD_eq_getElem?_getD, List.getElem?_eq_getElem (by omega), List.drop_eq_nil_of_le (by omega)]
  rfl
theorem getD_front {β : Type} {st : List β} {x b : β} {i : Nat} (h : i < st.length) : (st ++ [x]).getD i b = st.getD i b := by
  simp only [List.getD_eq_getElem?_getD]
  rw [List.getElem?_append_left h]
theorem getD_take {α : Type} {l : List α} {n i : Nat} {z : α} (h : i < n) : (l.take n).getD i z = l.getD i z := by
  simp only [List.getD_eq_getElem?_getD]
  rw [List.getElem?_take_of_lt h]
theorem flat2_take {ls : List Lay2} {n : Nat} (h : ls.length = n + 1) : flat2 ls = flat2 (ls.take n) ++ [.int .i64 (ls.getD n zLay).1, (ls.getD n zLay).2] := by
  conv => lhs; rw [take_last h zLay, flat2_append]
  rfl
theorem Sc.popped {w wr : World} {a : Option Addr} {n cap : Nat} {st : List Op1} {x : Op1} (h : Sc w wr (.slice a (n + 1) cap) (st ++ [x])) (hn : st.length = n) : Sc w wr (.slice a n cap) st := by
  obtain ⟨ls, h1, h2, h3⟩ := h.lays
  have h1' : ls.length = n + 1 := by rw [h1, List.length_append, hn]; rfl
  have hlt : (ls.take n).length = n := by rw [List.length_take]; omega
  refine ⟨⟨ls.take n, by omega, ?_, ?_⟩, h.bel⟩
  · rw [hlt]
    rw [h1', flat2_take h1'] at h2
    exact own_pop h2 rfl
  · intro i hi
    have := h3 i (by rw [List.length_append]; omega)
    rw [getD_front hi] at this
    rw [getD_take (by omega)]
    exact this
theorem set_two {xs : List Value} {n : Nat} (h : xs.length = n) (a b c d : Value) : ((xs ++ [a, b]).set n c).set (n + 1) d = xs ++ [c, d] := by
  rw [List.set_append_right _ _ (by omega), List.set_append_right _ _ (by omega)]
  congr 1
  rw [show n - xs.length = 0 by omega, show n + 1 - xs.length = 1 by omega]
  rfl
theorem Sc.stored {w wr : World} {g n cap : Nat} {st : List Op1} {x : Op1} (h : Sc w wr (.slice (some ⟨g, 0, none⟩) (n + 1) cap) (st ++ [x])) (hn : st.length = n) {u : Value} {lv : List Nat} (hl : LevV wr w.heap.size u lv) (d : Nat) : Sc w ((wr.setCell ⟨g, n * 2, none⟩ (.int .i64 d)).setCell ⟨g, n * 2 + 1, none⟩ u) (.slice (some ⟨g, 0, none⟩) (n + 1) cap) (st ++ [(d, lv)]) := by
  obtain ⟨ls, h1, h2, h3⟩ := h.lays
  have h1' : ls.length = n + 1 := by rw [h1, List.length_append, hn]; rfl
  have hlt : (ls.take n).length = n := by rw [List.length_take]; omega
  rw [h1'] at h2
  have hg := (World.ownsRow.lt h2 g rfl)
  obtain ⟨k1, g1⟩ := World.ownsRow.stored h2 (n * 2) (.int .i64 d)
  obtain ⟨k2, g2⟩ := World.ownsRow.stored k1 (n * 2 + 1) u
  rw [flat2_take h1', set_two (by rw [flat2_len, hlt])] at k2
  have key : ∀ {y : Value} {m : List Nat}, LevV wr w.heap.size y m → LevV ((wr.setCell ⟨g, n * 2, none⟩ (.int .i64 d)).setCell ⟨g, n * 2 + 1, none⟩ u) w.heap.size y m := fun hy =>
    World.ownsRow.kept (World.ownsRow.kept hy g1 (lev_apart h2 hy)) g2 (lev_apart h2 hy)
  refine ⟨⟨ls.take n ++ [(d, u)], by simp [hn]; omega, ?_, ?_⟩, (h.bel.setCell hg.1 _).setCell hg.1 _⟩
  · rw [List.length_append, hlt, flat2_append]
    exact k2
  · refine getD_two (by omega) _ zLay _ zOp (p := fun y x => y.1 = x.1 ∧ LevV ((wr.setCell ⟨g, n * 2, none⟩ (.int .i64 d)).setCell ⟨g, n * 2 + 1, none⟩ u) w.heap.size y.2 x.2) (fun i hi => ?_) ⟨rfl, key hl⟩
    have := h3 i (by rw [List.length_append]; omega)
    rw [getD_front hi] at this
    rw [getD_take (by omega)]
    exact ⟨this.1, key this.2⟩
/-- Levels that were cut. -/
theorem LevV.cut {w : World} {base n c : Nat} {a : Option Addr} {l : List Nat} (h : LevV w base (.slice a l.length c) l) (hn : n ≤ l.length) : LevV w base (.slice a n c) (l.take n) ∨ (a = none ∧ n = 0) := by
  rcases h.2 with ⟨e, h0⟩ | ⟨g, cap, cur, e, hb, hg, hnc, hcm, hcs, ht⟩
  · injection e with e1 e2 e3
    exact .inr ⟨e1, by omega⟩
  · injection e with e1 e2 e3
    subst e1; subst e3
    left
    have hl : (l.take n).length = n := by rw [List.length_take]; omega
    unfold LevV
    rw [hl]
    refine ⟨by rw [ints_len, hl]; omega, .inr ⟨g, c, cur, rfl, hb, hg, by omega, hcm, hcs, ?_⟩⟩
    have : (cur.toList.take (l.length * 1)).take (n * 1) = cur.toList.take (n * 1) := by rw [List.take_take, Nat.min_eq_left (by omega)]
    rw [← this, ht, Nat.mul_one]
    unfold ints
    rw [List.map_take]
end Go.Proofs.Ytdnpbnhfakjhoaa
