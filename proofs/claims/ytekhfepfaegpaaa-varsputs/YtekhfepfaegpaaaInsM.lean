/-
  Rows of the call's own in which one cell is put between others: what the memory is then.
-/
import Derived.Test.YtekhfepfaegpaaaSm4
import Derived.Lib.Overlaps
import Derived.Laws.IdiomCopy
import Derived.Laws.NewBlocks
import Derived.Shelf.RegionOpenPlain
namespace Go.Proofs.Ytekhfepfaegpaaa
open Go.RowKit Pack
set_option linter.unusedVariables false

theorem setCells_block (g : Nat) (t : TypeId) : ∀ (vs : List Value) (o : Nat) (w : World) (cur : Array Value), w.heap[g]? = some (.cells cur t (0, 0)) → ∃ cur', (w.setCells g o vs).heap[g]? = some (.cells cur' t (0, 0)) ∧ cur'.size = cur.size
  | [], _, w, cur, h => ⟨cur, h, rfl⟩
  | v :: r, o, w, cur, h => by
    obtain ⟨c2, h1, h2⟩ := setCells_block g t r (o + 1) (w.setCell ⟨g, o, none⟩ v) _ (heap_setCell_same w g o cur t v h)
    exact ⟨c2, h1, by rw [h2]; simp⟩
theorem setCells_size (g : Nat) : ∀ (vs : List Value) (o : Nat) (w : World), (w.setCells g o vs).heap.size = w.heap.size
  | [], _, w => rfl
  | v :: r, o, w => by rw [World.setCells, setCells_size g r]; simp [World.setCell]
theorem setCells_grown (g : Nat) : ∀ (vs : List Value) (o : Nat) (w : World), w.grownBy (w.setCells g o vs) (some g)
  | [], _, w => ⟨rfl, rfl, rfl, Nat.le_refl _, fun _ _ _ => rfl⟩
  | v :: r, o, w => by
    have ih := setCells_grown g r (o + 1) (w.setCell ⟨g, o, none⟩ v)
    have hs : (w.setCell ⟨g, o, none⟩ v).heap.size = w.heap.size := by simp [World.setCell]
    refine ⟨ih.os, ih.tape, ih.output, by rw [← hs]; exact ih.size, fun k hk hne => ?_⟩
    exact (ih.block k (by omega) hne).trans (heap_setCell_other w ⟨g, o, none⟩ k v (fun e => hne (by rw [e])))
theorem grownBy_trans {a b c : World} {r : Option Nat} (h1 : a.grownBy b r) (h2 : b.grownBy c r) : a.grownBy c r :=
  ⟨h2.os.trans h1.os, h2.tape.trans h1.tape, h2.output.trans h1.output, Nat.le_trans h1.size h2.size, fun k hk hne => (h2.block k (Nat.lt_of_lt_of_le hk h1.size) hne).trans (h1.block k hk hne)⟩
theorem ow_of_cells {w : World} {base g n cap : Nat} {t : TypeId} {cur : Array Value} {l : List Value} (hg : w.heap[g]? = some (.cells cur t (0, 0))) (hs : cur.size = cap) (hn : n ≤ cap) (hm : cap ≤ 9223372036854775807) (hb : base ≤ g) (hl : l.length = n)
    (hc : ∀ j u, l[j]? = some u → w.cell? ⟨g, j, none⟩ = some u) : Ow w base t (.slice (some ⟨g, 0, none⟩) n cap) l := by
  subst hl
  refine ⟨by omega, .inr ⟨g, cap, cur, rfl, hb, hg, hn, hm, by omega, ?_⟩⟩
  apply List.ext_getElem?
  intro j
  rw [List.getElem?_take]
  split
  · rename_i hj
    have h := hc j l[j] (List.getElem?_eq_getElem (by omega))
    rw [cell_of_row w g j cur t (0, 0) hg] at h
    rw [Array.getElem?_toList, h, List.getElem?_eq_getElem (by omega)]
  · rename_i hj
    rw [List.getElem?_eq_none (by omega)]
/-- The cells of an own row, its room too. -/
theorem ow_cells {w : World} {base g n cap : Nat} {t : TypeId} {l : List Value} (h : Ow w base t (.slice (some ⟨g, 0, none⟩) n cap) l) : l.length = n ∧ n ≤ cap ∧ cap ≤ 9223372036854775807 ∧ base ≤ g ∧ g < w.heap.size ∧ (∃ cur, w.heap[g]? = some (.cells cur t (0, 0)) ∧ cur.size = cap) ∧ (∀ j u, l[j]? = some u → w.cell? ⟨g, j, none⟩ = some u) ∧ (∀ j, j < cap → (w.cell? ⟨g, j, none⟩).isSome = true) ∧ ∀ j, w.frozen? ⟨g, j, none⟩ = false := by
  have hh := h
  rcases h.2 with ⟨h', _⟩ | ⟨g', cap', cur, h', hb, hg, hn, hm, hs, ht⟩
  · cases h'
  · simp only [Value.slice.injEq, Option.some.injEq, Addr.mk.injEq, and_true] at h'
    obtain ⟨rfl, h2, rfl⟩ := h'
    subst h2
    refine ⟨rfl, hn, hm, hb, (Array.getElem?_eq_some_iff.1 hg).1, ⟨cur, hg, by omega⟩, fun j u hu => ?_, fun j hj => ?_, fun j => frozen_of_row w g j cur t hg⟩
    · rw [World.ownsRow.cellAt hh j (by have := (List.getElem?_eq_some_iff.1 hu).1; omega), hu]
    · rw [cell_of_row w g j cur t (0, 0) hg, Array.getElem?_eq_getElem (by omega)]; rfl
theorem ins_at {l : List Value} {i : Nat} (hi : i ≤ l.length) (x : Value) (j : Nat) (u : Value) (h : (l.insertIdx i x)[j]? = some u) : (j < i ∧ l[j]? = some u) ∨ (j = i ∧ u = x) ∨ (i < j ∧ (l.drop i)[j - (i + 1)]? = some u) := by
  rw [List.getElem?_insertIdx] at h
  split at h
  · rename_i h1; exact .inl ⟨h1, h⟩
  · split at h
    · rename_i h1 h2
      split at h
      · simp at h; exact .inr (.inl ⟨h2, h.symm⟩)
      · omega
    · rename_i h1 h2
      refine .inr (.inr ⟨by omega, ?_⟩)
      rw [List.getElem?_drop, show i + (j - (i + 1)) = j - 1 by omega]
      exact h
/-- In place. -/
theorem ins_shift {w W : World} {base g n cap i : Nat} {t : TypeId} {l : List Value} {x : Value} (ho : Ow w base t (.slice (some ⟨g, 0, none⟩) n cap) l) (hi : i < n) (hroom : n + 1 ≤ cap) (hW : W = (w.drew.setCells g (i + 1) (l.drop i)).setCells g i [x] ∨ W = ((w.drew.setCells g (i + 1) (l.drop i)).setCells g i [x]).drew) :
    Ow W base t (.slice (some ⟨g, 0, none⟩) (n + 1) cap) (l.insertIdx i x) ∧ w.grownBy W (some g) := by
  have key : Ow ((w.drew.setCells g (i + 1) (l.drop i)).setCells g i [x]) base t (.slice (some ⟨g, 0, none⟩) (n + 1) cap) (l.insertIdx i x) ∧ w.grownBy ((w.drew.setCells g (i + 1) (l.drop i)).setCells g i [x]) (some g) := by
    obtain ⟨h1, h2, h3, h4, h5, ⟨cur, h6, h7⟩, h8, h9, h10⟩ := ow_cells ho
    obtain ⟨c1, k1, k2⟩ := setCells_block g t (l.drop i) (i + 1) w.drew cur h6
    obtain ⟨c2, k3, k4⟩ := setCells_block g t [x] i _ c1 k1
    have hd : (l.drop i).length = n - i := by rw [List.length_drop, h1]
    have hsome : ∀ j, j < (l.drop i).length → (w.drew.cell? ⟨g, i + 1 + j, none⟩).isSome = true := fun j hj => h9 _ (by omega)
    have hs1 : ∀ j, j < cap → ((w.drew.setCells g (i + 1) (l.drop i)).cell? ⟨g, j, none⟩).isSome = true := fun j hj => by
      rw [cell_of_row _ g j c1 t (0, 0) k1, Array.getElem?_eq_getElem (by omega)]; rfl
    refine ⟨ow_of_cells k3 (by omega) hroom h3 h4 (by rw [List.length_insertIdx_of_le_length (by omega), h1]) fun j u hu => ?_, ?_⟩
    · rcases ins_at (by omega) x j u hu with ⟨a1, a2⟩ | ⟨rfl, rfl⟩ | ⟨a1, a2⟩
      · rw [World.cell?_setCells_out g [x] i _ _ (fun _ _ => .inl a1), World.cell?_setCells_out g _ (i + 1) _ _ (fun _ _ => .inl (by show j < i + 1; omega))]
        exact h8 j u a2
      · have := World.cell?_setCells_in g [u] j (w.drew.setCells g (j + 1) (l.drop j)) (fun q hq => hs1 _ (by simp at hq; omega)) 0 (by simp)
        simpa using this
      · have hj : j - (i + 1) < (l.drop i).length := (List.getElem?_eq_some_iff.1 a2).1
        rw [World.cell?_setCells_out g [x] i _ _ (fun _ _ => .inr (by show i + 1 ≤ j; omega))]
        have := World.cell?_setCells_in g (l.drop i) (i + 1) w.drew hsome (j - (i + 1)) hj
        rw [show i + 1 + (j - (i + 1)) = j by omega] at this
        rw [this, ← a2, List.getElem?_eq_getElem hj]
    · refine grownBy_trans (b := w.drew) ⟨rfl, rfl, rfl, Nat.le_refl _, fun _ _ _ => rfl⟩ ?_
      exact grownBy_trans (setCells_grown g _ _ _) (setCells_grown g _ _ _)
  rcases hW with rfl | rfl
  · exact key
  · exact ⟨key.1, key.2.os, key.2.tape, key.2.output, key.2.size, key.2.block⟩
/-- A new row. -/
theorem ins_grow {w W : World} {base n G i : Nat} {t : TypeId} {l : List Value} {x : Value} {ROW : Array Value} (hl : l.length = n) (hi : i < n) (hG : n + 1 ≤ G) (hm : G ≤ 9223372036854775807) (hR : ROW.size = G) (hRl : ∀ j u, j < i → l[j]? = some u → ROW[j]? = some u) (hb : base ≤ w.heap.size)
    (hW : W = (((w.alloc (.cells ROW t)).drew.setCells w.heap.size i [x]).drew).setCells w.heap.size (i + 1) (l.drop i)) :
    Ow W base t (.slice (some ⟨w.heap.size, 0, none⟩) (n + 1) G) (l.insertIdx i x) ∧ w.grownBy W none := by
  subst hW
  have h6 : (w.alloc (.cells ROW t)).drew.heap[w.heap.size]? = some (.cells ROW t (0, 0)) := heap_alloc_new w _
  obtain ⟨c1, k1, k2⟩ := setCells_block w.heap.size t [x] i _ ROW h6
  have k1' : ((w.alloc (.cells ROW t)).drew.setCells w.heap.size i [x]).drew.heap[w.heap.size]? = some (.cells c1 t (0, 0)) := k1
  obtain ⟨c2, k3, k4⟩ := setCells_block w.heap.size t (l.drop i) (i + 1) _ c1 k1'
  have hd : (l.drop i).length = n - i := by rw [List.length_drop, hl]
  have hs1 : ∀ j, j < G → (((w.alloc (.cells ROW t)).drew.setCells w.heap.size i [x]).drew.cell? ⟨w.heap.size, j, none⟩).isSome = true := fun j hj => by
    rw [cell_of_row _ w.heap.size j c1 t (0, 0) k1', Array.getElem?_eq_getElem (by omega)]; rfl
  have hs0 : ∀ j, j < G → ((w.alloc (.cells ROW t)).drew.cell? ⟨w.heap.size, j, none⟩).isSome = true := fun j hj => by
    rw [cell_of_row _ w.heap.size j ROW t (0, 0) h6, Array.getElem?_eq_getElem (by omega)]; rfl
  refine ⟨ow_of_cells k3 (by omega) hG hm hb (by rw [List.length_insertIdx_of_le_length (by omega), hl]) fun j u hu => ?_, ?_⟩
  · rcases ins_at (by omega) x j u hu with ⟨a1, a2⟩ | ⟨rfl, rfl⟩ | ⟨a1, a2⟩
    · rw [World.cell?_setCells_out w.heap.size _ (i + 1) _ _ (fun _ _ => .inl (by show j < i + 1; omega))]
      show ((w.alloc (.cells ROW t)).drew.setCells w.heap.size i [x]).cell? _ = _
      rw [World.cell?_setCells_out w.heap.size [x] i _ _ (fun _ _ => .inl a1), cell_of_row _ w.heap.size j ROW t (0, 0) h6]
      exact hRl j u a1 a2
    · rw [World.cell?_setCells_out w.heap.size _ (j + 1) _ _ (fun _ _ => .inl (by show j < j + 1; omega))]
      have := World.cell?_setCells_in w.heap.size [u] j (w.alloc (.cells ROW t)).drew (fun q hq => hs0 _ (by simp at hq; omega)) 0 (by simp)
      simpa using this
    · have hj : j - (i + 1) < (l.drop i).length := (List.getElem?_eq_some_iff.1 a2).1
      have := World.cell?_setCells_in w.heap.size (l.drop i) (i + 1) ((w.alloc (.cells ROW t)).drew.setCells w.heap.size i [x]).drew (fun q hq => hs1 _ (by omega)) (j - (i + 1)) hj
      rw [show i + 1 + (j - (i + 1)) = j by omega] at this
      rw [this, ← a2, List.getElem?_eq_getElem hj]
  · have g0 : w.grownBy (w.alloc (.cells ROW t)).drew none := ⟨rfl, rfl, rfl, base_le (Nat.le_refl _) _, fun k hk _ => Below.heap_alloc w _ k hk⟩
    have g1 := setCells_grown w.heap.size [x] i (w.alloc (.cells ROW t)).drew
    have g2 := setCells_grown w.heap.size (l.drop i) (i + 1) ((w.alloc (.cells ROW t)).drew.setCells w.heap.size i [x]).drew
    refine ⟨g2.os.trans (g1.os.trans g0.os), g2.tape.trans (g1.tape.trans g0.tape), g2.output.trans (g1.output.trans g0.output), Nat.le_trans g0.size (Nat.le_trans g1.size g2.size), fun k hk _ => ?_⟩
    have hne : some k ≠ some w.heap.size := fun e => by injection e; omega
    have hk1 : k < (w.alloc (.cells ROW t)).drew.heap.size := Nat.lt_of_lt_of_le hk g0.size
    exact (g2.block k (Nat.lt_of_lt_of_le hk1 g1.size) hne).trans ((g1.block k hk1 hne).trans (g0.block k hk (by simp)))

/-- 'copy(d, s)' whose run is known. -/
theorem wpList_copy_known {P : Program} (w : World) {ops : Array Oper} {rest : List Oper} {o : Oper} {a : Act} {Q : Exit → Act → World → Prop} (hgd : o.guard = none) (d s : Operand) (t t' : TypeId)
    (ho : o.op = .call { callee := .builtin .copy, args := #[d, s], argTypes := #[t, t'] }) (v u : Value) (hd : a.eval d = v) (hs : a.eval s = u) {v' : Value} {w' : World}
    (hr : (Builtin.copy_ #[t, t'] o.type #[v, u]).run P w = .ok v' w') (h : wpList P ops Q rest (a.put o.dst v') w') : wpList P ops Q (o :: rest) a w := by
  refine wpList_plain hgd fun K hK => ?_
  unfold Oper.wp execOp
  simp only [ho, resolve, invoke, builtin, Sem.run_bind, Sem.run_pure, Result.andThen_ok, List.map_toArray, List.map_cons, List.map_nil, hd, hs, hr]
  exact hK _ _ h
/-- The same as a step of a region that draws its order. -/
theorem step_copy_known {P : Program} {ops : Array Oper} {o : Oper} {a : Act} {w : World} {K : Act → World → Prop} {Q : Exit → Act → World → Prop} {E : Prop} (hg : o.guard = none) (d x : Operand) (dT sT : TypeId)
    (hop : o.op = Op.call { callee := Callee.builtin Builtin.copy, args := #[d, x], argTypes := #[dT, sT] }) (v u : Value) (hd : a.eval d = v) (hx : a.eval x = u) {v' : Value} {w' : World}
    (hr : (Builtin.copy_ #[dT, sT] o.type #[v, u]).run P w = .ok v' w') (hK : K (a.put o.dst v') w') : if Region.wanted o (yielded ops a.tmps) = true then Oper.wp P o a w K Q else E := by
  rw [if_pos (show Region.wanted o (yielded ops a.tmps) = true by simp [Region.wanted, hg])]
  unfold Oper.wp
  simp [execOp, hop, resolve, invoke, builtin, hd, hx, hr, Result.andThen]
  exact hK
end Go.Proofs.Ytekhfepfaegpaaa
