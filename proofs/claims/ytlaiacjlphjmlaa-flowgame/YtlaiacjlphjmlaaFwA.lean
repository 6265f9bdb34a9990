/-
  The program's walker of places, in memory.
-/
import Derived.Test.YtlaiacjlphjmlaaFlM
import Derived.Test.YtlaiacjlphjmlaaRcZ
import Derived.Test.YtlaiacjlphjmlaaChD
namespace Go.Proofs.Ytlaiacjlphjmlaa
open Go.RowKit
set_option linter.unusedVariables false

/-- Appending one more, in a plain region. -/
theorem list_gw {α : Type} {R : Rdr α} (hR : KeptR R) (sl el sz bt : Nat) (z : Value) {ops : Array Oper} {rest : List Oper} {o : Oper} {a : Act} {Q : Exit → Act → World → Prop} {wX : World} (hgd : o.guard = none) (s x : Operand)
    (ho : o.op = .call { callee := .builtin .append, args := #[s, x], argTypes := #[sl, sl] }) (hu : Try.prog.underlying sl = some (.slice el)) (hinfo : (Try.prog.info? el).map (fun i => (i.zero, i.size, i.bytes)) = some (some z, sz, bt)) (hzc : z.cells.size = sz) (hsz : 0 < sz) (hbt : bt ≤ 100)
    {B g : Nat} {v : Value} {cs : Array Value} {ts : List α} {y : α} (hl : Gw R el sz wX B v ts) (hcs : cs.toList.length = sz) (hone : ∀ u ∈ cs.toList, u.oneCell' = true) (hy : R wX (fun g => B ≤ g ∧ v.ownBlock ≠ some g) cs.toList y) (hbase : B ≤ wX.heap.size) (hs : a.eval s = v) (hx : a.eval x = .slice (some ⟨g, 0, none⟩) 1 1) (hg : g = wX.heap.size) (hlen : ts.length ≤ 1048576)
    (h : ∀ v' w', Gw R el sz w' B v' (ts ++ [y]) → (wX.alloc (.cells cs el)).grownBy w' v.ownBlock → wpList Try.prog ops Q rest (a.put o.dst v') w') : wpList Try.prog ops Q (o :: rest) a (wX.alloc (.cells cs el)) := by
  subst hg
  obtain ⟨i, hi, hz, hsize, hby⟩ := info_parts hinfo
  obtain ⟨xs, h1, h2⟩ := hl
  have hmul : (ts.length + 1) * bt ≤ 1048577 * 100 := Nat.mul_le_mul (by omega) hbt
  obtain ⟨v', w', hr, q2, q3, q4, q5⟩ := run_append_own_at (P := Try.prog) (wX.alloc (.cells cs el)) B sl o.type el i z sz bt hu hi hz hsize hby hzc hsz v ts.length xs (World.ownsRow.alloc h1 _) ⟨wX.heap.size, 0, none⟩ 1 1 cs.toList (by rw [hcs, Nat.one_mul])
    (fun j u hj => by rw [V.add_plain, Nat.zero_add, cell_of_row _ wX.heap.size j _ el (0, 0) (heap_alloc_new wX _)]; simpa using hj) hone (by unfold maxLen; omega) (by omega) (by rw [size_alloc]; omega)
  refine wpList_plain hgd fun K hK => ?_
  unfold Oper.wp execOp
  simp only [ho, resolve, invoke, builtin, Sem.run_bind, Sem.run_pure, Result.andThen_ok, List.map_toArray, List.map_cons, List.map_nil, hs, hx, hr]
  refine hK _ _ (h v' w' ?_ q3)
  exact Gw.add hR (World.ownsRow.alloc h1 _) (fun j hj => hR _ _ _ _ _ _ (h2 j hj) fun g hg hlt => ⟨heap_alloc_old _ _ hlt, hg⟩) hcs (hR _ _ _ _ _ _ hy fun g hg hlt => ⟨heap_alloc_old _ _ hlt, hg⟩) q2 q3 q5
def intR : Rdr Nat := fun w P cs x => cs = [.int .i64 (x : Nat)]
theorem intR_kept : KeptR intR := fun _ _ _ _ _ _ h _ => h
theorem infoI : (Try.prog.info? 3).map (fun i => (i.zero, i.size, i.bytes)) = some (some (.int .i64 0), 1, 8) := by kernel_rfl
theorem list_int {ops : Array Oper} {rest : List Oper} {o : Oper} {a : Act} {Q : Exit → Act → World → Prop} {wX : World} (hgd : o.guard = none) (s x : Operand)
    (ho : o.op = .call { callee := .builtin .append, args := #[s, x], argTypes := #[27, 27] }) {B g : Nat} {v : Value} {y : Nat} {ts : List Nat}
    (hl : Gw intR 3 1 wX B v ts) (hbase : B ≤ wX.heap.size) (hs : a.eval s = v) (hx : a.eval x = .slice (some ⟨g, 0, none⟩) 1 1) (hg : g = wX.heap.size) (hlen : ts.length ≤ 1048576)
    (h : ∀ v' w', Gw intR 3 1 w' B v' (ts ++ [y]) → (wX.alloc (.cells #[.int .i64 (y : Nat)] 3)).grownBy w' v.ownBlock → wpList Try.prog ops Q rest (a.put o.dst v') w') : wpList Try.prog ops Q (o :: rest) a (wX.alloc (.cells #[.int .i64 (y : Nat)] 3)) :=
  list_gw intR_kept 27 3 1 8 _ hgd s x ho Try.underlying27 infoI rfl (by decide) (by decide) hl rfl (by simp [Value.oneCell']) rfl hbase hs hx hg hlen h
/-- A block of numbers, of truths. -/
structure RowN (w : World) (b : Nat) (l : List Nat) : Prop where
  c : ∀ i, i < l.length → w.cell? ⟨b, i, none⟩ = some (.int .i64 (l.getD i 0 : Nat))
  f : ∀ i, w.frozen? ⟨b, i, none⟩ = false
structure RowT (w : World) (b : Nat) (l : List Bool) : Prop where
  c : ∀ i, i < l.length → w.cell? ⟨b, i, none⟩ = some (.bool (l.getD i false))
  f : ∀ i, w.frozen? ⟨b, i, none⟩ = false
theorem getD_set {α : Type} {l : List α} {k i : Nat} {x z : α} (h : i < l.length) : (l.set k x).getD i z = if k = i then x else l.getD i z := by
  simp only [List.getD_eq_getElem?_getD, List.getElem?_set]
  by_cases hk : k = i
  · subst hk; simp [h]
  · simp [hk]
theorem frozen_kept {w w' : World} {g : Nat} (h : w'.heap[g]? = w.heap[g]?) (o : Nat) : w'.frozen? ⟨g, o, none⟩ = w.frozen? ⟨g, o, none⟩ := by simp only [World.frozen?]; rw [h]
theorem RowN.kept {w w' : World} {b : Nat} {l : List Nat} (h : RowN w b l) (e : w'.heap[b]? = w.heap[b]?) : RowN w' b l := ⟨fun i hi => (cell_kept e _).trans (h.c i hi), fun i => (frozen_kept e _).trans (h.f i)⟩
theorem RowT.kept {w w' : World} {b : Nat} {l : List Bool} (h : RowT w b l) (e : w'.heap[b]? = w.heap[b]?) : RowT w' b l := ⟨fun i hi => (cell_kept e _).trans (h.c i hi), fun i => (frozen_kept e _).trans (h.f i)⟩
theorem RowN.set {w : World} {b : Nat} {l : List Nat} (h : RowN w b l) (k x : Nat) : RowN (w.setCell ⟨b, k, none⟩ (.int .i64 (x : Nat))) b (l.set k x) := by
  refine ⟨fun i hi => ?_, fun i => by simp only [World.frozen?_setCell]; exact h.f i⟩
  have hi2 : i < l.length := by simpa using hi
  rw [getD_set hi2]
  have := cell_set (k := k) (v := .int .i64 (x : Nat)) (h.c i hi2)
  rw [this]
  split <;> rfl
theorem RowT.set {w : World} {b : Nat} {l : List Bool} (h : RowT w b l) (k : Nat) (x : Bool) : RowT (w.setCell ⟨b, k, none⟩ (.bool x)) b (l.set k x) := by
  refine ⟨fun i hi => ?_, fun i => by simp only [World.frozen?_setCell]; exact h.f i⟩
  have hi2 : i < l.length := by simpa using hi
  rw [getD_set hi2]
  have := cell_set (k := k) (v := .bool x) (h.c i hi2)
  rw [this]
  split <;> rfl
/-- Where the walker's blocks lie. -/
structure Dis (B B0 wb fb db jb cb : Nat) : Prop where
  l1 : B ≤ wb
  l2 : B ≤ fb
  l3 : B ≤ db
  l4 : B ≤ jb
  l5 : B ≤ cb
  h1 : wb < B0
  h2 : fb < B0
  h3 : db < B0
  h4 : jb < B0
  h5 : cb < B0
  n1 : wb ≠ fb
  n2 : wb ≠ db
  n3 : wb ≠ jb
  n4 : wb ≠ cb
  n5 : fb ≠ db
  n6 : fb ≠ jb
  n7 : fb ≠ cb
  n8 : db ≠ jb
  n9 : db ≠ cb
  n0 : jb ≠ cb
/-- The walker in memory. -/
structure Wk (w : World) (B B0 wb fb db jb cb : Nat) (pa : Option Addr) (pc n : Nat) (ov : Value) (s : Fs) : Prop where
  c0 : w.cell? ⟨wb, 0, none⟩ = some (.slice pa n pc)
  c1 : w.cell? ⟨wb, 1, none⟩ = some (.slice (some ⟨fb, 0, none⟩) n n)
  c2 : w.cell? ⟨wb, 2, none⟩ = some (.slice (some ⟨db, 0, none⟩) n n)
  c3 : w.cell? ⟨wb, 3, none⟩ = some (.slice (some ⟨jb, 0, none⟩) n n)
  c4 : w.cell? ⟨wb, 4, none⟩ = some (.slice (some ⟨cb, 0, none⟩) n n)
  c5 : w.cell? ⟨wb, 5, none⟩ = some ov
  free : ∀ i, w.frozen? ⟨wb, i, none⟩ = false
  fk : RowN w fb s.fk
  dp : RowN w db s.dp
  jn : RowN w jb s.jn
  cm : RowT w cb s.cm
  od : Gw intR 3 1 w B0 ov s.od
  dis : Dis B B0 wb fb db jb cb
  hi : B0 ≤ w.heap.size
section
variable {w w' : World} {B B0 wb fb db jb cb : Nat} {pa : Option Addr} {pc n : Nat} {ov : Value} {s : Fs}
theorem Wk.below (h : Wk w B B0 wb fb db jb cb pa pc n ov s) (hb : Below w.heap.size w w') : Wk w' B B0 wb fb db jb cb pa pc n ov s := by
  have hd := h.dis
  have hh := h.hi
  have e : ∀ g, g < B0 → w'.heap[g]? = w.heap[g]? := fun g hg => hb.block g (by omega)
  have ew := e wb hd.h1
  exact ⟨(cell_kept ew _).trans h.c0, (cell_kept ew _).trans h.c1, (cell_kept ew _).trans h.c2, (cell_kept ew _).trans h.c3, (cell_kept ew _).trans h.c4, (cell_kept ew _).trans h.c5, fun i => (frozen_kept ew _).trans (h.free i), h.fk.kept (e _ hd.h2), h.dp.kept (e _ hd.h3), h.jn.kept (e _ hd.h4), h.cm.kept (e _ hd.h5), h.od.below intR_kept hb, hd, Nat.le_trans hh hb.size⟩
theorem Wk.drew (h : Wk w B B0 wb fb db jb cb pa pc n ov s) : Wk w.drew B B0 wb fb db jb cb pa pc n ov s := h.below ((Below.refl _ _).drew)
theorem set_far {b g o : Nat} (hg : g ≠ b) (x : Value) : (w.setCell ⟨b, o, none⟩ x).heap[g]? = w.heap[g]? := Below.heap_setCell _ _ _ _ hg
theorem Wk.setF (h : Wk w B B0 wb fb db jb cb pa pc n ov s) (k x : Nat) : Wk (w.setCell ⟨fb, k, none⟩ (.int .i64 (x : Nat))) B B0 wb fb db jb cb pa pc n ov ⟨s.fk.set k x, s.dp, s.jn, s.cm, s.od⟩ := by
  have d := h.dis
  have ew := set_far (w := w) (b := fb) (o := k) d.n1 (.int .i64 (x : Nat))
  exact ⟨(cell_kept ew _).trans h.c0, (cell_kept ew _).trans h.c1, (cell_kept ew _).trans h.c2, (cell_kept ew _).trans h.c3, (cell_kept ew _).trans h.c4, (cell_kept ew _).trans h.c5, fun i => (frozen_kept ew _).trans (h.free i), h.fk.set k x, h.dp.kept (set_far d.n5.symm _), h.jn.kept (set_far d.n6.symm _), h.cm.kept (set_far d.n7.symm _), h.od.set intR_kept d.h2 _, d, by simp only [World.setCell]; simpa using h.hi⟩
theorem Wk.setD (h : Wk w B B0 wb fb db jb cb pa pc n ov s) (k x : Nat) : Wk (w.setCell ⟨db, k, none⟩ (.int .i64 (x : Nat))) B B0 wb fb db jb cb pa pc n ov ⟨s.fk, s.dp.set k x, s.jn, s.cm, s.od⟩ := by
  have d := h.dis
  have ew := set_far (w := w) (b := db) (o := k) d.n2 (.int .i64 (x : Nat))
  exact ⟨(cell_kept ew _).trans h.c0, (cell_kept ew _).trans h.c1, (cell_kept ew _).trans h.c2, (cell_kept ew _).trans h.c3, (cell_kept ew _).trans h.c4, (cell_kept ew _).trans h.c5, fun i => (frozen_kept ew _).trans (h.free i), h.fk.kept (set_far d.n5 _), h.dp.set k x, h.jn.kept (set_far d.n8.symm _), h.cm.kept (set_far d.n9.symm _), h.od.set intR_kept d.h3 _, d, by simp only [World.setCell]; simpa using h.hi⟩
theorem Wk.setJ (h : Wk w B B0 wb fb db jb cb pa pc n ov s) (k x : Nat) : Wk (w.setCell ⟨jb, k, none⟩ (.int .i64 (x : Nat))) B B0 wb fb db jb cb pa pc n ov ⟨s.fk, s.dp, s.jn.set k x, s.cm, s.od⟩ := by
  have d := h.dis
  have ew := set_far (w := w) (b := jb) (o := k) d.n3 (.int .i64 (x : Nat))
  exact ⟨(cell_kept ew _).trans h.c0, (cell_kept ew _).trans h.c1, (cell_kept ew _).trans h.c2, (cell_kept ew _).trans h.c3, (cell_kept ew _).trans h.c4, (cell_kept ew _).trans h.c5, fun i => (frozen_kept ew _).trans (h.free i), h.fk.kept (set_far d.n6 _), h.dp.kept (set_far d.n8 _), h.jn.set k x, h.cm.kept (set_far d.n0.symm _), h.od.set intR_kept d.h4 _, d, by simp only [World.setCell]; simpa using h.hi⟩
theorem Wk.setC (h : Wk w B B0 wb fb db jb cb pa pc n ov s) (k : Nat) (x : Bool) : Wk (w.setCell ⟨cb, k, none⟩ (.bool x)) B B0 wb fb db jb cb pa pc n ov ⟨s.fk, s.dp, s.jn, s.cm.set k x, s.od⟩ := by
  have d := h.dis
  have ew := set_far (w := w) (b := cb) (o := k) d.n4 (.bool x)
  exact ⟨(cell_kept ew _).trans h.c0, (cell_kept ew _).trans h.c1, (cell_kept ew _).trans h.c2, (cell_kept ew _).trans h.c3, (cell_kept ew _).trans h.c4, (cell_kept ew _).trans h.c5, fun i => (frozen_kept ew _).trans (h.free i), h.fk.kept (set_far d.n7 _), h.dp.kept (set_far d.n9 _), h.jn.kept (set_far d.n0 _), h.cm.set k x, h.od.set intR_kept d.h5 _, d, by simp only [World.setCell]; simpa using h.hi⟩
theorem Wk.addO {w5 : World} {v5 : Value} {o : Obj} {l : List Nat} (h : Wk w B B0 wb fb db jb cb pa pc n ov s) (h5 : Gw intR 3 1 w5 B0 v5 l) (hg : (w.alloc o).grownBy w5 ov.ownBlock) :
    (w5.cell? ⟨wb, 5, none⟩ = some ov ∧ (∀ i, w5.frozen? ⟨wb, i, none⟩ = false) ∧ wb < w5.heap.size) ∧ Wk (w5.setCell ⟨wb, 5, none⟩ v5) B B0 wb fb db jb cb pa pc n v5 ⟨s.fk, s.dp, s.jn, s.cm, l⟩ ∧ Below B0 w w5 := by
  have d := h.dis
  have hh := h.hi
  have hB : Below B0 w w5 := ((Below.refl _ _).alloc hh _).grown hg (Nat.le_trans hh (le_alloc _ _)) h.od.own
  have ew := hB.block wb d.h1
  have k5 := (cell_kept ew 5).trans h.c5
  have hf : ∀ i, w5.frozen? ⟨wb, i, none⟩ = false := fun i => (frozen_kept ew _).trans (h.free i)
  refine ⟨⟨k5, hf, World.block_lt_of_cell? _ _ k5⟩, ⟨cell_set ((cell_kept ew _).trans h.c0), cell_set ((cell_kept ew _).trans h.c1), cell_set ((cell_kept ew _).trans h.c2), cell_set ((cell_kept ew _).trans h.c3), cell_set ((cell_kept ew _).trans h.c4), cell_set k5, fun i => by simp only [World.frozen?_setCell]; exact hf i, (h.fk.kept (hB.block _ d.h2)).kept (set_far d.n1.symm _), (h.dp.kept (hB.block _ d.h3)).kept (set_far d.n2.symm _), (h.jn.kept (hB.block _ d.h4)).kept (set_far d.n3.symm _), (h.cm.kept (hB.block _ d.h5)).kept (set_far d.n4.symm _), h5.set intR_kept d.h1 _, d, ?_⟩, hB⟩
  simp only [World.setCell]; simpa using Nat.le_trans hh hB.size
end
end Go.Proofs.Ytlaiacjlphjmlaa
