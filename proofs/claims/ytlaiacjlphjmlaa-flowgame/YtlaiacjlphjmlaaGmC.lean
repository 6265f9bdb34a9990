/-
  Layer 12: the game in memory.
-/
import Derived.Test.YtlaiacjlphjmlaaGmB
import Derived.Test.YtlaiacjlphjmlaaRfE
namespace Go.Proofs.Ytlaiacjlphjmlaa
open Go.RowKit
set_option linter.unusedVariables false

/-- A game that reads. -/
structure GmV (w : World) (ta : Option Addr) (tn tc : Nat) (cv : Value) (g : Gm) : Prop where
  len : tn = g.toks.length
  cap1 : tn ≤ tc
  cap2 : tc ≤ 9223372036854775807
  tok : ∀ i, i < g.toks.length → ∃ tb v, ta = some ⟨tb, 0, none⟩ ∧ w.cell? ⟨tb, i * 2, none⟩ = some (.int .i64 ((g.toks.getD i zeroTk).pos : Nat)) ∧ w.cell? ⟨tb, i * 2 + 1, none⟩ = some v ∧ Iv w v (g.toks.getD i zeroTk).plays ∧ ∀ k, v.ownBlock = some k → k < w.heap.size
  came : Iv w cv g.came
theorem GmV.below {w w' : World} {ta : Option Addr} {tn tc : Nat} {cv : Value} {g : Gm} (h : GmV w ta tn tc cv g) (hb : Below w.heap.size w w') : GmV w' ta tn tc cv g := by
  refine ⟨h.len, h.cap1, h.cap2, fun i hi => ?_, h.came.below hb⟩
  obtain ⟨tb, v, h1, h2, h3, h4, h5⟩ := h.tok i hi
  have e := hb.block tb (World.block_lt_of_cell? _ _ h2)
  exact ⟨tb, v, h1, (cell_kept e _).trans h2, (cell_kept e _).trans h3, h4.below hb, fun k hk => Nat.lt_of_lt_of_le (h5 k hk) hb.size⟩
def TvR : Rdr (Tk × Value) := fun w P cs tv => cs = [.int .i64 (tv.1.pos : Nat), tv.2]
theorem tvR_kept : KeptR TvR := fun _ _ _ _ _ _ h _ => h
theorem infoK : (Try.prog.info? 41).map (fun i => (i.zero, i.size, i.bytes)) = some (some (.agg #[.int .i64 0, .slice none 0 0]), 2, 32) := by kernel_rfl
/-- Appending one more, with the row's place told. -/
theorem list_gw2 {α : Type} {R : Rdr α} (hR : KeptR R) (sl el sz bt : Nat) (z : Value) {ops : Array Oper} {rest : List Oper} {o : Oper} {a : Act} {Q : Exit → Act → World → Prop} {wX : World} (hgd : o.guard = none) (s x : Operand)
    (ho : o.op = .call { callee := .builtin .append, args := #[s, x], argTypes := #[sl, sl] }) (hu : Try.prog.underlying sl = some (.slice el)) (hinfo : (Try.prog.info? el).map (fun i => (i.zero, i.size, i.bytes)) = some (some z, sz, bt)) (hzc : z.cells.size = sz) (hsz : 0 < sz) (hbt : bt ≤ 100)
    {B g : Nat} {v : Value} {cs : Array Value} {ts : List α} {y : α} (hl : Gw R el sz wX B v ts) (hcs : cs.toList.length = sz) (hone : ∀ u ∈ cs.toList, u.oneCell' = true) (hy : R wX (fun g => B ≤ g ∧ v.ownBlock ≠ some g) cs.toList y) (hbase : B ≤ wX.heap.size) (hs : a.eval s = v) (hx : a.eval x = .slice (some ⟨g, 0, none⟩) 1 1) (hg : g = wX.heap.size) (hlen : ts.length ≤ 1048576)
    (h : ∀ v' w', Gw R el sz w' B v' (ts ++ [y]) → (wX.alloc (.cells cs el)).grownBy w' v.ownBlock → (v'.ownBlock = v.ownBlock ∨ v'.ownBlock = some (wX.heap.size + 1)) → wpList Try.prog ops Q rest (a.put o.dst v') w') : wpList Try.prog ops Q (o :: rest) a (wX.alloc (.cells cs el)) := by
  subst hg
  obtain ⟨i, hi, hz, hsize, hby⟩ := info_parts hinfo
  obtain ⟨xs, h1, h2⟩ := hl
  have hmul : (ts.length + 1) * bt ≤ 1048577 * 100 := Nat.mul_le_mul (by omega) hbt
  obtain ⟨v', w', hr, q2, q3, q4, q5⟩ := run_append_own_at (P := Try.prog) (wX.alloc (.cells cs el)) B sl o.type el i z sz bt hu hi hz hsize hby hzc hsz v ts.length xs (World.ownsRow.alloc h1 _) ⟨wX.heap.size, 0, none⟩ 1 1 cs.toList (by rw [hcs, Nat.one_mul])
    (fun j u hj => by rw [V.add_plain, Nat.zero_add, cell_of_row _ wX.heap.size j _ el (0, 0) (heap_alloc_new wX _)]; simpa using hj) hone (by unfold maxLen; omega) (by omega) (by rw [size_alloc]; omega)
  refine wpList_plain hgd fun K hK => ?_
  unfold Oper.wp execOp
  simp only [ho, resolve, invoke, builtin, Sem.run_bind, Sem.run_pure, Result.andThen_ok, List.map_toArray, List.map_cons, List.map_nil, hs, hx, hr]
  refine hK _ _ (h v' w' ?_ q3 (by rw [size_alloc] at q5; exact q5))
  exact Gw.add hR (World.ownsRow.alloc h1 _) (fun j hj => hR _ _ _ _ _ _ (h2 j hj) fun g hg hlt => ⟨heap_alloc_old _ _ hlt, hg⟩) hcs (hR _ _ _ _ _ _ hy fun g hg hlt => ⟨heap_alloc_old _ _ hlt, hg⟩) q2 q3 q5
theorem step_gw2 {α : Type} {R : Rdr α} (hR : KeptR R) (sl el sz bt : Nat) (z : Value) {ops : Array Oper} {o : Oper} {a : Act} {K : Act → World → Prop} {Q : Exit → Act → World → Prop} {E : Prop} {wX : World} (hgd : o.guard = none) (s x : Operand)
    (ho : o.op = .call { callee := .builtin .append, args := #[s, x], argTypes := #[sl, sl] }) (hu : Try.prog.underlying sl = some (.slice el)) (hinfo : (Try.prog.info? el).map (fun i => (i.zero, i.size, i.bytes)) = some (some z, sz, bt)) (hzc : z.cells.size = sz) (hsz : 0 < sz) (hbt : bt ≤ 100)
    {B g : Nat} {v : Value} {cs : Array Value} {ts : List α} {y : α} (hl : Gw R el sz wX B v ts) (hcs : cs.toList.length = sz) (hone : ∀ u ∈ cs.toList, u.oneCell' = true) (hy : R wX (fun g => B ≤ g ∧ v.ownBlock ≠ some g) cs.toList y) (hbase : B ≤ wX.heap.size) (hs : a.eval s = v) (hx : a.eval x = .slice (some ⟨g, 0, none⟩) 1 1) (hg : g = wX.heap.size) (hlen : ts.length ≤ 1048576)
    (h : ∀ v' w', Gw R el sz w' B v' (ts ++ [y]) → (wX.alloc (.cells cs el)).grownBy w' v.ownBlock → (v'.ownBlock = v.ownBlock ∨ v'.ownBlock = some (wX.heap.size + 1)) → K (a.put o.dst v') w') : if Region.wanted o (yielded ops a.tmps) = true then Oper.wp Try.prog o a (wX.alloc (.cells cs el)) K Q else E := by
  subst hg
  obtain ⟨i, hi, hz, hsize, hby⟩ := info_parts hinfo
  obtain ⟨xs, h1, h2⟩ := hl
  rw [if_pos (show Region.wanted o (yielded ops a.tmps) = true by simp [Region.wanted, hgd])]
  have hmul : (ts.length + 1) * bt ≤ 1048577 * 100 := Nat.mul_le_mul (by omega) hbt
  obtain ⟨v', w', hr, q2, q3, q4, q5⟩ := run_append_own_at (P := Try.prog) (wX.alloc (.cells cs el)) B sl o.type el i z sz bt hu hi hz hsize hby hzc hsz v ts.length xs (World.ownsRow.alloc h1 _) ⟨wX.heap.size, 0, none⟩ 1 1 cs.toList (by rw [hcs, Nat.one_mul])
    (fun j u hj => by rw [V.add_plain, Nat.zero_add, cell_of_row _ wX.heap.size j _ el (0, 0) (heap_alloc_new wX _)]; simpa using hj) hone (by unfold maxLen; omega) (by omega) (by rw [size_alloc]; omega)
  unfold Oper.wp execOp
  simp only [ho, resolve, invoke, builtin, Sem.run_bind, Sem.run_pure, Result.andThen_ok, List.map_toArray, List.map_cons, List.map_nil, hs, hx, hr]
  refine h v' w' ?_ q3 (by rw [size_alloc] at q5; exact q5)
  exact Gw.add hR (World.ownsRow.alloc h1 _) (fun j hj => hR _ _ _ _ _ _ (h2 j hj) fun g hg hlt => ⟨heap_alloc_old _ _ hlt, hg⟩) hcs (hR _ _ _ _ _ _ hy fun g hg hlt => ⟨heap_alloc_old _ _ hlt, hg⟩) q2 q3 q5
theorem step_tok {ops : Array Oper} {o : Oper} {a : Act} {K : Act → World → Prop} {Q : Exit → Act → World → Prop} {E : Prop} {wX : World} (hgd : o.guard = none) (s x : Operand)
    (ho : o.op = .call { callee := .builtin .append, args := #[s, x], argTypes := #[42, 42] }) {B g : Nat} {v : Value} {p n c : Nat} {ad : Option Addr} {l : List Nat} {ts : List (Tk × Value)}
    (hl : Gw TvR 41 2 wX B v ts) (hbase : B ≤ wX.heap.size) (hs : a.eval s = v) (hx : a.eval x = .slice (some ⟨g, 0, none⟩) 1 1) (hg : g = wX.heap.size) (hlen : ts.length ≤ 1048576)
    (h : ∀ v' w', Gw TvR 41 2 w' B v' (ts ++ [(⟨p, l⟩, .slice ad n c)]) → (wX.alloc (.cells #[.int .i64 (p : Nat), .slice ad n c] 41)).grownBy w' v.ownBlock → (v'.ownBlock = v.ownBlock ∨ v'.ownBlock = some (wX.heap.size + 1)) → K (a.put o.dst v') w') : if Region.wanted o (yielded ops a.tmps) = true then Oper.wp Try.prog o a (wX.alloc (.cells #[.int .i64 (p : Nat), .slice ad n c] 41)) K Q else E :=
  step_gw2 tvR_kept 42 41 2 32 _ hgd s x ho Try.underlying42 infoK rfl (by decide) (by decide) hl rfl (by simp [Value.oneCell']) (show TvR wX _ [.int .i64 (p : Nat), .slice ad n c] (⟨p, l⟩, .slice ad n c) from rfl) hbase hs hx hg hlen h
/-- A row of plays lies apart from what Move writes. -/
def Pok (w0 w : World) (M : Nat) (vT vC : Value) (tv : Tk × Value) : Prop := Iv w tv.2 tv.1.plays ∧ ∀ k, tv.2.ownBlock = some k → (k < w0.heap.size ∨ M < k) ∧ k < w.heap.size ∧ vT.ownBlock ≠ some k ∧ vC.ownBlock ≠ some k
/-- The game that Move makes, in memory. -/
structure Mv (w0 w6 w : World) (M : Nat) (vT vC : Value) (L : List (Tk × Value)) (cm : List Nat) : Prop where
  b : Below w0.heap.size w0 w
  hb : Below M w6 w
  lo : w0.heap.size < M
  c11 : Cell2 w M vT vC
  tk : Gw TvR 41 2 w (M + 1) vT L
  cm : Iv w vC cm
  co : ∀ k, vC.ownBlock = some k → M < k ∧ k < w.heap.size
  ne : ∀ k, vT.ownBlock = some k → vC.ownBlock ≠ some k
  pl : ∀ tv ∈ L, Pok w0 w M vT vC tv
section
variable {w0 w6 w w' : World} {M : Nat} {vT vC : Value} {L : List (Tk × Value)} {cm : List Nat}
theorem Pok.pos {p p' : Nat} {l : List Nat} {v : Value} (h : Pok w0 w M vT vC (⟨p, l⟩, v)) : Pok w0 w M vT vC (⟨p', l⟩, v) := h
theorem Pok.below {tv : Tk × Value} (h : Pok w0 w M vT vC tv) (hb : Below w.heap.size w w') : Pok w0 w' M vT vC tv := ⟨h.1.below hb, fun k hk => by
  obtain ⟨h1, h2, h3⟩ := h.2 k hk
  exact ⟨h1, Nat.lt_of_lt_of_le h2 hb.size, h3⟩⟩
theorem Mv.hi (h : Mv w0 w6 w M vT vC L cm) : M + 1 ≤ w.heap.size := h.c11.lt
theorem Mv.below (h : Mv w0 w6 w M vT vC L cm) (hb : Below w.heap.size w w') : Mv w0 w6 w' M vT vC L cm :=
  ⟨h.b.trans (hb.mono h.b.size), h.hb.trans (hb.mono (by have := h.hi; omega)), h.lo, h.c11.below hb, h.tk.below tvR_kept hb, h.cm.below hb, fun k hk => ⟨(h.co k hk).1, Nat.lt_of_lt_of_le (h.co k hk).2 hb.size⟩, h.ne, fun tv htv => (h.pl tv htv).below hb⟩
theorem Mv.drN (h : Mv w0 w6 w M vT vC L cm) (k : Nat) : Mv w0 w6 (w.drewN k) M vT vC L cm := h.below (below_drewN (Below.refl _ _) k)
theorem Mv.dr (h : Mv w0 w6 w M vT vC L cm) : Mv w0 w6 w.drew M vT vC L cm := h.below (Below.refl _ _).drew
/-- One more token. -/
theorem Mv.addT {w5 : World} {v5 : Value} {o : Obj} {tv : Tk × Value} (h : Mv w0 w6 w M vT vC L cm) (htv : Pok w0 w M vT vC tv) (h5 : Gw TvR 41 2 w5 (M + 1) v5 (L ++ [tv])) (hg : (w.alloc o).grownBy w5 vT.ownBlock) (ho : v5.ownBlock = vT.ownBlock ∨ v5.ownBlock = some (w.heap.size + 1)) :
    Cell2 w5 M vT vC ∧ Mv w0 w6 (w5.setCell ⟨M, 0, none⟩ v5) M v5 vC (L ++ [tv]) cm ∧ (∀ tv, Pok w0 w M vT vC tv → Pok w0 (w5.setCell ⟨M, 0, none⟩ v5) M v5 vC tv) ∧ (∀ l, Gw intR 3 1 w (M + 1) vC l → Gw intR 3 1 (w5.setCell ⟨M, 0, none⟩ v5) (M + 1) vC l) := by
  have hh := h.hi
  have hlo := h.lo
  have hB : Below (M + 1) w w5 := ((Below.refl _ _).alloc hh o).grown hg (Nat.le_trans hh (le_alloc _ _)) h.tk.own
  have hs := h.c11.kept (hB.block _ (Nat.lt_succ_self _))
  have hz : (w5.setCell ⟨M, 0, none⟩ v5).heap.size = w5.heap.size := size_set _ _ _
  have e : ∀ g, g < w.heap.size → vT.ownBlock ≠ some g → g ≠ M → (w5.setCell ⟨M, 0, none⟩ v5).heap[g]? = w.heap[g]? := fun g hlt hne hM => (Below.heap_setCell _ _ _ _ hM).trans ((hg.block g (by rw [size_alloc]; omega) hne.symm).trans (heap_alloc_old w o hlt))
  have hn5 : ∀ g, g < w.heap.size → vT.ownBlock ≠ some g → v5.ownBlock ≠ some g := fun g hlt q => by
    rcases ho with ho | ho
    · rw [ho]; exact q
    · rw [ho]; intro q2; injection q2 with q2; omega
  have hP : ∀ tv, Pok w0 w M vT vC tv → Pok w0 (w5.setCell ⟨M, 0, none⟩ v5) M v5 vC tv := fun tv q => by
    refine ⟨q.1.keep fun k hk hlt => e k hlt (q.2 k hk).2.2.1 (by have := (q.2 k hk).1; omega), fun k hk => ?_⟩
    obtain ⟨q1, q2, q3, q4⟩ := q.2 k hk
    exact ⟨q1, by rw [hz]; exact Nat.lt_of_lt_of_le q2 hB.size, hn5 k q2 q3, q4⟩
  have hne2 : ∀ k, vC.ownBlock = some k → vT.ownBlock ≠ some k := fun k q1 q2 => h.ne k q2 q1
  refine ⟨hs, ⟨(h.b.trans (hB.mono (by omega))).setCell (p := ⟨M, 0, none⟩) (by show w0.heap.size ≤ M; omega) _, (h.hb.trans (hB.mono (by omega))).setCell (p := ⟨M, 0, none⟩) (Nat.le_refl _) _, hlo, ?_, h5.set tvR_kept (Nat.lt_succ_self _) _, h.cm.keep fun k hk hlt => e k hlt (hne2 k hk) (by have := (h.co k hk).1; omega), fun k hk => ⟨(h.co k hk).1, by rw [hz]; exact Nat.lt_of_lt_of_le (h.co k hk).2 hB.size⟩, fun k hk q => hn5 k (h.co k q).2 (hne2 k q) hk, fun y hy => ?_⟩, hP, fun l q => ?_⟩
  · obtain ⟨c0, c1, cf⟩ := hs
    exact ⟨cell_set c0, cell_set c1, fun i => by simp only [World.frozen?_setCell]; exact cf i⟩
  · rcases List.mem_append.mp hy with q | q
    · exact hP y (h.pl y q)
    · rw [List.mem_singleton] at q; subst q; exact hP _ htv
  · exact (q.off2 h.ne hg).set intR_kept (Nat.lt_succ_self _) _
/-- One more play. -/
theorem Mv.addC {w5 : World} {v5 : Value} {o : Obj} {l : List Nat} (h : Mv w0 w6 w M vT vC L cm) (hc : Gw intR 3 1 w (M + 1) vC cm) (h5 : Gw intR 3 1 w5 (M + 1) v5 l) (hg : (w.alloc o).grownBy w5 vC.ownBlock) (ho : v5.ownBlock = vC.ownBlock ∨ v5.ownBlock = some (w.heap.size + 1)) :
    Cell2 w5 M vT vC ∧ Mv w0 w6 (w5.setCell ⟨M, 1, none⟩ v5) M vT v5 L l ∧ (∀ tv, Pok w0 w M vT vC tv → Pok w0 (w5.setCell ⟨M, 1, none⟩ v5) M vT v5 tv) := by
  have hh := h.hi
  have hlo := h.lo
  have hB : Below (M + 1) w w5 := ((Below.refl _ _).alloc hh o).grown hg (Nat.le_trans hh (le_alloc _ _)) hc.own
  have hs := h.c11.kept (hB.block _ (Nat.lt_succ_self _))
  have hz : (w5.setCell ⟨M, 1, none⟩ v5).heap.size = w5.heap.size := size_set _ _ _
  have e : ∀ g, g < w.heap.size → vC.ownBlock ≠ some g → g ≠ M → (w5.setCell ⟨M, 1, none⟩ v5).heap[g]? = w.heap[g]? := fun g hlt hne hM => (Below.heap_setCell _ _ _ _ hM).trans ((hg.block g (by rw [size_alloc]; omega) hne.symm).trans (heap_alloc_old w o hlt))
  have hn5 : ∀ g, g < w.heap.size → vC.ownBlock ≠ some g → v5.ownBlock ≠ some g := fun g hlt q => by
    rcases ho with ho | ho
    · rw [ho]; exact q
    · rw [ho]; intro q2; injection q2 with q2; omega
  have hP : ∀ tv, Pok w0 w M vT vC tv → Pok w0 (w5.setCell ⟨M, 1, none⟩ v5) M vT v5 tv := fun tv q => by
    refine ⟨q.1.keep fun k hk hlt => e k hlt (q.2 k hk).2.2.2 (by have := (q.2 k hk).1; omega), fun k hk => ?_⟩
    obtain ⟨q1, q2, q3, q4⟩ := q.2 k hk
    exact ⟨q1, by rw [hz]; exact Nat.lt_of_lt_of_le q2 hB.size, q3, hn5 k q2 q4⟩
  have hT : Gw TvR 41 2 w5 (M + 1) vT L := by
    obtain ⟨xs, h1, h2⟩ := h.tk
    refine ⟨xs, (World.ownsRow.alloc h1 o).kept hg ?_, h2⟩
    cases hu : vT.ownBlock with
    | none => exact .inl rfl
    | some k => exact .inr fun q => h.ne k hu q.symm
  refine ⟨hs, ⟨(h.b.trans (hB.mono (by omega))).setCell (p := ⟨M, 1, none⟩) (by show w0.heap.size ≤ M; omega) _, (h.hb.trans (hB.mono (by omega))).setCell (p := ⟨M, 1, none⟩) (Nat.le_refl _) _, hlo, ?_, hT.set tvR_kept (Nat.lt_succ_self _) _, gw_iv (h5.set intR_kept (Nat.lt_succ_self _) _), fun k hk => ⟨h5.own k hk, by rw [hz]; by_cases q : k < w5.heap.size; exact q; exact absurd hk (h5.off (by omega))⟩, fun k hk => ?_, fun y hy => hP y (h.pl y hy)⟩, hP⟩
  · obtain ⟨c0, c1, cf⟩ := hs
    exact ⟨cell_set c0, cell_set c1, fun i => by simp only [World.frozen?_setCell]; exact cf i⟩
  · exact hn5 k (by by_cases q : k < w.heap.size; exact q; exact absurd hk (h.tk.off (by omega))) (h.ne k hk)
/-- One more that came. -/
theorem Mv.setC {gc q x n c : Nat} (h : Mv w0 w6 w M vT (.slice (some ⟨gc, 0, none⟩) n c) L cm) (hn : n = cm.length) (hq : q < cm.length) : Mv w0 w6 (w.setCell ⟨gc, q, none⟩ (.int .i64 (x : Nat))) M vT (.slice (some ⟨gc, 0, none⟩) n c) L (cm.set q x) ∧ (∀ tv, Pok w0 w M vT (.slice (some ⟨gc, 0, none⟩) n c) tv → Pok w0 (w.setCell ⟨gc, q, none⟩ (.int .i64 (x : Nat))) M vT (.slice (some ⟨gc, 0, none⟩) n c) tv) := by
  obtain ⟨g1, g2⟩ := h.co gc rfl
  have hlo := h.lo
  have hz : (w.setCell ⟨gc, q, none⟩ (.int .i64 (x : Nat))).heap.size = w.heap.size := size_set _ _ _
  have hP : ∀ tv, Pok w0 w M vT (.slice (some ⟨gc, 0, none⟩) n c) tv → Pok w0 (w.setCell ⟨gc, q, none⟩ (.int .i64 (x : Nat))) M vT (.slice (some ⟨gc, 0, none⟩) n c) tv := fun tv q => by
    refine ⟨q.1.set _ fun e => (q.2 _ e).2.2.2 rfl, fun k hk => ?_⟩
    rw [hz]; exact q.2 k hk
  refine ⟨⟨h.b.setCell (p := ⟨gc, q, none⟩) (by show w0.heap.size ≤ gc; omega) _, h.hb.setCell (p := ⟨gc, q, none⟩) (by show M ≤ gc; omega) _, hlo, h.c11.kept (Below.heap_setCell _ _ _ _ (by show M ≠ gc; omega)), ?_, ?_, fun k hk => by rw [hz]; exact h.co k hk, h.ne, fun tv htv => hP tv (h.pl tv htv)⟩, hP⟩
  · obtain ⟨xs, h1, h2⟩ := h.tk
    refine ⟨xs, ⟨h1.1, ?_⟩, h2⟩
    rcases h1.2 with e | ⟨g3, cap, cur, hv, hb, hh, rest⟩
    · exact .inl e
    · refine .inr ⟨g3, cap, cur, hv, hb, ?_, rest⟩
      rw [Below.heap_setCell _ _ _ _ (fun e => h.ne gc (by rw [hv]; show some g3 = some gc; rw [show g3 = gc from e]) rfl)]
      exact hh
  · obtain ⟨a, c2, e, k1, k2, k3⟩ := h.cm
    injection e with e1 e2 e3
    refine ⟨some ⟨gc, 0, none⟩, c, by rw [List.length_set, hn], by rw [List.length_set]; omega, by omega, .inr ⟨gc, rfl, fun j hj => ?_⟩⟩
    rw [List.length_set] at hj
    rcases k3 with ⟨k4, _⟩ | ⟨g5, k4, k5⟩
    · rw [← e1] at k4; cases k4
    · rw [← e1] at k4
      injection k4 with k4; injection k4 with k4 _ _
      subst k4
      rw [cell_set (k5 j hj), set_at hq]
      by_cases hqj : q = j
      · rw [if_pos hqj, if_pos hqj]
      · rw [if_neg hqj, if_neg hqj]
theorem tv_at {v : Value} (h : Gw TvR 41 2 w M v L) {i : Nat} (hi : i < L.length) : ∃ g c, v = .slice (some ⟨g, 0, none⟩) L.length c ∧ w.cell? ⟨g, i * 2, none⟩ = some (.int .i64 ((L[i]).1.pos : Nat)) ∧ w.cell? ⟨g, i * 2 + 1, none⟩ = some (L[i]).2 := by
  obtain ⟨xs, h1, h2⟩ := h
  have h12 := h1.2
  rcases h12 with ⟨rfl, h0⟩ | ⟨g, cap, cur, rfl, hb, hg, hnc, hcm, hcs, ht⟩
  · omega
  · have hxl := h1.1
    have e := h2 i hi
    refine ⟨g, cap, rfl, ?_, ?_⟩
    · rw [World.ownsRow.cellAt h1 _ (by omega)]; exact cells_at e (i := 0) (by omega)
    · rw [World.ownsRow.cellAt h1 _ (by omega)]; exact cells_at e (i := 1) (by omega)
/-- The game that Move tells. -/
theorem Mv.tell (h : Mv w0 w6 w M vT vC L cm) {R : Nat} (hR : R < M) (hR0 : w0.heap.size ≤ R) (u0 u1 : Value) : ∃ ta tc, vT = .slice ta L.length tc ∧ GmV ((w.setCell ⟨R, 0, none⟩ u0).setCell ⟨R, 1, none⟩ u1) ta L.length tc vC ⟨L.map Prod.fst, cm⟩ ∧ Below w0.heap.size w0 ((w.setCell ⟨R, 0, none⟩ u0).setCell ⟨R, 1, none⟩ u1) := by
  have hz : ((w.setCell ⟨R, 0, none⟩ u0).setCell ⟨R, 1, none⟩ u1).heap.size = w.heap.size := by rw [size_set, size_set]
  have e : ∀ g, g ≠ R → ((w.setCell ⟨R, 0, none⟩ u0).setCell ⟨R, 1, none⟩ u1).heap[g]? = w.heap[g]? := fun g hg => by rw [Below.heap_setCell _ _ _ _ hg, Below.heap_setCell _ _ _ _ hg]
  obtain ⟨ta, tc, rfl⟩ := h.tk.form
  have htk := h.tk
  have hcap : L.length ≤ tc ∧ tc ≤ 9223372036854775807 := by
    obtain ⟨xs, h1, _⟩ := htk
    rcases h1.2 with ⟨q1, q2⟩ | ⟨g, cap, cur, q1, _, _, q2, q3, _⟩
    · injection q1 with _ q3 q4; omega
    · injection q1 with _ _ q4
      rw [q4]; exact ⟨q2, q3⟩
  refine ⟨ta, tc, rfl, ⟨by simp, hcap.1, hcap.2, fun i hi => ?_, h.cm.keep fun k hk _ => e k (by have := (h.co k hk).1; omega)⟩, (h.b.setCell (p := ⟨R, 0, none⟩) hR0 _).setCell (p := ⟨R, 1, none⟩) hR0 _⟩
  have hi2 : i < L.length := by simpa using hi
  obtain ⟨g, c, e1, e2, e3⟩ := tv_at htk hi2
  injection e1 with e1 _ _
  have hgM : M < g := h.tk.own g (by rw [e1]; rfl)
  obtain ⟨p1, p2⟩ := h.pl _ (List.getElem_mem hi2)
  have eg : (L.map Prod.fst).getD i zeroTk = (L[i]).1 := by simp [List.getD_eq_getElem?_getD, hi2]
  show ∃ tb v, ta = some ⟨tb, 0, none⟩ ∧ _ = some (Value.int .i64 (((L.map Prod.fst).getD i zeroTk).pos : Nat)) ∧ _ ∧ Iv _ v ((L.map Prod.fst).getD i zeroTk).plays ∧ _
  rw [eg]
  refine ⟨g, (L[i]).2, e1, (cell_kept (e g (by omega)) _).trans e2, (cell_kept (e g (by omega)) _).trans e3, p1.keep fun k hk _ => e k (by have := (p2 k hk).1; omega), fun k hk => by rw [hz]; exact (p2 k hk).2.1⟩
end
end Go.Proofs.Ytlaiacjlphjmlaa
