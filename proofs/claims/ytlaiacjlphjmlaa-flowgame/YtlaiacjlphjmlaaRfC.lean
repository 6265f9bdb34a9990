/-
  The document's own rows of places, in memory.
-/
import Derived.Test.YtlaiacjlphjmlaaRfB
import Derived.Test.YtlaiacjlphjmlaaFwF
namespace Go.Proofs.Ytlaiacjlphjmlaa
open Go.RowKit
set_option linter.unusedVariables false

/-- Appending a number, with the row's place told. -/
theorem list_int2 {ops : Array Oper} {rest : List Oper} {o : Oper} {a : Act} {Q : Exit → Act → World → Prop} {wX : World} (hgd : o.guard = none) (s x : Operand)
    (ho : o.op = .call { callee := .builtin .append, args := #[s, x], argTypes := #[27, 27] }) {B g : Nat} {v : Value} {y : Nat} {ts : List Nat}
    (hl : Gw intR 3 1 wX B v ts) (hbase : B ≤ wX.heap.size) (hs : a.eval s = v) (hx : a.eval x = .slice (some ⟨g, 0, none⟩) 1 1) (hg : g = wX.heap.size) (hlen : ts.length ≤ 1048576)
    (h : ∀ v' w', Gw intR 3 1 w' B v' (ts ++ [y]) → (wX.alloc (.cells #[.int .i64 (y : Nat)] 3)).grownBy w' v.ownBlock → (v'.ownBlock = v.ownBlock ∨ v'.ownBlock = some (wX.heap.size + 1)) → wpList Try.prog ops Q rest (a.put o.dst v') w') : wpList Try.prog ops Q (o :: rest) a (wX.alloc (.cells #[.int .i64 (y : Nat)] 3)) := by
  subst hg
  obtain ⟨i, hi, hz, hsize, hby⟩ := info_parts infoI
  obtain ⟨xs, h1, h2⟩ := hl
  have hmul : (ts.length + 1) * 8 ≤ 1048577 * 100 := Nat.mul_le_mul (by omega) (by decide)
  obtain ⟨v', w', hr, q2, q3, q4, q5⟩ := run_append_own_at (P := Try.prog) (wX.alloc (.cells #[.int .i64 (y : Nat)] 3)) B 27 o.type 3 i _ 1 8 Try.underlying27 hi hz hsize hby rfl (by decide) v ts.length xs (World.ownsRow.alloc h1 _) ⟨wX.heap.size, 0, none⟩ 1 1 [.int .i64 (y : Nat)] rfl
    (fun j u hj => by rw [V.add_plain, Nat.zero_add, cell_of_row _ wX.heap.size j _ 3 (0, 0) (heap_alloc_new wX _)]; simpa using hj) (by simp [Value.oneCell']) (by unfold maxLen; omega) (by omega) (by rw [size_alloc]; omega)
  refine wpList_plain hgd fun K hK => ?_
  unfold Oper.wp execOp
  simp only [ho, resolve, invoke, builtin, Sem.run_bind, Sem.run_pure, Result.andThen_ok, List.map_toArray, List.map_cons, List.map_nil, hs, hx, hr]
  refine hK _ _ (h v' w' ?_ q3 (by rw [size_alloc] at q5; exact q5))
  exact Gw.add intR_kept (World.ownsRow.alloc h1 _) (fun j hj => intR_kept _ _ (fun g => B ≤ g ∧ v.ownBlock ≠ some g) _ _ _ (h2 j hj) fun g hg hlt => ⟨heap_alloc_old _ _ hlt, hg⟩) rfl rfl q2 q3 q5
/-- What may be said of a row of forks: it is none of the walk's other rows. -/
def Apart (w : World) (B R J : Nat) (ov v : Value) : Prop := ∀ k, v.ownBlock = some k → B ≤ k ∧ k < w.heap.size ∧ k ≠ R ∧ k ≠ J ∧ ov.ownBlock ≠ some k
def rowL (s : Fs) (i : Nat) : List Nat := if s.cm.getD i false = true then chain s i else []
/-- The document's walk in memory. -/
structure Rs (w : World) (B R J n : Nat) (ov : Value) (s : Fs) : Prop where
  rows : ∀ i, i < n → ∃ v, w.cell? ⟨R, i * 2, none⟩ = some (.bool (s.cm.getD i false)) ∧ w.cell? ⟨R, i * 2 + 1, none⟩ = some v ∧ Iv w v (rowL s i) ∧ Apart w B R J ov v
  rf : ∀ i, w.frozen? ⟨R, i, none⟩ = false
  jn : RowN w J s.jn
  od : Gw intR 3 1 w B ov s.od
  nR : ov.ownBlock ≠ some R
  nJ : ov.ownBlock ≠ some J
  ne : R ≠ J
  hR : B ≤ R
  hJ : B ≤ J
  lR : R < w.heap.size
  lJ : J < w.heap.size
section
variable {w w' : World} {B R J n : Nat} {ov : Value} {s : Fs}
theorem Apart.size {v : Value} (h : Apart w B R J ov v) (hs : w.heap.size ≤ w'.heap.size) : Apart w' B R J ov v := fun k hk => by
  obtain ⟨h1, h2, h3⟩ := h k hk
  exact ⟨h1, by omega, h3⟩
theorem Rs.hi (h : Rs w B R J n ov s) : B ≤ w.heap.size := Nat.le_of_lt (Nat.lt_of_le_of_lt h.hR h.lR)
theorem Rs.below (h : Rs w B R J n ov s) (hb : Below w.heap.size w w') : Rs w' B R J n ov s := by
  have e : ∀ g, g < w.heap.size → w'.heap[g]? = w.heap[g]? := hb.block
  refine ⟨fun i hi => ?_, fun i => (frozen_kept (e _ h.lR) _).trans (h.rf i), h.jn.kept (e _ h.lJ), h.od.below intR_kept hb, h.nR, h.nJ, h.ne, h.hR, h.hJ, Nat.lt_of_lt_of_le h.lR hb.size, Nat.lt_of_lt_of_le h.lJ hb.size⟩
  obtain ⟨v, h1, h2, h3, h4⟩ := h.rows i hi
  exact ⟨v, (cell_kept (e _ h.lR) _).trans h1, (cell_kept (e _ h.lR) _).trans h2, h3.below hb, h4.size hb.size⟩
theorem size_set (w : World) (p : Addr) (x : Value) : (w.setCell p x).heap.size = w.heap.size := by simp only [World.setCell]; simp
theorem Gw.at {v : Value} {l : List Nat} (h : Gw intR 3 1 w B v l) {g o : Nat} (x : Value) (hg : v.ownBlock ≠ some g) : Gw intR 3 1 (w.setCell ⟨g, o, none⟩ x) B v l := by
  obtain ⟨xs, h1, h2⟩ := h
  refine ⟨xs, ⟨h1.1, ?_⟩, h2⟩
  rcases h1.2 with q | ⟨g2, cap, cur, hv, hb, hh, rest⟩
  · exact .inl q
  · refine .inr ⟨g2, cap, cur, hv, hb, ?_, rest⟩
    rw [Below.heap_setCell _ _ _ _ (by rintro rfl; rw [hv] at hg; exact hg rfl)]
    exact hh
theorem Iv.set {v : Value} {l : List Nat} (h : Iv w v l) {g o : Nat} (x : Value) (hg : v.ownBlock ≠ some g) : Iv (w.setCell ⟨g, o, none⟩ x) v l := h.keep fun k hk _ => Below.heap_setCell _ _ _ _ (by rintro rfl; exact hg hk)
theorem Rs.join (h : Rs w B R J n ov s) (f p : Nat) : Rs (w.setCell ⟨J, f, none⟩ (.int .i64 (p : Nat))) B R J n ov ⟨s.fk, s.dp, s.jn.set f p, s.cm, s.od⟩ := by
  have eR := Below.heap_setCell w ⟨J, f, none⟩ (.int .i64 (p : Nat)) R h.ne
  refine ⟨fun i hi => ?_, fun i => (frozen_kept eR _).trans (h.rf i), h.jn.set f p, h.od.at _ h.nJ, h.nR, h.nJ, h.ne, h.hR, h.hJ, by rw [size_set]; exact h.lR, by rw [size_set]; exact h.lJ⟩
  obtain ⟨v, h1, h2, h3, h4⟩ := h.rows i hi
  exact ⟨v, (cell_kept eR _).trans h1, (cell_kept eR _).trans h2, h3.set _ fun q => (h4 _ q).2.2.2.1 rfl, h4.size (Nat.le_of_eq (size_set _ _ _).symm)⟩
/-- A place is come to: its row. -/
theorem Rs.row {ps : List Pl} {k kj p f : Nat} {v : Value} (h : Rs w B R J n ov s) (hF : Fin ps n k kj s) (hp : p < n) (hf : f < n) (hg : Good ps s f) (hd : deepS s f ≤ 16) (hc : s.cm.getD p false = false) (hv : Iv w v (inn s f)) (ha : Apart w B R J ov v) :
    Rs ((w.setCell ⟨R, p * 2, none⟩ (.bool true)).setCell ⟨R, p * 2 + 1, none⟩ v) B R J n ov ⟨s.fk.set p f, s.dp.set p (deepS s f), s.jn, s.cm.set p true, s.od⟩ := by
  obtain ⟨f1, f2, f3, f4⟩ := hF.enter hp hf hg hd hc
  have hcm : ∀ i, (s.cm.set p true).getD i false = if p = i then true else s.cm.getD i false := fun i => set_at (by rw [hF.ok.cm]; exact hp) true false i
  have hs2 : ((w.setCell ⟨R, p * 2, none⟩ (.bool true)).setCell ⟨R, p * 2 + 1, none⟩ v).heap.size = w.heap.size := by rw [size_set, size_set]
  have eo : ∀ g, g ≠ R → ((w.setCell ⟨R, p * 2, none⟩ (.bool true)).setCell ⟨R, p * 2 + 1, none⟩ v).heap[g]? = w.heap[g]? := fun g hgR => by rw [Below.heap_setCell _ _ _ _ hgR, Below.heap_setCell _ _ _ _ hgR]
  refine ⟨fun i hi => ?_, fun i => ?_, h.jn.kept (eo _ h.ne.symm), (h.od.at _ h.nR).at _ h.nR, h.nR, h.nJ, h.ne, h.hR, h.hJ, by rw [hs2]; exact h.lR, by rw [hs2]; exact h.lJ⟩
  · obtain ⟨u, h1, h2, h3, h4⟩ := h.rows i hi
    have c1 := cell_set (k := p * 2 + 1) (v := v) (cell_set (k := p * 2) (v := .bool true) h1)
    have c2 := cell_set (k := p * 2 + 1) (v := v) (cell_set (k := p * 2) (v := .bool true) h2)
    have kp : ∀ {u : Value} {l : List Nat}, Iv w u l → Apart w B R J ov u → Iv ((w.setCell ⟨R, p * 2, none⟩ (.bool true)).setCell ⟨R, p * 2 + 1, none⟩ v) u l := fun q1 q2 => (q1.set _ fun q => (q2 _ q).2.2.1 rfl).set _ fun q => (q2 _ q).2.2.1 rfl
    by_cases hpi : p = i
    · subst hpi
      rw [if_neg (by omega), if_pos rfl] at c1
      rw [if_pos rfl] at c2
      refine ⟨v, ?_, c2, ?_, ha.size (by rw [hs2]; exact Nat.le_refl _)⟩
      · rw [c1]; show some (Value.bool true) = some (Value.bool ((s.cm.set p true).getD p false)); rw [hcm, if_pos rfl]
      · have e : rowL ⟨s.fk.set p f, s.dp.set p (deepS s f), s.jn, s.cm.set p true, s.od⟩ p = inn s f := by
          unfold rowL
          show (if (s.cm.set p true).getD p false = true then chain (s.enter p f (deepS s f)) p else []) = _
          rw [hcm, if_pos rfl, if_pos rfl, chain_eq f1 f3, f4, inn_gro hF f2 hg]
        rw [e]; exact kp hv ha
    · rw [if_neg (by omega), if_neg (by omega)] at c1
      rw [if_neg (by omega), if_neg (by omega)] at c2
      refine ⟨u, ?_, c2, ?_, h4.size (by rw [hs2]; exact Nat.le_refl _)⟩
      · rw [c1]; show some (Value.bool (s.cm.getD i false)) = some (Value.bool ((s.cm.set p true).getD i false)); rw [hcm, if_neg hpi]
      · have e : rowL ⟨s.fk.set p f, s.dp.set p (deepS s f), s.jn, s.cm.set p true, s.od⟩ i = rowL s i := by
          unfold rowL
          show (if (s.cm.set p true).getD i false = true then chain (s.enter p f (deepS s f)) i else []) = _
          rw [hcm, if_neg hpi]
          by_cases q : s.cm.getD i false = true
          · rw [if_pos q, if_pos q, chain_gro hF f2 _ _ rfl q]
          · rw [if_neg q, if_neg q]
        rw [e]; exact kp h3 h4
  · simp only [World.frozen?_setCell]; exact h.rf i
/-- The order grows. -/
theorem Rs.add {w5 : World} {v5 : Value} {o : Obj} {l : List Nat} (h : Rs w B R J n ov s) (h5 : Gw intR 3 1 w5 B v5 l) (hg : (w.alloc o).grownBy w5 ov.ownBlock) (ho : v5.ownBlock = ov.ownBlock ∨ v5.ownBlock = some (w.heap.size + 1)) :
    Rs w5 B R J n v5 ⟨s.fk, s.dp, s.jn, s.cm, l⟩ ∧ Below B w w5 ∧ (∀ v, Apart w B R J ov v → Apart w5 B R J v5 v) ∧ (∀ v x, Apart w B R J ov v → Iv w v x → Iv w5 v x) := by
  have hh := h.hi
  have hB : Below B w w5 := ((Below.refl _ _).alloc hh _).grown hg (Nat.le_trans hh (le_alloc _ _)) h.od.own
  have e : ∀ g, g < w.heap.size → ov.ownBlock ≠ some g → w5.heap[g]? = w.heap[g]? := fun g hlt hne => (hg.block g (by rw [size_alloc]; omega) hne.symm).trans (heap_alloc_old w o hlt)
  have hne : ∀ g, g < w.heap.size → ov.ownBlock ≠ some g → v5.ownBlock ≠ some g := fun g hlt q => by
    rcases ho with ho | ho
    · rw [ho]; exact q
    · rw [ho]; intro q2; injection q2 with q2; omega
  have hA : ∀ v, Apart w B R J ov v → Apart w5 B R J v5 v := fun v q k hk => by
    obtain ⟨q1, q2, q3, q4, q5⟩ := q k hk
    exact ⟨q1, Nat.lt_of_lt_of_le q2 hB.size, q3, q4, hne k q2 q5⟩
  have hI : ∀ v x, Apart w B R J ov v → Iv w v x → Iv w5 v x := fun v x q q2 => q2.keep fun k hk hlt => e k hlt (q k hk).2.2.2.2
  refine ⟨⟨fun i hi => ?_, fun i => (frozen_kept (e _ h.lR h.nR) _).trans (h.rf i), h.jn.kept (e _ h.lJ h.nJ), h5, hne _ h.lR h.nR, hne _ h.lJ h.nJ, h.ne, h.hR, h.hJ, Nat.lt_of_lt_of_le h.lR hB.size, Nat.lt_of_lt_of_le h.lJ hB.size⟩, hB, hA, hI⟩
  obtain ⟨v, h1, h2, h3, h4⟩ := h.rows i hi
  exact ⟨v, (cell_kept (e _ h.lR h.nR) _).trans h1, (cell_kept (e _ h.lR h.nR) _).trans h2, hI v _ h4 h3, hA v h4⟩
end
end Go.Proofs.Ytlaiacjlphjmlaa
