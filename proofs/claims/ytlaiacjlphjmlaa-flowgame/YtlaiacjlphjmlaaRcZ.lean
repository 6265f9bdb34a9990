/-
  The program's reader: what it keeps; refuse, readByte: contracts.
-/
import Derived.Test.YtlaiacjlphjmlaaChD
import Derived.Test.YtlaiacjlphjmlaaVZb
import Derived.Maps.AppendAt
import Derived.Deep.RegionHeld3
import Derived.Deep.RegionLaw
namespace Go.Proofs.Ytlaiacjlphjmlaa
section
open Go.RowKit
set_option linter.unusedVariables false

theorem readsV_kept {w w' : World} {a : Option Addr} {n c : Nat} {l : BB} (h : V.ReadsV w (.slice a n c) l) (hk : l ≠ [] → ∀ x, a = some x → w'.heap[x.block]? = w.heap[x.block]?) : V.ReadsV w' (.slice a n c) l := by
  obtain ⟨a', cap, h1, h2, h3, h4, h5, h6⟩ := h
  simp only [Value.slice.injEq] at h1
  obtain ⟨rfl, rfl, rfl⟩ := h1
  refine ⟨_, _, rfl, h2, h3, h4, h5, ?_⟩
  rcases h6 with h | ⟨b, off, ha, hc⟩
  · exact .inl h
  · by_cases h0 : l = []
    · exact .inl h0
    · refine .inr ⟨b, off, ha, fun i hi => (cell_kept (hk h0 ⟨b, off, none⟩ ha) _).trans (hc i hi)⟩
/-- The reader at rb: what is left, and the first error. -/
structure Rst (w : World) (rb : Nat) (s : Sst) : Prop where
  rest : ∃ a c, w.cell? ⟨rb, 0, none⟩ = some (.slice a s.rest.length c) ∧ V.ReadsV w (.slice a s.rest.length c) s.rest ∧ (s.rest ≠ [] → ∀ x, a = some x → x.block < rb)
  err : w.cell? ⟨rb, 1, none⟩ = some (.int .i64 s.err)
  free : ∀ i, w.frozen? ⟨rb, i, none⟩ = false
  nil : s.err ≠ 0 → s.rest = []
theorem Rst.lt {w : World} {rb : Nat} {s : Sst} (h : Rst w rb s) : rb < w.heap.size := World.block_lt_of_cell? w _ h.err
theorem Rst.kept {w w' : World} {rb : Nat} {s : Sst} (h : Rst w rb s) (hk : ∀ k, k ≤ rb → w'.heap[k]? = w.heap[k]?) : Rst w' rb s := by
  obtain ⟨a, c, h1, h2, h3⟩ := h.rest
  have e := hk rb (Nat.le_refl _)
  exact ⟨⟨a, c, (cell_kept e _).trans h1, readsV_kept h2 fun h0 x hx => hk _ (Nat.le_of_lt (h3 h0 x hx)), h3⟩, (cell_kept e _).trans h.err, fun i => by have := h.free i; simp only [World.frozen?] at this ⊢; rw [e]; exact this, h.nil⟩
theorem Rst.below {w w' : World} {rb B : Nat} {s : Sst} (h : Rst w rb s) (hb : Below B w w') (hB : rb < B) : Rst w' rb s := h.kept fun k hk => hb.block k (by omega)
theorem Rst.alloc {w : World} {rb : Nat} {s : Sst} (h : Rst w rb s) (o : Obj) : Rst (w.alloc o) rb s := h.below ((Below.refl _ _).alloc (Nat.le_refl _) o) h.lt
theorem Rst.set {w : World} {rb : Nat} {s : Sst} (h : Rst w rb s) {p : Addr} (hp : rb < p.block) (x : Value) : Rst (w.setCell p x) rb s := h.kept fun k hk => Below.heap_setCell _ _ _ _ (by omega)
theorem cell_set {w : World} {M j k : Nat} {v u : Value} (h : w.cell? ⟨M, j, none⟩ = some u) : (w.setCell ⟨M, k, none⟩ v).cell? ⟨M, j, none⟩ = some (if k = j then v else u) := by
  by_cases e : k = j
  · subst e
    rw [if_pos rfl]
    exact World.cell?_setCell_same' _ _ _ (by rw [h]; rfl)
  · rw [if_neg e]
    have hne : (⟨M, k, none⟩ : Addr) ≠ ⟨M, j, none⟩ := by intro h; injection h with _ h _; exact e h
    exact (World.cell?_setCell_other w _ _ v hne).trans h
/-- Another rest is kept. -/
theorem Rst.rested {w : World} {rb : Nat} {s : Sst} (h : Rst w rb s) {a : Option Addr} {n c : Nat} {l : BB} (h1 : V.ReadsV w (.slice a n c) l) (h2 : l ≠ [] → ∀ x, a = some x → x.block < rb) (h3 : s.err ≠ 0 → l = []) : Rst (w.setCell ⟨rb, 0, none⟩ (.slice a n c)) rb ⟨s.err, l⟩ := by
  obtain ⟨a0, c0, k1, k2, k3⟩ := h.rest
  have hn : n = l.length := by obtain ⟨_, _, e, _⟩ := h1; simp only [Value.slice.injEq] at e; exact e.2.1
  subst hn
  refine ⟨⟨a, c, by rw [cell_set k1]; rfl, readsV_kept h1 fun h0 x hx => Below.heap_setCell _ _ _ _ (by have := h2 h0 x hx; show x.block ≠ rb; omega), h2⟩, by rw [cell_set h.err]; rfl, fun i => by simp only [World.frozen?_setCell]; exact h.free i, h3⟩
theorem Rst.refused {w : World} {rb : Nat} {s : Sst} (h : Rst w rb s) {e : Nat} : Rst ((w.setCell ⟨rb, 1, none⟩ (.int .i64 e)).setCell ⟨rb, 0, none⟩ (.slice none 0 0)) rb ⟨e, []⟩ := by
  obtain ⟨a0, c0, k1, k2, k3⟩ := h.rest
  refine ⟨⟨none, 0, by rw [cell_set (cell_set k1)]; rfl, V.ReadsV.nil _, fun _ x hx => by cases hx⟩, by rw [cell_set (cell_set h.err)]; rfl, fun i => by simp only [World.frozen?_setCell]; exact h.free i, fun _ => rfl⟩
/-- The function itself, handed on. -/
def fn (n : Nat) : Value := .func (.func n) #[] #[]
theorem after_zero {α : Type} {f : Rds α} {s s' : Sst} {x : α} {r : BB} (h : f s.rest = .ok (x, r)) (he : s.err = 0) (hs : s' = ⟨0, r⟩) : After f s x s' := by
  unfold After
  rw [if_neg (by simp [he]), h]
  exact ⟨rfl, hs⟩
theorem after_bad {α : Type} {f : Rds α} {s s' : Sst} {x : α} {e : Nat} (h : f s.rest = .error e) (hz : e ≠ 0) (hn : s.err ≠ 0 → s.rest = []) (hs : s' = refuseS e ⟨s.err, []⟩) : After f s x s' := by
  unfold After
  by_cases he : s.err ≠ 0
  · rw [if_pos he, hs]
    unfold refuseS
    rw [if_neg (by rintro ⟨_, q⟩; exact he q)]
    have := hn he
    obtain ⟨a, b⟩ := s
    simp only at this ⊢
    rw [this]
  · rw [if_neg he, h, hs]
    have : s.err = 0 := by simpa using he
    unfold refuseS
    rw [if_pos ⟨hz, this⟩]
    exact ⟨hz, rfl⟩
theorem ok_zero {α : Type} {f : Rds α} {s : Sst} {x : α} {r : BB} (h : f s.rest = .ok (x, r)) (h0 : ∀ y, f [] ≠ .ok y) (hn : s.err ≠ 0 → s.rest = []) : s.err = 0 := by
  by_cases he : s.err = 0
  · exact he
  · rw [hn he] at h
    exact absurd h (h0 _)
end
section
open Go.RowKit Go.Maps
set_option linter.unusedVariables false

theorem tre_depth {w : World} {P : Nat → Prop} {v : Nat → Value → Prop} {ts : List Tr} : ∀ n, (∀ i, i < n → ∃ u, v i u ∧ Tre w P u (ts.getD i zeroT)) → ∃ d, ∀ i, i < n → ∃ u, v i u ∧ TrV w P d u (ts.getD i zeroT)
  | 0, _ => ⟨0, fun i hi => by omega⟩
  | n + 1, h => by
    obtain ⟨d, hd⟩ := tre_depth n (fun i hi => h i (by omega))
    obtain ⟨u, hu, e, he⟩ := h n (by omega)
    refine ⟨max d e, fun i hi => ?_⟩
    rcases Nat.lt_succ_iff_lt_or_eq.1 hi with hi | rfl
    · obtain ⟨x, hx, hx2⟩ := hd i hi
      exact ⟨x, hx, hx2.mono (Nat.le_max_left _ _)⟩
    · exact ⟨u, hu, he.mono (Nat.le_max_right _ _)⟩
/-- What some cells read as. -/
abbrev Rdr (α : Type) := World → (Nat → Prop) → List Value → α → Prop
def treeR : Rdr Tr := fun w P cs t => ∃ u0 u1 u2 u3, cs = [u0, u1, u2, u3] ∧ Tre w P (.agg #[u0, u1, u2, u3]) t
def flowR : Rdr Fl := fun w P cs f => ∃ a c, cs = [.int .i64 f.to, .slice a f.ifs.length c] ∧ ExsV w P (.slice a f.ifs.length c) f.ifs ∧ InR f.to
def placeR : Rdr Pl := fun w P cs p => ∃ aa ca ao co, cs = [.int .i64 p.kind, .string (ba p.name), .int .i64 p.n, .slice aa p.arg.length ca, .slice ao p.out.length co] ∧ PlV w P p aa ca ao co
def KeptR {α : Type} (R : Rdr α) : Prop := ∀ (w w' : World) (P Q : Nat → Prop) (cs : List Value) (x : α), R w P cs x → (∀ g, P g → g < w.heap.size → w'.heap[g]? = w.heap[g]? ∧ Q g) → R w' Q cs x
theorem treeR_kept : KeptR treeR := fun _ _ _ _ _ _ ⟨u0, u1, u2, u3, h1, h2⟩ hk => ⟨u0, u1, u2, u3, h1, h2.kept hk⟩
theorem flowR_kept : KeptR flowR := fun _ _ _ _ _ _ ⟨a, c, h1, h2, h3⟩ hk => ⟨a, c, h1, h2.kept hk, h3⟩
theorem placeR_kept : KeptR placeR := fun _ _ _ _ _ _ ⟨aa, ca, ao, co, h1, h2⟩ hk => ⟨aa, ca, ao, co, h1, h2.kept hk⟩
/-- A row that grows: of blocks from B on. -/
def Gw {α : Type} (R : Rdr α) (el sz : Nat) (w : World) (B : Nat) (v : Value) (ts : List α) : Prop := ∃ xs, w.ownsRow B el sz v ts.length xs ∧ ∀ j (h : j < ts.length), R w (fun g => B ≤ g ∧ v.ownBlock ≠ some g) ((xs.drop (j * sz)).take sz) ts[j]
theorem Gw.nil {α : Type} (R : Rdr α) (el sz : Nat) (w : World) (B : Nat) : Gw R el sz w B (.slice none 0 0) [] := ⟨[], World.ownsRow_nil _ _ _ _, fun j hj => by simp at hj⟩
theorem own_kept {w w' : World} {B el sz n : Nat} {v : Value} {xs : List Value} (h : w.ownsRow B el sz v n xs) (hk : ∀ g, B ≤ g → g < w.heap.size → w'.heap[g]? = w.heap[g]?) : w'.ownsRow B el sz v n xs := by
  refine ⟨h.1, ?_⟩
  rcases h.2 with hn | ⟨g, cap, cur, hv, hg, hh, rest⟩
  · exact .inl hn
  · exact .inr ⟨g, cap, cur, hv, hg, by rw [hk g hg (Array.getElem?_eq_some_iff.1 hh).1]; exact hh, rest⟩
theorem Gw.kept {α : Type} {R : Rdr α} (hR : KeptR R) {el sz : Nat} {w w' : World} {B : Nat} {v : Value} {ts : List α} (h : Gw R el sz w B v ts) (hk : ∀ g, B ≤ g → g < w.heap.size → w'.heap[g]? = w.heap[g]?) : Gw R el sz w' B v ts := by
  obtain ⟨xs, h1, h2⟩ := h
  exact ⟨xs, own_kept h1 hk, fun j hj => hR _ _ _ _ _ _ (h2 j hj) fun g hg hlt => ⟨hk g hg.1 hlt, hg⟩⟩
theorem Gw.fr {α : Type} {R : Rdr α} (hR : KeptR R) {el sz : Nat} {w w' : World} {B rb : Nat} {v : Value} {ts : List α} (h : Gw R el sz w B v ts) (hf : Fr rb w w') (hB : rb < B) : Gw R el sz w' B v ts := h.kept hR fun g hg hlt => hf.block g hlt (by omega)
theorem Gw.set {α : Type} {R : Rdr α} (hR : KeptR R) {el sz : Nat} {w : World} {B : Nat} {v : Value} {ts : List α} (h : Gw R el sz w B v ts) {p : Addr} (hp : p.block < B) (x : Value) : Gw R el sz (w.setCell p x) B v ts := h.kept hR fun g hg hlt => Below.heap_setCell _ _ _ _ (by omega)
theorem Gw.below {α : Type} {R : Rdr α} (hR : KeptR R) {el sz : Nat} {w w' : World} {B : Nat} {v : Value} {ts : List α} (h : Gw R el sz w B v ts) (hf : Below w.heap.size w w') : Gw R el sz w' B v ts := h.kept hR fun g hg hlt => hf.block g hlt
theorem Gw.form {α : Type} {R : Rdr α} {el sz : Nat} {w : World} {B : Nat} {v : Value} {ts : List α} (h : Gw R el sz w B v ts) : ∃ a c, v = .slice a ts.length c := by
  obtain ⟨xs, h1, _⟩ := h
  rcases h1.2 with ⟨rfl, h0⟩ | ⟨g, cap, cur, rfl, _⟩
  · exact ⟨_, _, by rw [h0]⟩
  · exact ⟨_, _, rfl⟩
theorem Gw.form1 {α : Type} {R : Rdr α} {el sz : Nat} {w : World} {B : Nat} {v : Value} {ts : List α} {y : α} (h : Gw R el sz w B v (ts ++ [y])) : ∃ a c, v = .slice a (ts.length + 1) c := by
  obtain ⟨a, c, e⟩ := h.form
  exact ⟨a, c, by rw [e, List.length_append]; rfl⟩
theorem Gw.off {α : Type} {R : Rdr α} {el sz : Nat} {w : World} {B : Nat} {v : Value} {ts : List α} (h : Gw R el sz w B v ts) {g : Nat} (hg : w.heap.size ≤ g) : v.ownBlock ≠ some g := by
  obtain ⟨xs, h1, _⟩ := h
  intro e
  have := (World.ownsRow.lt h1 g e).2
  omega
theorem Gw.own {α : Type} {R : Rdr α} {el sz : Nat} {w : World} {B : Nat} {v : Value} {ts : List α} (h : Gw R el sz w B v ts) : ∀ k, v.ownBlock = some k → B ≤ k := by
  obtain ⟨xs, h1, _⟩ := h
  exact fun k hk => (World.ownsRow.lt h1 k hk).1
theorem Gw.add {α : Type} {R : Rdr α} (hR : KeptR R) {el sz : Nat} {w w' : World} {B : Nat} {v v' : Value} {ts : List α} {y : α} {news : List Value} {xs : List Value} (hx : w.ownsRow B el sz v ts.length xs)
    (hk : ∀ j (h : j < ts.length), R w (fun g => B ≤ g ∧ v.ownBlock ≠ some g) ((xs.drop (j * sz)).take sz) ts[j]) (hnl : news.length = sz)
    (hy : R w (fun g => B ≤ g ∧ v.ownBlock ≠ some g) news y) (hn : w'.ownsRow B el sz v' (ts.length + 1) (xs ++ news)) (hg : w.grownBy w' v.ownBlock) (ho : v'.ownBlock = v.ownBlock ∨ v'.ownBlock = some w.heap.size) : Gw R el sz w' B v' (ts ++ [y]) := by
  have key : ∀ {cs : List Value} {t : α}, R w (fun g => B ≤ g ∧ v.ownBlock ≠ some g) cs t → R w' (fun g => B ≤ g ∧ v'.ownBlock ≠ some g) cs t := fun h => hR _ _ _ _ _ _ h fun g hg2 hlt => ⟨hg.block g hlt (fun e => hg2.2 e.symm), hg2.1, by
    rcases ho with e | e
    · rw [e]; exact hg2.2
    · rw [e]; intro h; injection h with h; omega⟩
  have hl := hx.1
  refine ⟨xs ++ news, by rw [List.length_append]; exact hn, fun j hj => ?_⟩
  rw [List.length_append] at hj
  by_cases hlt : j < ts.length
  · have hm : j * sz + sz ≤ xs.length := by rw [hl, ← Nat.succ_mul]; exact Nat.mul_le_mul_right _ hlt
    rw [List.getElem_append_left hlt, List.drop_append_of_le_length (by omega), List.take_append_of_le_length (by rw [List.length_drop]; omega)]
    exact key (hk j hlt)
  · obtain rfl : j = ts.length := by simp at hj; omega
    rw [List.getElem_append_right (Nat.le_refl _), ← hl, List.drop_left, ← hnl, List.take_length]
    simp only [Nat.sub_self, List.getElem_cons_zero]
    exact key hy
/-- 'append(v, x)' of one as a step of a region that draws its order. -/
theorem step_gw {α : Type} {R : Rdr α} (hR : KeptR R) (sl el sz bt : Nat) (z : Value) {ops : Array Oper} {o : Oper} {a : Act} {K : Act → World → Prop} {Q : Exit → Act → World → Prop} {E : Prop} {wX : World} (hgd : o.guard = none) (s x : Operand)
    (ho : o.op = .call { callee := .builtin .append, args := #[s, x], argTypes := #[sl, sl] }) (hu : Try.prog.underlying sl = some (.slice el)) (hinfo : (Try.prog.info? el).map (fun i => (i.zero, i.size, i.bytes)) = some (some z, sz, bt)) (hzc : z.cells.size = sz) (hsz : 0 < sz) (hbt : bt ≤ 100)
    {B g : Nat} {v : Value} {cs : Array Value} {ts : List α} {y : α} (hl : Gw R el sz wX B v ts) (hcs : cs.toList.length = sz) (hone : ∀ u ∈ cs.toList, u.oneCell' = true) (hy : R wX (fun g => B ≤ g ∧ v.ownBlock ≠ some g) cs.toList y) (hbase : B ≤ wX.heap.size) (hs : a.eval s = v) (hx : a.eval x = .slice (some ⟨g, 0, none⟩) 1 1) (hg : g = wX.heap.size) (hlen : ts.length ≤ 1048576)
    (h : ∀ v' w', Gw R el sz w' B v' (ts ++ [y]) → (wX.alloc (.cells cs el)).grownBy w' v.ownBlock → K (a.put o.dst v') w') : if Region.wanted o (yielded ops a.tmps) = true then Oper.wp Try.prog o a (wX.alloc (.cells cs el)) K Q else E := by
  subst hg
  obtain ⟨i, hi, hz, hsize, hby⟩ := info_parts hinfo
  obtain ⟨xs, h1, h2⟩ := hl
  rw [if_pos (show Region.wanted o (yielded ops a.tmps) = true by simp [Region.wanted, hgd])]
  have hmul : (ts.length + 1) * bt ≤ 1048577 * 100 := Nat.mul_le_mul (by omega) hbt
  obtain ⟨v', w', hr, q2, q3, q4, q5⟩ := run_append_own_at (P := Try.prog) (wX.alloc (.cells cs el)) B sl o.type el i z sz bt hu hi hz hsize hby hzc hsz v ts.length xs (World.ownsRow.alloc h1 _) ⟨wX.heap.size, 0, none⟩ 1 1 cs.toList (by rw [hcs, Nat.one_mul])
    (fun j u hj => by rw [V.add_plain, Nat.zero_add, cell_of_row _ wX.heap.size j _ el (0, 0) (heap_alloc_new wX _)]; simpa using hj) hone (by unfold maxLen; omega) (by omega) (by rw [size_alloc]; omega)
  unfold Oper.wp execOp
  simp only [ho, resolve, invoke, builtin, Sem.run_bind, Sem.run_pure, Result.andThen_ok, List.map_toArray, List.map_cons, List.map_nil, hs, hx, hr]
  refine h v' w' ?_ q3
  exact Gw.add hR (World.ownsRow.alloc h1 _) (fun j hj => hR _ _ _ _ _ _ (h2 j hj) fun g hg hlt => ⟨heap_alloc_old _ _ hlt, hg⟩) hcs (hR _ _ _ _ _ _ hy fun g hg hlt => ⟨heap_alloc_old _ _ hlt, hg⟩) q2 q3 q5
theorem cells_at {xs ys : List Value} {k n : Nat} (h : (xs.drop k).take n = ys) {i : Nat} (hi : i < n) : xs[k + i]? = ys[i]? := by
  rw [← h, List.getElem?_take, if_pos hi, List.getElem?_drop]
theorem Gw.tree {w : World} {B : Nat} {v : Value} {ts : List Tr} (h : Gw treeR 69 4 w B v ts) (hl : ts.length ≤ 9223372036854775807) {k n : Int} (hk : InR k) (hn : InR n) {nm : Bs} (hm : nm.length ≤ 9223372036854775807) : Tre w (fun g => B ≤ g) (.agg #[.int .i64 k, .int .i64 n, .string (ba nm), v]) ⟨k, n, nm, ts⟩ := by
  obtain ⟨xs, h1, h2⟩ := h
  rcases h1.2 with ⟨rfl, h0⟩ | ⟨g, cap, cur, rfl, hb, hg, hnc, hcm, hcs, ht⟩
  · have h0 : ts = [] := List.length_eq_zero_iff.1 h0
    subst h0
    exact Tre.leaf w _ hk hn nm hm
  · obtain ⟨d, hd⟩ := tre_depth (w := w) (P := fun g => B ≤ g) (ts := ts) (v := fun i u => ∃ u0 u1 u2 u3, u = .agg #[u0, u1, u2, u3] ∧ w.cell? ⟨g, i * 4, none⟩ = some u0 ∧ w.cell? ⟨g, i * 4 + 1, none⟩ = some u1 ∧ w.cell? ⟨g, i * 4 + 2, none⟩ = some u2 ∧ w.cell? ⟨g, i * 4 + 3, none⟩ = some u3) ts.length (fun i hi => by
      obtain ⟨u0, u1, u2, u3, e, kt⟩ := h2 i hi
      have hxl := h1.1
      refine ⟨_, ⟨u0, u1, u2, u3, rfl, ?_, ?_, ?_, ?_⟩, by rw [show ts.getD i zeroT = ts[i] by rw [List.getD_eq_getElem?_getD, List.getElem?_eq_getElem hi]; rfl]; exact kt.sub fun g hg => hg.1⟩
      · rw [World.ownsRow.cellAt h1 _ (by omega)]; exact cells_at e (i := 0) (by omega)
      · rw [World.ownsRow.cellAt h1 _ (by omega)]; exact cells_at e (i := 1) (by omega)
      · rw [World.ownsRow.cellAt h1 _ (by omega)]; exact cells_at e (i := 2) (by omega)
      · rw [World.ownsRow.cellAt h1 _ (by omega)]; exact cells_at e (i := 3) (by omega))
    refine ⟨d + 1, some ⟨g, 0, none⟩, cap, rfl, hnc, hk, hn, hm, hl, fun i hi => ?_⟩
    obtain ⟨u, ⟨u0, u1, u2, u3, rfl, h0, h1, h2, h3⟩, ht⟩ := hd i hi
    exact ⟨g, 0, u0, u1, u2, u3, rfl, hb, by rw [Nat.zero_add]; exact h0, by rw [Nat.zero_add]; exact h1, by rw [Nat.zero_add]; exact h2, by rw [Nat.zero_add]; exact h3, ht⟩
theorem Gw.flows {w : World} {B : Nat} {v : Value} {ts : List Fl} (h : Gw flowR 39 2 w B v ts) (hl : ts.length ≤ 9223372036854775807) : FlsV w (fun g => B ≤ g) v ts := by
  obtain ⟨xs, h1, h2⟩ := h
  rcases h1.2 with ⟨rfl, h0⟩ | ⟨g, cap, cur, rfl, hb, hg, hnc, hcm, hcs, ht⟩
  · have h0 : ts = [] := List.length_eq_zero_iff.1 h0
    subst h0
    exact FlsV.nil w _
  · refine ⟨_, _, rfl, hnc, hl, fun i hi => ?_⟩
    obtain ⟨a, c, e, kt, ki⟩ := h2 i hi
    have hxl := h1.1
    refine ⟨g, 0, a, c, rfl, hb, ?_⟩
    rw [getD_memF hi, Nat.zero_add]
    refine ⟨?_, ?_, kt.kept (kept_sub fun g hg => hg.1), ki⟩
    · rw [World.ownsRow.cellAt h1 _ (by omega)]; exact cells_at e (i := 0) (by omega)
    · rw [World.ownsRow.cellAt h1 _ (by omega)]; exact cells_at e (i := 1) (by omega)
theorem Gw.places {w : World} {B : Nat} {v : Value} {ts : List Pl} (h : Gw placeR 37 5 w B v ts) (hl : ts.length ≤ 9223372036854775807) : PlsV w (fun g => B ≤ g) v ts := by
  obtain ⟨xs, h1, h2⟩ := h
  rcases h1.2 with ⟨rfl, h0⟩ | ⟨g, cap, cur, rfl, hb, hg, hnc, hcm, hcs, ht⟩
  · have h0 : ts = [] := List.length_eq_zero_iff.1 h0
    subst h0
    exact PlsV.nil w _
  · refine ⟨_, _, rfl, hnc, hl, fun i hi => ?_⟩
    obtain ⟨aa, ca, ao, co, e, kt⟩ := h2 i hi
    have hxl := h1.1
    refine ⟨g, 0, aa, ca, ao, co, rfl, hb, ?_⟩
    rw [getD_memP hi, Nat.zero_add]
    refine ⟨?_, ?_, ?_, ?_, ?_, kt.kept (kept_sub fun g hg => hg.1)⟩
    · rw [World.ownsRow.cellAt h1 _ (by omega)]; exact cells_at e (i := 0) (by omega)
    · rw [World.ownsRow.cellAt h1 _ (by omega)]; exact cells_at e (i := 1) (by omega)
    · rw [World.ownsRow.cellAt h1 _ (by omega)]; exact cells_at e (i := 2) (by omega)
    · rw [World.ownsRow.cellAt h1 _ (by omega)]; exact cells_at e (i := 3) (by omega)
    · rw [World.ownsRow.cellAt h1 _ (by omega)]; exact cells_at e (i := 4) (by omega)
theorem infoE : (Try.prog.info? 69).map (fun i => (i.zero, i.size, i.bytes)) = some (some (.agg #[.int .i64 0, .int .i64 0, .string ⟨#[]⟩, .slice none 0 0]), 4, 56) := by kernel_rfl
theorem infoF : (Try.prog.info? 39).map (fun i => (i.zero, i.size, i.bytes)) = some (some (.agg #[.int .i64 0, .slice none 0 0]), 2, 32) := by kernel_rfl
theorem infoP : (Try.prog.info? 37).map (fun i => (i.zero, i.size, i.bytes)) = some (some (.agg #[.int .i64 0, .string ⟨#[]⟩, .int .i64 0, .slice none 0 0, .slice none 0 0]), 5, 80) := by kernel_rfl
/-- 'append(v, x)' of a tree. -/
theorem step_tree {ops : Array Oper} {o : Oper} {a : Act} {K : Act → World → Prop} {Q : Exit → Act → World → Prop} {E : Prop} {wX : World} (hgd : o.guard = none) (s x : Operand)
    (ho : o.op = .call { callee := .builtin .append, args := #[s, x], argTypes := #[34, 34] }) {B g : Nat} {v : Value} {rk rn : Int} {rs : ByteArray} {ra : Option Addr} {rl rc : Nat} {ts : List Tr} {y : Tr}
    (hl : Gw treeR 69 4 wX B v ts) (hy : Tre wX (fun g => B ≤ g ∧ v.ownBlock ≠ some g) (.agg #[.int .i64 rk, .int .i64 rn, .string rs, .slice ra rl rc]) y) (hbase : B ≤ wX.heap.size) (hs : a.eval s = v) (hx : a.eval x = .slice (some ⟨g, 0, none⟩) 1 1) (hg : g = wX.heap.size) (hlen : ts.length ≤ 1048576)
    (h : ∀ v' w', Gw treeR 69 4 w' B v' (ts ++ [y]) → (wX.alloc (.cells #[.int .i64 rk, .int .i64 rn, .string rs, .slice ra rl rc] 69)).grownBy w' v.ownBlock → K (a.put o.dst v') w') : if Region.wanted o (yielded ops a.tmps) = true then Oper.wp Try.prog o a (wX.alloc (.cells #[.int .i64 rk, .int .i64 rn, .string rs, .slice ra rl rc] 69)) K Q else E :=
  step_gw treeR_kept 34 69 4 56 _ hgd s x ho Try.underlying34 infoE rfl (by decide) (by decide) hl rfl (by simp [Value.oneCell']) (show treeR wX _ _ y from Exists.intro _ (Exists.intro _ (Exists.intro _ (Exists.intro _ (And.intro rfl hy))))) hbase hs hx hg hlen h
theorem step_flow {ops : Array Oper} {o : Oper} {a : Act} {K : Act → World → Prop} {Q : Exit → Act → World → Prop} {E : Prop} {wX : World} (hgd : o.guard = none) (s x : Operand)
    (ho : o.op = .call { callee := .builtin .append, args := #[s, x], argTypes := #[35, 35] }) {B g : Nat} {v : Value} {rk : Int} {ra : Option Addr} {rl rc : Nat} {ts : List Fl} {y : Fl}
    (hl : Gw flowR 39 2 wX B v ts) (hy : flowR wX (fun g => B ≤ g ∧ v.ownBlock ≠ some g) [.int .i64 rk, .slice ra rl rc] y) (hbase : B ≤ wX.heap.size) (hs : a.eval s = v) (hx : a.eval x = .slice (some ⟨g, 0, none⟩) 1 1) (hg : g = wX.heap.size) (hlen : ts.length ≤ 1048576)
    (h : ∀ v' w', Gw flowR 39 2 w' B v' (ts ++ [y]) → (wX.alloc (.cells #[.int .i64 rk, .slice ra rl rc] 39)).grownBy w' v.ownBlock → K (a.put o.dst v') w') : if Region.wanted o (yielded ops a.tmps) = true then Oper.wp Try.prog o a (wX.alloc (.cells #[.int .i64 rk, .slice ra rl rc] 39)) K Q else E :=
  step_gw flowR_kept 35 39 2 32 _ hgd s x ho Try.underlying35 infoF rfl (by decide) (by decide) hl rfl (by simp [Value.oneCell']) hy hbase hs hx hg hlen h
theorem step_place {ops : Array Oper} {o : Oper} {a : Act} {K : Act → World → Prop} {Q : Exit → Act → World → Prop} {E : Prop} {wX : World} (hgd : o.guard = none) (s x : Operand)
    (ho : o.op = .call { callee := .builtin .append, args := #[s, x], argTypes := #[22, 22] }) {B g : Nat} {v : Value} {rk rn : Int} {rs : ByteArray} {ra : Option Addr} {rl rc : Nat} {qa : Option Addr} {ql qc : Nat} {ts : List Pl} {y : Pl}
    (hl : Gw placeR 37 5 wX B v ts) (hy : placeR wX (fun g => B ≤ g ∧ v.ownBlock ≠ some g) [.int .i64 rk, .string rs, .int .i64 rn, .slice ra rl rc, .slice qa ql qc] y) (hbase : B ≤ wX.heap.size) (hs : a.eval s = v) (hx : a.eval x = .slice (some ⟨g, 0, none⟩) 1 1) (hg : g = wX.heap.size) (hlen : ts.length ≤ 1048576)
    (h : ∀ v' w', Gw placeR 37 5 w' B v' (ts ++ [y]) → (wX.alloc (.cells #[.int .i64 rk, .string rs, .int .i64 rn, .slice ra rl rc, .slice qa ql qc] 37)).grownBy w' v.ownBlock → K (a.put o.dst v') w') : if Region.wanted o (yielded ops a.tmps) = true then Oper.wp Try.prog o a (wX.alloc (.cells #[.int .i64 rk, .string rs, .int .i64 rn, .slice ra rl rc, .slice qa ql qc] 37)) K Q else E :=
  step_gw placeR_kept 22 37 5 80 _ hgd s x ho Try.underlying22 infoP rfl (by decide) (by decide) hl rfl (by simp [Value.oneCell']) hy hbase hs hx hg hlen h
end
section
open Go.RowKit
open V.Pack (rd unzz)
set_option linter.unusedVariables false

/-- The next byte, and what is then. -/
def hdS (s : Sst) : Nat := match s.rest with
  | [] => 0
  | b :: _ => b.toNat
def tlS (s : Sst) : Sst := match s.rest with
  | [] => refuseS 5 ⟨s.err, []⟩
  | _ :: r => ⟨0, r⟩
theorem hd_ok {s : Sst} {x : Nat} {r : BB} (h : byteE s.rest = .ok (x, r)) (he : s.err = 0) : x = hdS s ∧ (⟨0, r⟩ : Sst) = tlS s := by
  unfold hdS tlS
  cases hr : s.rest with
  | nil => rw [hr] at h; cases h
  | cons b t => rw [hr] at h; cases h; exact ⟨rfl, rfl⟩
theorem hd_bad {s : Sst} {e : Nat} (h : byteE s.rest = .error e) : 0 = hdS s ∧ refuseS e ⟨s.err, []⟩ = tlS s := by
  unfold hdS tlS
  cases hr : s.rest with
  | nil => rw [hr] at h; cases h; exact ⟨rfl, rfl⟩
  | cons b t => rw [hr] at h; cases h
theorem hd_lt (s : Sst) : hdS s < 256 := by
  unfold hdS
  split
  · decide
  · exact BitVec.isLt _
theorem hd_err {s : Sst} (h : s.err ≠ 0 → s.rest = []) (he : s.err ≠ 0) : hdS s = 0 ∧ tlS s = s := by
  have e := h he
  unfold hdS tlS
  rw [e]
  refine ⟨rfl, ?_⟩
  show refuseS 5 ⟨s.err, []⟩ = s
  unfold refuseS
  rw [if_neg (by rintro ⟨_, q⟩; exact he q)]
  obtain ⟨a, b⟩ := s
  simp only at e
  rw [e]
theorem near_lt {a ra : Option Addr} {n c rn rc rb : Nat} (hn : V.Near (.slice a n c) (.slice ra rn rc)) (h : ∀ x, a = some x → x.block < rb) : ∀ x, ra = some x → x.block < rb := fun x hx => hn (fun b => b < rb) (fun a' n' c' e => by simp only [Value.slice.injEq] at e; exact h a' e.1) x rn rc (by rw [hx])
theorem uE_rd {l r : BB} {n : Nat} (h : uE l = .ok (n, r)) : ∃ k, rd 0 l = .inl k ∧ V.Pack.val (l.take k) = n ∧ l.drop k = r := by
  unfold uE at h
  rcases hk : rd 0 l with k | q
  · rw [hk] at h
    simp only [Except.ok.injEq, Prod.mk.injEq] at h
    exact ⟨k, rfl, h.1, h.2⟩
  · rw [hk] at h; cases h
theorem uE_bad {l : BB} {e : Nat} (h : uE l = .error e) : (∀ k, rd 0 l ≠ .inl k) ∧ V.code (rd 0 l) = (e : Int) := by
  unfold uE at h
  rcases hk : rd 0 l with k | q
  · rw [hk] at h; cases h
  · rw [hk] at h
    cases h
    refine ⟨(fun k e => by cases e), ?_⟩
    cases q <;> rfl
theorem intE_rd {l r : BB} {n : Int} (h : intE l = .ok (n, r)) : ∃ k, rd 0 l = .inl k ∧ unzz (V.Pack.val (l.take k)) = n ∧ l.drop k = r := by
  obtain ⟨u, m, h1, h2⟩ := bind_ok h
  cases h2
  obtain ⟨k, a, b, c⟩ := uE_rd h1
  exact ⟨k, a, by rw [b], c⟩
theorem intE_bad {l : BB} {e : Nat} (h : intE l = .error e) : (∀ k, rd 0 l ≠ .inl k) ∧ V.code (rd 0 l) = (e : Int) := by
  rcases bind_err h with h | ⟨a, m, h1, h2⟩
  · exact uE_bad h
  · cases h2
theorem intE_in {l r : BB} {n : Int} (h : intE l = .ok (n, r)) : InR n := by
  obtain ⟨u, m, h1, h2⟩ := bind_ok h
  cases h2
  have := (uE_ok h1).2
  unfold InR unzz
  split <;> omega
theorem textE_rd {l r s : BB} (h : textE l = .ok (s, r)) : ∃ k, rd 0 l = .inl k ∧ V.Pack.val (l.take k) ≤ l.length - k ∧ (l.drop k).take (V.Pack.val (l.take k)) = s ∧ l.drop (k + V.Pack.val (l.take k)) = r := by
  obtain ⟨u, m, h1, h2⟩ := bind_ok h
  obtain ⟨k, a, b, c⟩ := uE_rd h1
  unfold takeE at h2
  split at h2
  · rename_i hm
    cases h2
    subst c
    subst b
    exact ⟨k, a, by rw [List.length_drop] at hm; exact hm, rfl, by rw [List.drop_drop]⟩
  · cases h2
theorem textE_bad {l : BB} {e : Nat} (h : textE l = .error e) : ((∀ k, rd 0 l ≠ .inl k) ∧ V.code (rd 0 l) = (e : Int)) ∨ (e = 5 ∧ ∃ k, rd 0 l = .inl k ∧ l.length - k < V.Pack.val (l.take k)) := by
  rcases bind_err h with h | ⟨a, m, h1, h2⟩
  · exact .inl (uE_bad h)
  · obtain ⟨k, p, b, c⟩ := uE_rd h1
    unfold takeE at h2
    split at h2
    · cases h2
    · rename_i hm
      cases h2
      subst c
      rw [List.length_drop] at hm
      exact .inr ⟨rfl, k, p, by omega⟩
theorem after_byte {s : Sst} (h : s.err ≠ 0 → s.rest = []) : After byteE s (hdS s) (tlS s) := by
  by_cases he : s.err = 0
  · cases hf : byteE s.rest with
    | ok xr =>
      obtain ⟨x, r⟩ := xr
      obtain ⟨e1, e2⟩ := hd_ok hf he
      rw [← e1, ← e2]
      exact after_zero hf he rfl
    | error e =>
      obtain ⟨e1, e2⟩ := hd_bad hf
      exact after_bad hf (NZ.byte _ _ hf) h e2.symm
  · obtain ⟨e1, e2⟩ := hd_err h he
    rw [e2]
    unfold After
    rw [if_pos he]
theorem reads_len {w : World} {v : Value} {l : BB} (h : V.ReadsV w v l) : l.length ≤ 9223372036854775807 := by
  obtain ⟨_, _, _, _, _, _, hq⟩ := h
  have := hq.1
  rw [V.maxLen_eq] at this
  exact this
theorem str_bn (l : BB) : V.str l = ba (bn l) := rfl
end
section
open Go.RowKit
set_option linter.unusedVariables false

theorem four_other {w : World} {M o g : Nat} {u0 u1 u2 u3 : Value} (hg : g ≠ M) : ((((w.setCell ⟨M, o, none⟩ u0).setCell ⟨M, o + 1, none⟩ u1).setCell ⟨M, o + 2, none⟩ u2).setCell ⟨M, o + 3, none⟩ u3).heap[g]? = w.heap[g]? := by
  rw [Below.heap_setCell _ _ _ _ hg, Below.heap_setCell _ _ _ _ hg, Below.heap_setCell _ _ _ _ hg, Below.heap_setCell _ _ _ _ hg]
theorem four_rst {w : World} {rb M o : Nat} {s : Sst} {u0 u1 u2 u3 : Value} (h : Rst w rb s) (hM : rb < M) : Rst ((((w.setCell ⟨M, o, none⟩ u0).setCell ⟨M, o + 1, none⟩ u1).setCell ⟨M, o + 2, none⟩ u2).setCell ⟨M, o + 3, none⟩ u3) rb s := h.kept fun k hk => four_other (by omega)
theorem four_fr {rb : Nat} {a w : World} {M o : Nat} {u0 u1 u2 u3 : Value} (h : Fr rb a w) (hM : a.heap.size ≤ M) : Fr rb a ((((w.setCell ⟨M, o, none⟩ u0).setCell ⟨M, o + 1, none⟩ u1).setCell ⟨M, o + 2, none⟩ u2).setCell ⟨M, o + 3, none⟩ u3) :=
  (((h.setCell (p := ⟨M, o, none⟩) (.inr hM) _).setCell (p := ⟨M, o + 1, none⟩) (.inr hM) _).setCell (p := ⟨M, o + 2, none⟩) (.inr hM) _).setCell (p := ⟨M, o + 3, none⟩) (.inr hM) _
theorem four_tre {P : Nat → Prop} {w : World} {M o : Nat} {u0 u1 u2 u3 v : Value} {t : Tr} (h : Tre w P v t) (hM : ¬ P M) : Tre ((((w.setCell ⟨M, o, none⟩ u0).setCell ⟨M, o + 1, none⟩ u1).setCell ⟨M, o + 2, none⟩ u2).setCell ⟨M, o + 3, none⟩ u3) P v t :=
  h.kept fun g hg _ => ⟨four_other (fun e => hM (e ▸ hg)), hg⟩
theorem tre_zero (w : World) (P : Nat → Prop) : Tre w P (.agg #[.int .i64 0, .int .i64 0, .string ⟨#[]⟩, .slice none 0 0]) zeroT := Tre.leaf w P inR_zero inR_zero [] (by decide)
/-- A tree that was read. -/
def NodeP (f : Rds Tr) (rb : Nat) (s : Sst) (w : World) (e : Ending) (w' : World) : Prop := ∃ t s' k n str a l c, e = .returned (.agg #[.int .i64 k, .int .i64 n, .string str, .slice a l c]) ∧ Tre w' (fun g => w.heap.size ≤ g) (.agg #[.int .i64 k, .int .i64 n, .string str, .slice a l c]) t ∧ After f s t s' ∧ Rst w' rb s' ∧ Fr rb w w'
theorem tl_nil {s : Sst} : (tlS s).err ≠ 0 → (tlS s).rest = [] := by
  unfold tlS
  split
  · intro h
    unfold refuseS at h ⊢
    split
    · rfl
    · rfl
  · intro h; exact absurd rfl h
theorem refuse_nil {e : Nat} {s : Sst} (h : s.err ≠ 0 → s.rest = []) : (refuseS e s).err ≠ 0 → (refuseS e s).rest = [] := by
  unfold refuseS
  split
  · intro _; rfl
  · exact h
end
section
open Go.RowKit
set_option linter.unusedVariables false

theorem Cell4.put {w : World} {b : Nat} {v0 v1 v2 v3 : Value} (h : Cell4 w b v0 v1 v2 v3) (j : Nat) (x : Value) : Cell4 (w.setCell ⟨b, j, none⟩ x) b (if j = 0 then x else v0) (if j = 1 then x else v1) (if j = 2 then x else v2) (if j = 3 then x else v3) :=
  ⟨cell_set h.c0, cell_set h.c1, cell_set h.c2, cell_set h.c3, fun i => by simp only [World.frozen?_setCell]; exact h.free i⟩
theorem Cell4.far {w : World} {b : Nat} {v0 v1 v2 v3 : Value} (h : Cell4 w b v0 v1 v2 v3) {p : Addr} (hp : b ≠ p.block) (x : Value) : Cell4 (w.setCell p x) b v0 v1 v2 v3 := by
  have e := Below.heap_setCell w p x b hp
  exact ⟨(cell_kept e _).trans h.c0, (cell_kept e _).trans h.c1, (cell_kept e _).trans h.c2, (cell_kept e _).trans h.c3, fun i => by simp only [World.frozen?_setCell]; exact h.free i⟩
theorem Cell4.under {w w' : World} {B b : Nat} {v0 v1 v2 v3 : Value} (h : Cell4 w b v0 v1 v2 v3) (hb : b < B) (hf : Below B w w') : Cell4 w' b v0 v1 v2 v3 :=
  have e := hf.block b hb
  ⟨(cell_kept e _).trans h.c0, (cell_kept e _).trans h.c1, (cell_kept e _).trans h.c2, (cell_kept e _).trans h.c3, fun i => by have := h.free i; simp only [World.frozen?] at this ⊢; rw [e]; exact this⟩
/-- What lies where while the kids are read. -/
structure Nd (w wr : World) (rb xb : Nat) (s : Sst) (k n str kv : Value) (ts : List Tr) : Prop where
  fr : Fr rb w wr
  rst : Rst wr rb s
  rbl : rb < w.heap.size
  r : Cell4 wr w.heap.size (.int .i64 0) (.int .i64 0) (.string ⟨#[]⟩) (.slice none 0 0)
  lo : w.heap.size < xb
  x : Cell4 wr xb k n str kv
  kin : Gw treeR 69 4 wr (xb + 1) kv ts
theorem Nd.size {w wr : World} {rb xb : Nat} {s : Sst} {k n str kv : Value} {ts : List Tr} (h : Nd w wr rb xb s k n str kv ts) : xb + 1 ≤ wr.heap.size := h.x.lt
theorem Nd.then {w wr w3 : World} {rb xb : Nat} {s s3 : Sst} {k n str kv : Value} {ts : List Tr} (h : Nd w wr rb xb s k n str kv ts) (hr : Rst w3 rb s3) (hf : Fr rb wr w3) : Nd w w3 rb xb s3 k n str kv ts :=
  have h1 := h.rbl
  have h2 := h.lo
  ⟨h.fr.trans hf, hr, h.rbl, h.r.fr hf (by omega), h.lo, h.x.fr hf (by omega), h.kin.fr treeR_kept hf (by omega)⟩
theorem Nd.drew {w wr : World} {rb xb : Nat} {s : Sst} {k n str kv : Value} {ts : List Tr} (h : Nd w wr rb xb s k n str kv ts) : Nd w wr.drew rb xb s k n str kv ts :=
  h.then (h.rst.kept fun _ _ => rfl) (.of_below (Below.drew (Below.refl _ _)))
theorem Nd.next {w w3 w5 : World} {rb xb : Nat} {s : Sst} {k n str kv v5 : Value} {ts ts' : List Tr} {o : Obj} (h : Nd w w3 rb xb s k n str kv ts) (h5 : Gw treeR 69 4 w5 (xb + 1) v5 ts') (hg : (w3.alloc o).grownBy w5 kv.ownBlock) :
    Cell4 w5 xb k n str kv ∧ Nd w (w5.setCell ⟨xb, 3, none⟩ v5) rb xb s k n str v5 ts' := by
  have hs := h.size
  have h1 := h.rbl
  have h2 := h.lo
  have hB : Below (xb + 1) w3 w5 := ((Below.refl _ _).alloc hs _).grown hg (Nat.le_trans hs (le_alloc _ _)) h.kin.own
  have hy := h.x.under (Nat.lt_succ_self _) hB
  refine ⟨hy, ?_, (h.rst.below hB (by omega)).set (p := ⟨xb, 3, none⟩) (by show rb < xb; omega) _, h.rbl, ?_, h.lo, hy.put 3 _, h5.set treeR_kept (by show xb < xb + 1; omega) _⟩
  · have hf : Fr rb w w5 := ⟨hB.os.trans h.fr.os, hB.tape.trans h.fr.tape, hB.output.trans h.fr.output, Nat.le_trans h.fr.size hB.size, fun q hq hne => (hB.block q (by omega)).trans (h.fr.block q hq hne)⟩
    exact hf.setCell (p := ⟨xb, 3, none⟩) (.inr (by show w.heap.size ≤ xb; omega)) _
  · exact (h.r.under (by omega) hB).far (by show w.heap.size ≠ xb; omega) _
theorem leaf_next {w w2 w3 : World} {rb : Nat} {s2 : Sst} {m : Value} (h2 : Fr rb w w2) (z2 : Cell4 w2 w.heap.size (.int .i64 0) (.int .i64 0) (.string ⟨#[]⟩) (.slice none 0 0)) (q2 : Rst w3 rb s2) (q3 : Fr rb (w2.alloc (.cells #[m, .int .i64 0, .string ⟨#[]⟩, .slice none 0 0] 69)) w3) (hlt : rb < w.heap.size) (j : Nat) (x : Value) {W : World} (hW : W = w3.setCell ⟨w2.heap.size, j, none⟩ x) :
    Rst W rb s2 ∧ Fr rb w W ∧ Cell4 W w.heap.size (.int .i64 0) (.int .i64 0) (.string ⟨#[]⟩) (.slice none 0 0) ∧ Cell4 W w2.heap.size (if j = 0 then x else m) (if j = 1 then x else .int .i64 0) (if j = 2 then x else .string ⟨#[]⟩) (if j = 3 then x else .slice none 0 0) := by
  have hl2 : w.heap.size < w2.heap.size := z2.lt
  have y := (Cell4.new w2 m (.int .i64 0) (.string ⟨#[]⟩) (.slice none 0 0) 69).fr q3 (by omega)
  subst hW
  exact ⟨q2.set (p := ⟨w2.heap.size, j, none⟩) (by show rb < w2.heap.size; omega) _, ((h2.alloc _).trans q3).setCell (p := ⟨w2.heap.size, j, none⟩) (.inr (Nat.le_of_lt hl2)) _, ((z2.alloc _).fr q3 (by omega)).far (by show w.heap.size ≠ w2.heap.size; omega) _, y.put j _⟩
end
section
open Go.RowKit
set_option linter.unusedVariables false

theorem after_check {t : Tr} {s : Sst} : After (if checkM 16 t ≠ 0 then failE (checkM 16 t) else pureE t) s t (refuseS (checkM 16 t) s) := by
  by_cases h : checkM 16 t = 0
  · rw [if_neg (by simpa using h), h]
    have e : refuseS 0 s = s := by unfold refuseS; rw [if_neg (by simp)]
    rw [e]
    exact After.pure _ _
  · rw [if_pos h]
    exact After.fail h _ _
/-- Trees, none or one, that were read. -/
def TreesP (rb : Nat) (s : Sst) (w : World) (e : Ending) (w' : World) : Prop := ∃ ts s' a c, e = .returned (.slice a ts.length c) ∧ ExsV w' (fun g => w.heap.size ≤ g) (.slice a ts.length c) ts ∧ ts.length ≤ 1 ∧ After maybeE s ts s' ∧ Rst w' rb s' ∧ Fr rb w w'
end
section
section
open Go.RowKit
set_option linter.unusedVariables false

theorem Cell2.fr {w w' : World} {rb b : Nat} {v0 v1 : Value} (h : Cell2 w b v0 v1) (hf : Fr rb w w') (hb : b ≠ rb) : Cell2 w' b v0 v1 := h.kept (hf.block b h.lt hb)
theorem Cell5.fr {w w' : World} {rb b : Nat} {v0 v1 v2 v3 v4 : Value} (h : Cell5 w b v0 v1 v2 v3 v4) (hf : Fr rb w w') (hb : b ≠ rb) : Cell5 w' b v0 v1 v2 v3 v4 := h.kept (hf.block b h.lt hb)
theorem Cell2.put {w : World} {b : Nat} {v0 v1 : Value} (h : Cell2 w b v0 v1) (j : Nat) (x : Value) : Cell2 (w.setCell ⟨b, j, none⟩ x) b (if j = 0 then x else v0) (if j = 1 then x else v1) :=
  ⟨cell_set h.c0, cell_set h.c1, fun i => by simp only [World.frozen?_setCell]; exact h.free i⟩
theorem Cell5.put {w : World} {b : Nat} {v0 v1 v2 v3 v4 : Value} (h : Cell5 w b v0 v1 v2 v3 v4) (j : Nat) (x : Value) : Cell5 (w.setCell ⟨b, j, none⟩ x) b (if j = 0 then x else v0) (if j = 1 then x else v1) (if j = 2 then x else v2) (if j = 3 then x else v3) (if j = 4 then x else v4) :=
  ⟨cell_set h.c0, cell_set h.c1, cell_set h.c2, cell_set h.c3, cell_set h.c4, fun i => by simp only [World.frozen?_setCell]; exact h.free i⟩
theorem Cell2.far {w : World} {b : Nat} {v0 v1 : Value} (h : Cell2 w b v0 v1) {p : Addr} (hp : b ≠ p.block) (x : Value) : Cell2 (w.setCell p x) b v0 v1 := h.kept (Below.heap_setCell w p x b hp)
theorem Cell5.far {w : World} {b : Nat} {v0 v1 v2 v3 v4 : Value} (h : Cell5 w b v0 v1 v2 v3 v4) {p : Addr} (hp : b ≠ p.block) (x : Value) : Cell5 (w.setCell p x) b v0 v1 v2 v3 v4 := h.kept (Below.heap_setCell w p x b hp)
theorem Cell2.alloc {w : World} {b : Nat} {v0 v1 : Value} (h : Cell2 w b v0 v1) (o : Obj) : Cell2 (w.alloc o) b v0 v1 := h.below ((Below.refl _ _).alloc (Nat.le_refl _) o)
theorem Cell5.alloc {w : World} {b : Nat} {v0 v1 v2 v3 v4 : Value} (h : Cell5 w b v0 v1 v2 v3 v4) (o : Obj) : Cell5 (w.alloc o) b v0 v1 v2 v3 v4 := h.below ((Below.refl _ _).alloc (Nat.le_refl _) o)
theorem Cell2.second (w : World) (o : Obj) (v0 v1 : Value) (t : TypeId) : Cell2 ((w.alloc o).alloc (.cells #[v0, v1] t)) (w.heap.size + 1) v0 v1 := by
  have := Cell2.new (w.alloc o) v0 v1 t
  rw [size_alloc] at this
  exact this
theorem Cell5.second (w : World) (o : Obj) (v0 v1 v2 v3 v4 : Value) (t : TypeId) : Cell5 ((w.alloc o).alloc (.cells #[v0, v1, v2, v3, v4] t)) (w.heap.size + 1) v0 v1 v2 v3 v4 := by
  have := Cell5.new (w.alloc o) v0 v1 v2 v3 v4 t
  rw [size_alloc] at this
  exact this
theorem two_other {w : World} {M o g : Nat} {u0 u1 : Value} (hg : g ≠ M) : ((w.setCell ⟨M, o, none⟩ u0).setCell ⟨M, o + 1, none⟩ u1).heap[g]? = w.heap[g]? := by
  rw [Below.heap_setCell _ _ _ _ hg, Below.heap_setCell _ _ _ _ hg]
theorem two_rst {w : World} {rb M o : Nat} {s : Sst} {u0 u1 : Value} (h : Rst w rb s) (hM : rb < M) : Rst ((w.setCell ⟨M, o, none⟩ u0).setCell ⟨M, o + 1, none⟩ u1) rb s := h.kept fun k hk => two_other (by omega)
theorem two_fr {rb : Nat} {a w : World} {M o : Nat} {u0 u1 : Value} (h : Fr rb a w) (hM : a.heap.size ≤ M) : Fr rb a ((w.setCell ⟨M, o, none⟩ u0).setCell ⟨M, o + 1, none⟩ u1) :=
  (h.setCell (p := ⟨M, o, none⟩) (.inr hM) _).setCell (p := ⟨M, o + 1, none⟩) (.inr hM) _
theorem five_other {w : World} {M o g : Nat} {u0 u1 u2 u3 u4 : Value} (hg : g ≠ M) : (((((w.setCell ⟨M, o, none⟩ u0).setCell ⟨M, o + 1, none⟩ u1).setCell ⟨M, o + 2, none⟩ u2).setCell ⟨M, o + 3, none⟩ u3).setCell ⟨M, o + 4, none⟩ u4).heap[g]? = w.heap[g]? := by
  rw [Below.heap_setCell _ _ _ _ hg, Below.heap_setCell _ _ _ _ hg, Below.heap_setCell _ _ _ _ hg, Below.heap_setCell _ _ _ _ hg, Below.heap_setCell _ _ _ _ hg]
theorem five_rst {w : World} {rb M o : Nat} {s : Sst} {u0 u1 u2 u3 u4 : Value} (h : Rst w rb s) (hM : rb < M) : Rst (((((w.setCell ⟨M, o, none⟩ u0).setCell ⟨M, o + 1, none⟩ u1).setCell ⟨M, o + 2, none⟩ u2).setCell ⟨M, o + 3, none⟩ u3).setCell ⟨M, o + 4, none⟩ u4) rb s := h.kept fun k hk => five_other (by omega)
theorem five_fr {rb : Nat} {a w : World} {M o : Nat} {u0 u1 u2 u3 u4 : Value} (h : Fr rb a w) (hM : a.heap.size ≤ M) : Fr rb a (((((w.setCell ⟨M, o, none⟩ u0).setCell ⟨M, o + 1, none⟩ u1).setCell ⟨M, o + 2, none⟩ u2).setCell ⟨M, o + 3, none⟩ u3).setCell ⟨M, o + 4, none⟩ u4) :=
  ((((h.setCell (p := ⟨M, o, none⟩) (.inr hM) _).setCell (p := ⟨M, o + 1, none⟩) (.inr hM) _).setCell (p := ⟨M, o + 2, none⟩) (.inr hM) _).setCell (p := ⟨M, o + 3, none⟩) (.inr hM) _).setCell (p := ⟨M, o + 4, none⟩) (.inr hM) _
/-- A flow that was read. -/
def FlowP (rb : Nat) (s : Sst) (w : World) (e : Ending) (w' : World) : Prop := ∃ f s' to a l c, e = .returned (.agg #[.int .i64 to, .slice a l c]) ∧ flowR w' (fun g => w.heap.size ≤ g) [.int .i64 to, .slice a l c] f ∧ After flowE s f s' ∧ Rst w' rb s' ∧ Fr rb w w'
/-- Two blocks of two cells: the result's, and the flow's. -/
structure F2 (w wr : World) (rb : Nat) (s : Sst) (v0 v1 : Value) : Prop where
  fr : Fr rb w wr
  rst : Rst wr rb s
  r : Cell2 wr w.heap.size (.int .i64 0) (.slice none 0 0)
  f : Cell2 wr (w.heap.size + 1) v0 v1
theorem F2.then {w wr w3 : World} {rb : Nat} {s s3 : Sst} {v0 v1 : Value} (h : F2 w wr rb s v0 v1) (hl : rb < w.heap.size) (hr : Rst w3 rb s3) (hf : Fr rb wr w3) : F2 w w3 rb s3 v0 v1 := ⟨h.fr.trans hf, hr, h.r.fr hf (by omega), h.f.fr hf (by omega)⟩
theorem F2.set {w wr : World} {rb : Nat} {s : Sst} {v0 v1 : Value} (h : F2 w wr rb s v0 v1) (hl : rb < w.heap.size) (j : Nat) (x : Value) : F2 w (wr.setCell ⟨w.heap.size + 1, j, none⟩ x) rb s (if j = 0 then x else v0) (if j = 1 then x else v1) :=
  ⟨h.fr.setCell (p := ⟨w.heap.size + 1, j, none⟩) (.inr (Nat.le_succ _)) _, h.rst.set (p := ⟨w.heap.size + 1, j, none⟩) (by show rb < w.heap.size + 1; omega) _, h.r.far (by show w.heap.size ≠ w.heap.size + 1; omega) _, h.f.put j x⟩
end
section
open Go.RowKit
set_option linter.unusedVariables false

/-- A place that was read. -/
def PlaceP (rb : Nat) (s : Sst) (w : World) (e : Ending) (w' : World) : Prop := ∃ p s' k str n a l c qa ql qc, e = .returned (.agg #[.int .i64 k, .string str, .int .i64 n, .slice a l c, .slice qa ql qc]) ∧ placeR w' (fun g => w.heap.size ≤ g) [.int .i64 k, .string str, .int .i64 n, .slice a l c, .slice qa ql qc] p ∧ After placeE s p s' ∧ Rst w' rb s' ∧ Fr rb w w'
/-- Two blocks of five cells: the result's, and the place's. -/
structure P5 (w wr : World) (rb : Nat) (s : Sst) (v0 v1 v2 v3 v4 : Value) : Prop where
  fr : Fr rb w wr
  rst : Rst wr rb s
  r : Cell5 wr w.heap.size (.int .i64 0) (.string ⟨#[]⟩) (.int .i64 0) (.slice none 0 0) (.slice none 0 0)
  p : Cell5 wr (w.heap.size + 1) v0 v1 v2 v3 v4
theorem P5.then {w wr w3 : World} {rb : Nat} {s s3 : Sst} {v0 v1 v2 v3 v4 : Value} (h : P5 w wr rb s v0 v1 v2 v3 v4) (hl : rb < w.heap.size) (hr : Rst w3 rb s3) (hf : Fr rb wr w3) : P5 w w3 rb s3 v0 v1 v2 v3 v4 := ⟨h.fr.trans hf, hr, h.r.fr hf (by omega), h.p.fr hf (by omega)⟩
theorem P5.set {w wr : World} {rb : Nat} {s : Sst} {v0 v1 v2 v3 v4 : Value} (h : P5 w wr rb s v0 v1 v2 v3 v4) (hl : rb < w.heap.size) (j : Nat) (x : Value) : P5 w (wr.setCell ⟨w.heap.size + 1, j, none⟩ x) rb s (if j = 0 then x else v0) (if j = 1 then x else v1) (if j = 2 then x else v2) (if j = 3 then x else v3) (if j = 4 then x else v4) :=
  ⟨h.fr.setCell (p := ⟨w.heap.size + 1, j, none⟩) (.inr (Nat.le_succ _)) _, h.rst.set (p := ⟨w.heap.size + 1, j, none⟩) (by show rb < w.heap.size + 1; omega) _, h.r.far (by show w.heap.size ≠ w.heap.size + 1; omega) _, h.p.put j x⟩
/-- What lies where while the flows are read. -/
structure Pw (w wr : World) (rb B : Nat) (s : Sst) (k str n : Value) (ar : List Tr) (aa : Option Addr) (ca : Nat) (kv : Value) (ts : List Fl) : Prop where
  five : P5 w wr rb s k str n (.slice aa ar.length ca) kv
  lo : w.heap.size + 2 ≤ B
  hi : B ≤ wr.heap.size
  arg : ExsV wr (fun g => w.heap.size + 2 ≤ g ∧ g < B) (.slice aa ar.length ca) ar
  kin : Gw flowR 39 2 wr B kv ts
theorem Pw.then {w wr w3 : World} {rb B : Nat} {s s3 : Sst} {k str n kv : Value} {ar : List Tr} {aa : Option Addr} {ca : Nat} {ts : List Fl} (h : Pw w wr rb B s k str n ar aa ca kv ts) (hl : rb < w.heap.size) (hr : Rst w3 rb s3) (hf : Fr rb wr w3) : Pw w w3 rb B s3 k str n ar aa ca kv ts :=
  have h2 := h.lo
  ⟨h.five.then hl hr hf, h.lo, Nat.le_trans h.hi hf.size, h.arg.kept (kept_fr hf fun g hg => ⟨by omega, hg⟩), h.kin.fr flowR_kept hf (by omega)⟩
theorem Pw.drew {w wr : World} {rb B : Nat} {s : Sst} {k str n kv : Value} {ar : List Tr} {aa : Option Addr} {ca : Nat} {ts : List Fl} (h : Pw w wr rb B s k str n ar aa ca kv ts) (hl : rb < w.heap.size) : Pw w wr.drew rb B s k str n ar aa ca kv ts :=
  h.then hl (h.five.rst.kept fun _ _ => rfl) (.of_below (Below.drew (Below.refl _ _)))
theorem Pw.next {w w3 w5 : World} {rb B : Nat} {s : Sst} {k str n kv v5 : Value} {ar : List Tr} {aa : Option Addr} {ca : Nat} {ts ts' : List Fl} {o : Obj} (h : Pw w w3 rb B s k str n ar aa ca kv ts) (hl : rb < w.heap.size) (h5 : Gw flowR 39 2 w5 B v5 ts') (hg : (w3.alloc o).grownBy w5 kv.ownBlock) :
    Cell5 w5 (w.heap.size + 1) k str n (.slice aa ar.length ca) kv ∧ Pw w (w5.setCell ⟨w.heap.size + 1, 4, none⟩ v5) rb B s k str n ar aa ca v5 ts' := by
  have hs := h.hi
  have h2 := h.lo
  have hB : Below B w3 w5 := ((Below.refl _ _).alloc hs _).grown hg (Nat.le_trans hs (le_alloc _ _)) h.kin.own
  have h51 : P5 w w5 rb s k str n (.slice aa ar.length ca) kv := ⟨⟨hB.os.trans h.five.fr.os, hB.tape.trans h.five.fr.tape, hB.output.trans h.five.fr.output, Nat.le_trans h.five.fr.size hB.size, fun q hq hne => (hB.block q (by omega)).trans (h.five.fr.block q hq hne)⟩, h.five.rst.below hB (by omega), h.five.r.kept (hB.block _ (by omega)), h.five.p.kept (hB.block _ (by omega))⟩
  refine ⟨h51.p, h51.set hl 4 v5, h.lo, ?_, ?_, h5.set flowR_kept (by show w.heap.size + 1 < B; omega) _⟩
  · show B ≤ (w5.setCell _ _).heap.size
    simp [World.setCell]; exact Nat.le_trans hs hB.size
  · exact h.arg.kept fun g hg2 hlt => ⟨(Below.heap_setCell _ _ _ _ (by show g ≠ w.heap.size + 1; omega)).trans (hB.block g hg2.2), hg2⟩
theorem Pw.out {w wr : World} {rb B : Nat} {s : Sst} {k n : Int} {nm : Bs} {kv : Value} {ar : List Tr} {aa : Option Addr} {ca : Nat} {ts : List Fl} (h : Pw w wr rb B s (.int .i64 k) (.string (ba nm)) (.int .i64 n) ar aa ca kv ts) {ao : Option Addr} {co : Nat} (hv : kv = .slice ao ts.length co) (hk : InR k) (hn : InR n) (hm : nm.length ≤ 9223372036854775807) (ht : ts.length ≤ 16) : PlV wr (fun g => w.heap.size + 2 ≤ g) ⟨k, nm, n, ar, ts⟩ aa ca ao co :=
  ⟨hk, hn, hm, h.arg.kept (kept_sub fun g hg => hg.1), by
    have := h.kin.flows (by omega)
    rw [hv] at this
    exact this.kept (kept_sub fun g hg => Nat.le_trans h.lo hg)⟩
end
section
open Go.RowKit
set_option linter.unusedVariables false

/-- A definition that was read. -/
def DefP (rb : Nat) (s : Sst) (w : World) (e : Ending) (w' : World) : Prop := ∃ d s' str a l c, e = .returned (.agg #[.string str, .slice a l c]) ∧ str = ba d.id ∧ l = d.places.length ∧ DfV w' (fun g => w.heap.size ≤ g) d a c ∧ After defE s d s' ∧ Rst w' rb s' ∧ Fr rb w w'
/-- What lies where while the places are read. -/
structure Dw (w wr : World) (rb M : Nat) (s : Sst) (str kv : Value) (ts : List Pl) : Prop where
  fr : Fr rb w wr
  rst : Rst wr rb s
  rbl : rb < w.heap.size
  r : Cell2 wr w.heap.size (.string ⟨#[]⟩) (.slice none 0 0)
  lo : w.heap.size < M
  d : Cell2 wr M str kv
  kin : Gw placeR 37 5 wr (M + 1) kv ts
theorem Dw.hi {w wr : World} {rb M : Nat} {s : Sst} {str kv : Value} {ts : List Pl} (h : Dw w wr rb M s str kv ts) : M + 1 ≤ wr.heap.size := h.d.lt
theorem Dw.then {w wr w3 : World} {rb M : Nat} {s s3 : Sst} {str kv : Value} {ts : List Pl} (h : Dw w wr rb M s str kv ts) (hr : Rst w3 rb s3) (hf : Fr rb wr w3) : Dw w w3 rb M s3 str kv ts :=
  have h1 := h.rbl
  have h2 := h.lo
  ⟨h.fr.trans hf, hr, h.rbl, h.r.fr hf (by omega), h.lo, h.d.fr hf (by omega), h.kin.fr placeR_kept hf (by omega)⟩
theorem Dw.drew {w wr : World} {rb M : Nat} {s : Sst} {str kv : Value} {ts : List Pl} (h : Dw w wr rb M s str kv ts) : Dw w wr.drew rb M s str kv ts :=
  h.then (h.rst.kept fun _ _ => rfl) (.of_below (Below.drew (Below.refl _ _)))
theorem Dw.next {w w3 w5 : World} {rb M : Nat} {s : Sst} {str kv v5 : Value} {ts ts' : List Pl} {o : Obj} (h : Dw w w3 rb M s str kv ts) (h5 : Gw placeR 37 5 w5 (M + 1) v5 ts') (hg : (w3.alloc o).grownBy w5 kv.ownBlock) :
    Cell2 w5 M str kv ∧ Dw w (w5.setCell ⟨M, 1, none⟩ v5) rb M s str v5 ts' := by
  have hs := h.hi
  have h1 := h.rbl
  have h2 := h.lo
  have hB : Below (M + 1) w3 w5 := ((Below.refl _ _).alloc hs _).grown hg (Nat.le_trans hs (le_alloc _ _)) h.kin.own
  have hd : Cell2 w5 M str kv := h.d.kept (hB.block _ (by omega))
  refine ⟨hd, ?_, (h.rst.below hB (by omega)).set (p := ⟨M, 1, none⟩) (by show rb < M; omega) _, h.rbl, (h.r.kept (hB.block _ (by omega))).far (by show w.heap.size ≠ M; omega) _, h.lo, hd.put 1 _, h5.set placeR_kept (by show M < M + 1; omega) _⟩
  have hf : Fr rb w w5 := ⟨hB.os.trans h.fr.os, hB.tape.trans h.fr.tape, hB.output.trans h.fr.output, Nat.le_trans h.fr.size hB.size, fun q hq hne => (hB.block q (by omega)).trans (h.fr.block q hq hne)⟩
  exact hf.setCell (p := ⟨M, 1, none⟩) (.inr (by show w.heap.size ≤ M; omega)) _
end
section
open Go.RowKit
set_option linter.unusedVariables false

theorem own_shape {w : World} {base : Nat} {v : Value} {l : BB} (h : V.Owns w base v l) : ∃ a n c, v = .slice a n c ∧ ∀ x, a = some x → base ≤ x.block := by
  rcases h.2 with ⟨rfl, _⟩ | ⟨g, cap, cur, rfl, hb, _⟩
  · exact ⟨_, _, _, rfl, fun x hx => by cases hx⟩
  · exact ⟨_, _, _, rfl, fun x hx => by cases hx; exact hb⟩
theorem after_err {α : Type} {f : Rds α} {l : BB} {x : α} {s' : Sst} {e : Nat} (h : After f ⟨0, l⟩ x s') (hf : f l = .error e) : s' = ⟨e, []⟩ ∧ e ≠ 0 := by
  unfold After at h
  rw [if_neg (by simp)] at h
  simp only [hf] at h
  exact ⟨h.2, h.1⟩
theorem after_ok {α : Type} {f : Rds α} {l r : BB} {x y : α} {s' : Sst} (h : After f ⟨0, l⟩ x s') (hf : f l = .ok (y, r)) : x = y ∧ s' = ⟨0, r⟩ := by
  unfold After at h
  rw [if_neg (by simp)] at h
  simp only [hf] at h
  exact h
/-- A new reader. -/
theorem Rst.new {w : World} {a : Option Addr} {n c : Nat} {l : BB} (h : V.ReadsV w (.slice a n c) l) (o : Obj) : Rst ((w.alloc o).alloc (.cells #[.slice a n c, .int .i64 0] 99963)) (w.heap.size + 1) ⟨0, l⟩ := by
  have hn : n = l.length := by obtain ⟨_, _, e, _⟩ := h; simp only [Value.slice.injEq] at e; exact e.2.1
  subst hn
  have C := Cell2.second w o (.slice a l.length c) (.int .i64 0) 99963
  refine ⟨⟨a, c, C.c0, (h.below ((Below.refl _ _).alloc (Nat.le_refl _) _)).below ((Below.refl _ _).alloc (Nat.le_refl _) _), fun h0 x hx => ?_⟩, C.c1, C.free, fun q => absurd rfl q⟩
  obtain ⟨b, off, e, hb, _⟩ := V.cells_of h (by cases l with | nil => exact absurd rfl h0 | cons _ _ => simp)
  rw [e] at hx
  cases hx
  show b < w.heap.size + 1
  omega
theorem below_four {B : Nat} {a w : World} {M o : Nat} {u0 u1 u2 u3 : Value} (h : Below B a w) (hM : B ≤ M) : Below B a ((((w.setCell ⟨M, o, none⟩ u0).setCell ⟨M, o + 1, none⟩ u1).setCell ⟨M, o + 2, none⟩ u2).setCell ⟨M, o + 3, none⟩ u3) :=
  (((h.setCell (p := ⟨M, o, none⟩) hM _).setCell (p := ⟨M, o + 1, none⟩) hM _).setCell (p := ⟨M, o + 2, none⟩) hM _).setCell (p := ⟨M, o + 3, none⟩) hM _
theorem below_twoC {B : Nat} {a w : World} {M o : Nat} {u0 u1 : Value} (h : Below B a w) (hM : B ≤ M) : Below B a ((w.setCell ⟨M, o, none⟩ u0).setCell ⟨M, o + 1, none⟩ u1) :=
  (h.setCell (p := ⟨M, o, none⟩) hM _).setCell (p := ⟨M, o + 1, none⟩) hM _
theorem below_rd {w w' : World} {o o2 : Obj} (h : Fr (w.heap.size + 1) ((w.alloc o).alloc o2) w') : Below w.heap.size w w' :=
  (((Below.refl _ _).alloc (Nat.le_refl _) _).alloc (le_alloc _ _) _).trans (h.below (Nat.le_succ _) (Nat.le_trans (le_alloc _ _) (le_alloc _ _)))
end
section
open Go.RowKit
set_option linter.unusedVariables false

end
end
end Go.Proofs.Ytlaiacjlphjmlaa
