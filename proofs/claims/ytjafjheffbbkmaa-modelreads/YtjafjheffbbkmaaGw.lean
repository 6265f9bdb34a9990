/-
  Rows of trees, flows, places that grow: laws.
-/
import Derived.Test.YtjafjheffbbkmaaRdA
import Derived.Maps.AppendAt
import Derived.Deep.RegionHeld3
import Derived.Deep.RegionLaw
namespace Go.Proofs.Ytjafjheffbbkmaa
open Go.RowKit Go.Maps
set_option linter.unusedVariables false

theorem tre_depth {w : World} {P : Nat → Prop} {v : Nat → Value → Prop} {ts : List Tr} : ∀ n, (∀ i, i < n → ∃ u, v i u ∧ Tre w P u (ts.getD i zeroT)) → ∃ d, ∀ i, i < n → ∃ u, v i u ∧ TrV w P d u (ts.getD i zeroT)
  | 0, _ => ⟨0, fun i hi => by omega⟩
  | n + 1, h => by
    obtain ⟨d, hd⟩ := tre_depth n (fun i hi => h i (by omega))
    obtain ⟨u, hu, e, he⟩ := h n (by omega)
    refine ⟨max d e, fun i hi => ?_⟩
    rcases Nat.lt_succ_iff_lt_or_eq.1 hi with hi | rfl
    · obtain ⟨x, hx, hx2⟩ := hd i hi
      exact ⟨x, hx, hx2.mono (Nat.le_max_left _ _)⟩
    · exact ⟨u, hu, he.mono (Nat.le_max_right _ _)⟩
/-- What some cells read as. -/
abbrev Rdr (α : Type) := World → (Nat → Prop) → List Value → α → Prop
def treeR : Rdr Tr := fun w P cs t => ∃ u0 u1 u2 u3, cs = [u0, u1, u2, u3] ∧ Tre w P (.agg #[u0, u1, u2, u3]) t
def flowR : Rdr Fl := fun w P cs f => ∃ a c, cs = [.int .i64 f.to, .slice a f.ifs.length c] ∧ ExsV w P (.slice a f.ifs.length c) f.ifs ∧ InR f.to
def placeR : Rdr Pl := fun w P cs p => ∃ aa ca ao co, cs = [.int .i64 p.kind, .string (ba p.name), .int .i64 p.n, .slice aa p.arg.length ca, .slice ao p.out.length co] ∧ PlV w P p aa ca ao co
def KeptR {α : Type} (R : Rdr α) : Prop := ∀ (w w' : World) (P Q : Nat → Prop) (cs : List Value) (x : α), R w P cs x → (∀ g, P g → g < w.heap.size → w'.heap[g]? = w.heap[g]? ∧ Q g) → R w' Q cs x
theorem treeR_kept : KeptR treeR := fun _ _ _ _ _ _ ⟨u0, u1, u2, u3, h1, h2⟩ hk => ⟨u0, u1, u2, u3, h1, h2.kept hk⟩
theorem flowR_kept : KeptR flowR := fun _ _ _ _ _ _ ⟨a, c, h1, h2, h3⟩ hk => ⟨a, c, h1, h2.kept hk, h3⟩
theorem placeR_kept : KeptR placeR := fun _ _ _ _ _ _ ⟨aa, ca, ao, co, h1, h2⟩ hk => ⟨aa, ca, ao, co, h1, h2.kept hk⟩
/-- A row that grows: of blocks from B on. -/
def Gw {α : Type} (R : Rdr α) (el sz : Nat) (w : World) (B : Nat) (v : Value) (ts : List α) : Prop := ∃ xs, w.ownsRow B el sz v ts.length xs ∧ ∀ j (h : j < ts.length), R w (fun g => B ≤ g ∧ v.ownBlock ≠ some g) ((xs.drop (j * sz)).take sz) ts[j]
theorem Gw.nil {α : Type} (R : Rdr α) (el sz : Nat) (w : World) (B : Nat) : Gw R el sz w B (.slice none 0 0) [] := ⟨[], World.ownsRow_nil _ _ _ _, fun j hj => by simp at hj⟩
theorem own_kept {w w' : World} {B el sz n : Nat} {v : Value} {xs : List Value} (h : w.ownsRow B el sz v n xs) (hk : ∀ g, B ≤ g → g < w.heap.size → w'.heap[g]? = w.heap[g]?) : w'.ownsRow B el sz v n xs := by
  refine ⟨h.1, ?_⟩
  rcases h.2 with hn | ⟨g, cap, cur, hv, hg, hh, rest⟩
  · exact .inl hn
  · exact .inr ⟨g, cap, cur, hv, hg, by rw [hk g hg (Array.getElem?_eq_some_iff.1 hh).1]; exact hh, rest⟩
theorem Gw.kept {α : Type} {R : Rdr α} (hR : KeptR R) {el sz : Nat} {w w' : World} {B : Nat} {v : Value} {ts : List α} (h : Gw R el sz w B v ts) (hk : ∀ g, B ≤ g → g < w.heap.size → w'.heap[g]? = w.heap[g]?) : Gw R el sz w' B v ts := by
  obtain ⟨xs, h1, h2⟩ := h
  exact ⟨xs, own_kept h1 hk, fun j hj => hR _ _ _ _ _ _ (h2 j hj) fun g hg hlt => ⟨hk g hg.1 hlt, hg⟩⟩
theorem Gw.fr {α : Type} {R : Rdr α} (hR : KeptR R) {el sz : Nat} {w w' : World} {B rb : Nat} {v : Value} {ts : List α} (h : Gw R el sz w B v ts) (hf : Fr rb w w') (hB : rb < B) : Gw R el sz w' B v ts := h.kept hR fun g hg hlt => hf.block g hlt (by omega)
theorem Gw.set {α : Type} {R : Rdr α} (hR : KeptR R) {el sz : Nat} {w : World} {B : Nat} {v : Value} {ts : List α} (h : Gw R el sz w B v ts) {p : Addr} (hp : p.block < B) (x : Value) : Gw R el sz (w.setCell p x) B v ts := h.kept hR fun g hg hlt => Below.heap_setCell _ _ _ _ (by omega)
theorem Gw.below {α : Type} {R : Rdr α} (hR : KeptR R) {el sz : Nat} {w w' : World} {B : Nat} {v : Value} {ts : List α} (h : Gw R el sz w B v ts) (hf : Below w.heap.size w w') : Gw R el sz w' B v ts := h.kept hR fun g hg hlt => hf.block g hlt
theorem Gw.form {α : Type} {R : Rdr α} {el sz : Nat} {w : World} {B : Nat} {v : Value} {ts : List α} (h : Gw R el sz w B v ts) : ∃ a c, v = .slice a ts.length c := by
  obtain ⟨xs, h1, _⟩ := h
  rcases h1.2 with ⟨rfl, h0⟩ | ⟨g, cap, cur, rfl, _⟩
  · exact ⟨_, _, by rw [h0]⟩
  · exact ⟨_, _, rfl⟩
theorem Gw.form1 {α : Type} {R : Rdr α} {el sz : Nat} {w : World} {B : Nat} {v : Value} {ts : List α} {y : α} (h : Gw R el sz w B v (ts ++ [y])) : ∃ a c, v = .slice a (ts.length + 1) c := by
  obtain ⟨a, c, e⟩ := h.form
  exact ⟨a, c, by rw [e, List.length_append]; rfl⟩
theorem Gw.off {α : Type} {R : Rdr α} {el sz : Nat} {w : World} {B : Nat} {v : Value} {ts : List α} (h : Gw R el sz w B v ts) {g : Nat} (hg : w.heap.size ≤ g) : v.ownBlock ≠ some g := by
  obtain ⟨xs, h1, _⟩ := h
  intro e
  have := (World.ownsRow.lt h1 g e).2
  omega
theorem Gw.own {α : Type} {R : Rdr α} {el sz : Nat} {w : World} {B : Nat} {v : Value} {ts : List α} (h : Gw R el sz w B v ts) : ∀ k, v.ownBlock = some k → B ≤ k := by
  obtain ⟨xs, h1, _⟩ := h
  exact fun k hk => (World.ownsRow.lt h1 k hk).1
theorem Gw.add {α : Type} {R : Rdr α} (hR : KeptR R) {el sz : Nat} {w w' : World} {B : Nat} {v v' : Value} {ts : List α} {y : α} {news : List Value} {xs : List Value} (hx : w.ownsRow B el sz v ts.length xs)
    (hk : ∀ j (h : j < ts.length), R w (fun g => B ≤ g ∧ v.ownBlock ≠ some g) ((xs.drop (j * sz)).take sz) ts[j]) (hnl : news.length = sz)
    (hy : R w (fun g => B ≤ g ∧ v.ownBlock ≠ some g) news y) (hn : w'.ownsRow B el sz v' (ts.length + 1) (xs ++ news)) (hg : w.grownBy w' v.ownBlock) (ho : v'.ownBlock = v.ownBlock ∨ v'.ownBlock = some w.heap.size) : Gw R el sz w' B v' (ts ++ [y]) := by
  have key : ∀ {cs : List Value} {t : α}, R w (fun g => B ≤ g ∧ v.ownBlock ≠ some g) cs t → R w' (fun g => B ≤ g ∧ v'.ownBlock ≠ some g) cs t := fun h => hR _ _ _ _ _ _ h fun g hg2 hlt => ⟨hg.block g hlt (fun e => hg2.2 e.symm), hg2.1, by
    rcases ho with e | e
    · rw [e]; exact hg2.2
    · rw [e]; intro h; injection h with h; omega⟩
  have hl := hx.1
  refine ⟨xs ++ news, by rw [List.length_append]; exact hn, fun j hj => ?_⟩
  rw [List.length_append] at hj
  by_cases hlt : j < ts.length
  · have hm : j * sz + sz ≤ xs.length := by rw [hl, ← Nat.succ_mul]; exact Nat.mul_le_mul_right _ hlt
    rw [List.getElem_append_left hlt, List.drop_append_of_le_length (by omega), List.take_append_of_le_length (by rw [List.length_drop]; omega)]
    exact key (hk j hlt)
  · obtain rfl : j = ts.length := by simp at hj; omega
    rw [List.getElem_append_right (Nat.le_refl _), ← hl, List.drop_left, ← hnl, List.take_length]
    simp only [Nat.sub_self, List.getElem_cons_zero]
    exact key hy
/-- 'append(v, x)' of one as a step of a region that draws its order. -/
theorem step_gw {α : Type} {R : Rdr α} (hR : KeptR R) (sl el sz bt : Nat) (z : Value) {ops : Array Oper} {o : Oper} {a : Act} {K : Act → World → Prop} {Q : Exit → Act → World → Prop} {E : Prop} {wX : World} (hgd : o.guard = none) (s x : Operand)
    (ho : o.op = .call { callee := .builtin .append, args := #[s, x], argTypes := #[sl, sl] }) (hu : Try.prog.underlying sl = some (.slice el)) (hinfo : (Try.prog.info? el).map (fun i => (i.zero, i.size, i.bytes)) = some (some z, sz, bt)) (hzc : z.cells.size = sz) (hsz : 0 < sz) (hbt : bt ≤ 100)
    {B g : Nat} {v : Value} {cs : Array Value} {ts : List α} {y : α} (hl : Gw R el sz wX B v ts) (hcs : cs.toList.length = sz) (hone : ∀ u ∈ cs.toList, u.oneCell' = true) (hy : R wX (fun g => B ≤ g ∧ v.ownBlock ≠ some g) cs.toList y) (hbase : B ≤ wX.heap.size) (hs : a.eval s = v) (hx : a.eval x = .slice (some ⟨g, 0, none⟩) 1 1) (hg : g = wX.heap.size) (hlen : ts.length ≤ 1048576)
    (h : ∀ v' w', Gw R el sz w' B v' (ts ++ [y]) → (wX.alloc (.cells cs el)).grownBy w' v.ownBlock → K (a.put o.dst v') w') : if Region.wanted o (yielded ops a.tmps) = true then Oper.wp Try.prog o a (wX.alloc (.cells cs el)) K Q else E := by
  subst hg
  obtain ⟨i, hi, hz, hsize, hby⟩ := info_parts hinfo
  obtain ⟨xs, h1, h2⟩ := hl
  rw [if_pos (show Region.wanted o (yielded ops a.tmps) = true by simp [Region.wanted, hgd])]
  have hmul : (ts.length + 1) * bt ≤ 1048577 * 100 := Nat.mul_le_mul (by omega) hbt
  obtain ⟨v', w', hr, q2, q3, q4, q5⟩ := run_append_own_at (P := Try.prog) (wX.alloc (.cells cs el)) B sl o.type el i z sz bt hu hi hz hsize hby hzc hsz v ts.length xs (World.ownsRow.alloc h1 _) ⟨wX.heap.size, 0, none⟩ 1 1 cs.toList (by rw [hcs, Nat.one_mul])
    (fun j u hj => by rw [V.add_plain, Nat.zero_add, cell_of_row _ wX.heap.size j _ el (0, 0) (heap_alloc_new wX _)]; simpa using hj) hone (by unfold maxLen; omega) (by omega) (by rw [size_alloc]; omega)
  unfold Oper.wp execOp
  simp only [ho, resolve, invoke, builtin, Sem.run_bind, Sem.run_pure, Result.andThen_ok, List.map_toArray, List.map_cons, List.map_nil, hs, hx, hr]
  refine h v' w' ?_ q3
  exact Gw.add hR (World.ownsRow.alloc h1 _) (fun j hj => hR _ _ _ _ _ _ (h2 j hj) fun g hg hlt => ⟨heap_alloc_old _ _ hlt, hg⟩) hcs (hR _ _ _ _ _ _ hy fun g hg hlt => ⟨heap_alloc_old _ _ hlt, hg⟩) q2 q3 q5
theorem cells_at {xs ys : List Value} {k n : Nat} (h : (xs.drop k).take n = ys) {i : Nat} (hi : i < n) : xs[k + i]? = ys[i]? := by
  rw [← h, List.getElem?_take, if_pos hi, List.getElem?_drop]
theorem Gw.tree {w : World} {B : Nat} {v : Value} {ts : List Tr} (h : Gw treeR 31 4 w B v ts) (hl : ts.length ≤ 9223372036854775807) {k n : Int} (hk : InR k) (hn : InR n) {nm : Bs} (hm : nm.length ≤ 9223372036854775807) : Tre w (fun g => B ≤ g) (.agg #[.int .i64 k, .int .i64 n, .string (ba nm), v]) ⟨k, n, nm, ts⟩ := by
  obtain ⟨xs, h1, h2⟩ := h
  rcases h1.2 with ⟨rfl, h0⟩ | ⟨g, cap, cur, rfl, hb, hg, hnc, hcm, hcs, ht⟩
  · have h0 : ts = [] := List.length_eq_zero_iff.1 h0
    subst h0
    exact Tre.leaf w _ hk hn nm hm
  · obtain ⟨d, hd⟩ := tre_depth (w := w) (P := fun g => B ≤ g) (ts := ts) (v := fun i u => ∃ u0 u1 u2 u3, u = .agg #[u0, u1, u2, u3] ∧ w.cell? ⟨g, i * 4, none⟩ = some u0 ∧ w.cell? ⟨g, i * 4 + 1, none⟩ = some u1 ∧ w.cell? ⟨g, i * 4 + 2, none⟩ = some u2 ∧ w.cell? ⟨g, i * 4 + 3, none⟩ = some u3) ts.length (fun i hi => by
      obtain ⟨u0, u1, u2, u3, e, kt⟩ := h2 i hi
      have hxl := h1.1
      refine ⟨_, ⟨u0, u1, u2, u3, rfl, ?_, ?_, ?_, ?_⟩, by rw [show ts.getD i zeroT = ts[i] by rw [List.getD_eq_getElem?_getD, List.getElem?_eq_getElem hi]; rfl]; exact kt.sub fun g hg => hg.1⟩
      · rw [World.ownsRow.cellAt h1 _ (by omega)]; exact cells_at e (i := 0) (by omega)
      · rw [World.ownsRow.cellAt h1 _ (by omega)]; exact cells_at e (i := 1) (by omega)
      · rw [World.ownsRow.cellAt h1 _ (by omega)]; exact cells_at e (i := 2) (by omega)
      · rw [World.ownsRow.cellAt h1 _ (by omega)]; exact cells_at e (i := 3) (by omega))
    refine ⟨d + 1, some ⟨g, 0, none⟩, cap, rfl, hnc, hk, hn, hm, hl, fun i hi => ?_⟩
    obtain ⟨u, ⟨u0, u1, u2, u3, rfl, h0, h1, h2, h3⟩, ht⟩ := hd i hi
    exact ⟨g, 0, u0, u1, u2, u3, rfl, hb, by rw [Nat.zero_add]; exact h0, by rw [Nat.zero_add]; exact h1, by rw [Nat.zero_add]; exact h2, by rw [Nat.zero_add]; exact h3, ht⟩
theorem Gw.flows {w : World} {B : Nat} {v : Value} {ts : List Fl} (h : Gw flowR 75 2 w B v ts) (hl : ts.length ≤ 9223372036854775807) : FlsV w (fun g => B ≤ g) v ts := by
  obtain ⟨xs, h1, h2⟩ := h
  rcases h1.2 with ⟨rfl, h0⟩ | ⟨g, cap, cur, rfl, hb, hg, hnc, hcm, hcs, ht⟩
  · have h0 : ts = [] := List.length_eq_zero_iff.1 h0
    subst h0
    exact FlsV.nil w _
  · refine ⟨_, _, rfl, hnc, hl, fun i hi => ?_⟩
    obtain ⟨a, c, e, kt, ki⟩ := h2 i hi
    have hxl := h1.1
    refine ⟨g, 0, a, c, rfl, hb, ?_⟩
    rw [getD_memF hi, Nat.zero_add]
    refine ⟨?_, ?_, kt.kept (kept_sub fun g hg => hg.1), ki⟩
    · rw [World.ownsRow.cellAt h1 _ (by omega)]; exact cells_at e (i := 0) (by omega)
    · rw [World.ownsRow.cellAt h1 _ (by omega)]; exact cells_at e (i := 1) (by omega)
theorem Gw.places {w : World} {B : Nat} {v : Value} {ts : List Pl} (h : Gw placeR 57 5 w B v ts) (hl : ts.length ≤ 9223372036854775807) : PlsV w (fun g => B ≤ g) v ts := by
  obtain ⟨xs, h1, h2⟩ := h
  rcases h1.2 with ⟨rfl, h0⟩ | ⟨g, cap, cur, rfl, hb, hg, hnc, hcm, hcs, ht⟩
  · have h0 : ts = [] := List.length_eq_zero_iff.1 h0
    subst h0
    exact PlsV.nil w _
  · refine ⟨_, _, rfl, hnc, hl, fun i hi => ?_⟩
    obtain ⟨aa, ca, ao, co, e, kt⟩ := h2 i hi
    have hxl := h1.1
    refine ⟨g, 0, aa, ca, ao, co, rfl, hb, ?_⟩
    rw [getD_memP hi, Nat.zero_add]
    refine ⟨?_, ?_, ?_, ?_, ?_, kt.kept (kept_sub fun g hg => hg.1)⟩
    · rw [World.ownsRow.cellAt h1 _ (by omega)]; exact cells_at e (i := 0) (by omega)
    · rw [World.ownsRow.cellAt h1 _ (by omega)]; exact cells_at e (i := 1) (by omega)
    · rw [World.ownsRow.cellAt h1 _ (by omega)]; exact cells_at e (i := 2) (by omega)
    · rw [World.ownsRow.cellAt h1 _ (by omega)]; exact cells_at e (i := 3) (by omega)
    · rw [World.ownsRow.cellAt h1 _ (by omega)]; exact cells_at e (i := 4) (by omega)
theorem infoE : (Try.prog.info? 31).map (fun i => (i.zero, i.size, i.bytes)) = some (some (.agg #[.int .i64 0, .int .i64 0, .string ⟨#[]⟩, .slice none 0 0]), 4, 56) := by kernel_rfl
theorem infoF : (Try.prog.info? 75).map (fun i => (i.zero, i.size, i.bytes)) = some (some (.agg #[.int .i64 0, .slice none 0 0]), 2, 32) := by kernel_rfl
theorem infoP : (Try.prog.info? 57).map (fun i => (i.zero, i.size, i.bytes)) = some (some (.agg #[.int .i64 0, .string ⟨#[]⟩, .int .i64 0, .slice none 0 0, .slice none 0 0]), 5, 80) := by kernel_rfl
/-- 'append(v, x)' of a tree. -/
theorem step_tree {ops : Array Oper} {o : Oper} {a : Act} {K : Act → World → Prop} {Q : Exit → Act → World → Prop} {E : Prop} {wX : World} (hgd : o.guard = none) (s x : Operand)
    (ho : o.op = .call { callee := .builtin .append, args := #[s, x], argTypes := #[29, 29] }) {B g : Nat} {v : Value} {rk rn : Int} {rs : ByteArray} {ra : Option Addr} {rl rc : Nat} {ts : List Tr} {y : Tr}
    (hl : Gw treeR 31 4 wX B v ts) (hy : Tre wX (fun g => B ≤ g ∧ v.ownBlock ≠ some g) (.agg #[.int .i64 rk, .int .i64 rn, .string rs, .slice ra rl rc]) y) (hbase : B ≤ wX.heap.size) (hs : a.eval s = v) (hx : a.eval x = .slice (some ⟨g, 0, none⟩) 1 1) (hg : g = wX.heap.size) (hlen : ts.length ≤ 1048576)
    (h : ∀ v' w', Gw treeR 31 4 w' B v' (ts ++ [y]) → (wX.alloc (.cells #[.int .i64 rk, .int .i64 rn, .string rs, .slice ra rl rc] 31)).grownBy w' v.ownBlock → K (a.put o.dst v') w') : if Region.wanted o (yielded ops a.tmps) = true then Oper.wp Try.prog o a (wX.alloc (.cells #[.int .i64 rk, .int .i64 rn, .string rs, .slice ra rl rc] 31)) K Q else E :=
  step_gw treeR_kept 29 31 4 56 _ hgd s x ho Try.underlying29 infoE rfl (by decide) (by decide) hl rfl (by simp [Value.oneCell']) (show treeR wX _ _ y from Exists.intro _ (Exists.intro _ (Exists.intro _ (Exists.intro _ (And.intro rfl hy))))) hbase hs hx hg hlen h
theorem step_flow {ops : Array Oper} {o : Oper} {a : Act} {K : Act → World → Prop} {Q : Exit → Act → World → Prop} {E : Prop} {wX : World} (hgd : o.guard = none) (s x : Operand)
    (ho : o.op = .call { callee := .builtin .append, args := #[s, x], argTypes := #[55, 55] }) {B g : Nat} {v : Value} {rk : Int} {ra : Option Addr} {rl rc : Nat} {ts : List Fl} {y : Fl}
    (hl : Gw flowR 75 2 wX B v ts) (hy : flowR wX (fun g => B ≤ g ∧ v.ownBlock ≠ some g) [.int .i64 rk, .slice ra rl rc] y) (hbase : B ≤ wX.heap.size) (hs : a.eval s = v) (hx : a.eval x = .slice (some ⟨g, 0, none⟩) 1 1) (hg : g = wX.heap.size) (hlen : ts.length ≤ 1048576)
    (h : ∀ v' w', Gw flowR 75 2 w' B v' (ts ++ [y]) → (wX.alloc (.cells #[.int .i64 rk, .slice ra rl rc] 75)).grownBy w' v.ownBlock → K (a.put o.dst v') w') : if Region.wanted o (yielded ops a.tmps) = true then Oper.wp Try.prog o a (wX.alloc (.cells #[.int .i64 rk, .slice ra rl rc] 75)) K Q else E :=
  step_gw flowR_kept 55 75 2 32 _ hgd s x ho Try.underlying55 infoF rfl (by decide) (by decide) hl rfl (by simp [Value.oneCell']) hy hbase hs hx hg hlen h
theorem step_place {ops : Array Oper} {o : Oper} {a : Act} {K : Act → World → Prop} {Q : Exit → Act → World → Prop} {E : Prop} {wX : World} (hgd : o.guard = none) (s x : Operand)
    (ho : o.op = .call { callee := .builtin .append, args := #[s, x], argTypes := #[22, 22] }) {B g : Nat} {v : Value} {rk rn : Int} {rs : ByteArray} {ra : Option Addr} {rl rc : Nat} {qa : Option Addr} {ql qc : Nat} {ts : List Pl} {y : Pl}
    (hl : Gw placeR 57 5 wX B v ts) (hy : placeR wX (fun g => B ≤ g ∧ v.ownBlock ≠ some g) [.int .i64 rk, .string rs, .int .i64 rn, .slice ra rl rc, .slice qa ql qc] y) (hbase : B ≤ wX.heap.size) (hs : a.eval s = v) (hx : a.eval x = .slice (some ⟨g, 0, none⟩) 1 1) (hg : g = wX.heap.size) (hlen : ts.length ≤ 1048576)
    (h : ∀ v' w', Gw placeR 57 5 w' B v' (ts ++ [y]) → (wX.alloc (.cells #[.int .i64 rk, .string rs, .int .i64 rn, .slice ra rl rc, .slice qa ql qc] 57)).grownBy w' v.ownBlock → K (a.put o.dst v') w') : if Region.wanted o (yielded ops a.tmps) = true then Oper.wp Try.prog o a (wX.alloc (.cells #[.int .i64 rk, .string rs, .int .i64 rn, .slice ra rl rc, .slice qa ql qc] 57)) K Q else E :=
  step_gw placeR_kept 22 57 5 80 _ hgd s x ho Try.underlying22 infoP rfl (by decide) (by decide) hl rfl (by simp [Value.oneCell']) hy hbase hs hx hg hlen h
end Go.Proofs.Ytjafjheffbbkmaa
