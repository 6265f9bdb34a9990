/-
  The scan's stack: a row of the call's own.
-/
import Derived.Test.YtfjphlejhcdbaaaLexA
import Derived.Test.YtfjphlejhcdbaaaTxtA
import Derived.Maps.AppendAt
import Derived.Laws.AppendOwnNone
namespace Go.Proofs.Ytfjphlejhcdbaaa
section
open Go.RowKit Go.Maps
set_option linter.unusedVariables false



/-- An open bracket as it lies: how deep, and the levels' slice. -/
abbrev Lay2 := Nat × Value
def flat2 : List Lay2 → List Value
  | [] => []
  | x :: r => .int .i64 x.1 :: x.2 :: flat2 r
theorem flat2_len (l : List Lay2) : (flat2 l).length = l.length * 2 := by
  induction l with
  | nil => rfl
  | cons x r ih => simp [flat2, ih]; omega
theorem flat2_append (l m : List Lay2) : flat2 (l ++ m) = flat2 l ++ flat2 m := by
  induction l with
  | nil => rfl
  | cons x r ih => simp [flat2, ih]
theorem flat2_at (l : List Lay2) {i : Nat} (h : i < l.length) : (flat2 l)[i * 2]? = some (.int .i64 (l.getD i (0, .slice none 0 0)).1) ∧ (flat2 l)[i * 2 + 1]? = some (l.getD i (0, .slice none 0 0)).2 := by
  induction l generalizing i with
  | nil => simp at h
  | cons x r ih =>
    cases i with
    | zero => simp [flat2]
    | succ i =>
      have := ih (i := i) (by simpa using h)
      rw [show (i + 1) * 2 = i * 2 + 2 by omega]
      simpa [flat2] using this
theorem infoO : (Try.prog.info? 91).map (fun i => (i.zero, i.size, i.bytes)) = some (some (.agg #[.int .i64 0, .slice none 0 0]), 2, 32) := by kernel_rfl
/-- A row of the call's own that stays. -/
theorem own_moved {w w' : World} {base e size n : Nat} {v : Value} {xs : List Value} (h : w.ownsRow base e size v n xs) (hb : ∀ g, v.ownBlock = some g → w'.heap[g]? = w.heap[g]?) : w'.ownsRow base e size v n xs := by
  refine ⟨h.1, ?_⟩
  rcases h.2 with hn | ⟨g, cap, cur, hv, hg, hh, rest⟩
  · exact .inl hn
  · exact .inr ⟨g, cap, cur, hv, hg, (hb g (by rw [hv]; rfl)).trans hh, rest⟩
theorem own_below {w w' : World} {base e size n : Nat} {v : Value} {xs : List Value} (h : w.ownsRow base e size v n xs) (hb : Below w.heap.size w w') : w'.ownsRow base e size v n xs :=
  own_moved h fun g hg => hb.block g (World.ownsRow.lt h g hg).2
/-- The last one is cut off. -/
theorem own_pop {w : World} {base e size n cap : Nat} {a : Option Addr} {xs ys : List Value} (h : w.ownsRow base e size (.slice a (n + 1) cap) (n + 1) (xs ++ ys)) (hy : ys.length = size) : w.ownsRow base e size (.slice a n cap) n xs := by
  have h1 := h.1
  rw [List.length_append, Nat.succ_mul] at h1
  have hx : xs.length = n * size := by omega
  refine ⟨hx, ?_⟩
  rcases h.2 with ⟨_, hn⟩ | ⟨g, c, cur, hv, hg, hh, hnc, hcm, hcs, ht⟩
  · exact absurd hn (by omega)
  · injection hv with e1 e2 e3
    subst e1; subst e3
    refine .inr ⟨g, cap, cur, rfl, hg, hh, by omega, hcm, hcs, ?_⟩
    have : (cur.toList.take ((n + 1) * size)).take (n * size) = cur.toList.take (n * size) := by rw [List.take_take, Nat.min_eq_left (by rw [Nat.succ_mul]; omega)]
    rw [← this, ht, List.take_append_of_le_length (by omega), ← hx, List.take_length]
theorem cell_two_new (w : World) (a b : Value) (e : TypeId) : ∀ j u, [a, b][j]? = some u → (w.alloc (.cells #[a, b] e)).cell? ((⟨w.heap.size, 0, none⟩ : Addr).add j) = some u := by
  intro j u hj
  rw [add_plain, Nat.zero_add, cell_of_row _ w.heap.size j _ e (0, 0) (heap_alloc_new w _)]
  match j, hj with
  | 0, hj | 1, hj => simpa using hj
/-- 'stack = append(stack, Open{..})', the struct just laid into a block of its own. -/
theorem wpList_push {ops : Array Oper} {rest : List Oper} {o : Oper} {a : Act} {Q : Exit → Act → World → Prop} {wX : World} (hgd : o.guard = none) (s x : Operand)
    (ho : o.op = .call { callee := .builtin .append, args := #[s, x], argTypes := #[92, 92] }) {base : Nat} {v : Value} {ls : List Lay2} (hO : wX.ownsRow base 91 2 v ls.length (flat2 ls)) (hbase : base ≤ wX.heap.size) (hs : a.eval s = v) (y : Lay2) (hy : y.2.oneCell' = true)
    {B : Nat} (hx : a.eval x = .slice (some ⟨B, 0, none⟩) 1 1) (hB : B = wX.heap.size) (hlen : ls.length ≤ 4096)
    (h : ∀ v' w', w'.ownsRow base 91 2 v' (ls.length + 1) (flat2 (ls ++ [y])) → (wX.alloc (.cells #[.int .i64 y.1, y.2] 91)).grownBy w' v.ownBlock → wpList Try.prog ops Q rest (a.put o.dst v') w') : wpList Try.prog ops Q (o :: rest) a (wX.alloc (.cells #[.int .i64 y.1, y.2] 91)) := by
  subst hB
  obtain ⟨i, hi, hz, hsz, hby⟩ := info_parts infoO
  have hO2 := own_below hO ((Below.refl _ _).alloc (Nat.le_refl _) (.cells #[.int .i64 y.1, y.2] 91))
  refine wpList_append_own_at _ hgd s x 92 ho base 91 i _ 2 32 Try.underlying92 hi hz hsz hby rfl (by decide) v ls.length (flat2 ls) hs hO2 ⟨wX.heap.size, 0, none⟩ 1 1 [.int .i64 y.1, y.2] hx rfl (cell_two_new _ _ _ _) (by intro u hu; simp at hu; rcases hu with rfl | rfl; rfl; exact hy) (by unfold maxLen; omega) (by omega) (by rw [size_alloc]; omega) ?_
  intro v' w' hown hg _ _
  exact h v' w' (by rw [flat2_append]; exact hown) hg
def ints (l : List Nat) : List Value := l.map fun (x : Nat) => Value.int .i64 x
theorem ints_len (l : List Nat) : (ints l).length = l.length := List.length_map ..
/-- Levels as they lie. -/
def LevV (w : World) (base : Nat) (v : Value) (l : List Nat) : Prop := w.ownsRow base 3 1 v l.length (ints l)
theorem LevV.nil (w : World) (base : Nat) : LevV w base (.slice none 0 0) [] := World.ownsRow_nil _ _ _ _
theorem LevV.slice {w : World} {base : Nat} {v : Value} {l : List Nat} (h : LevV w base v l) : ∃ a cap, v = .slice a l.length cap ∧ l.length ≤ cap := by
  rcases h.2 with ⟨rfl, h0⟩ | ⟨g, cap, cur, rfl, _, _, hnc, _⟩
  · exact ⟨none, 0, by rw [h0], by omega⟩
  · exact ⟨_, cap, rfl, hnc⟩
theorem LevV.at {w : World} {base : Nat} {v : Value} {l : List Nat} (h : LevV w base v l) {i : Nat} (hi : i < l.length) : ∃ g cap, v = .slice (some ⟨g, 0, none⟩) l.length cap ∧ w.cell? ⟨g, i, none⟩ = some (.int .i64 (l.getD i 0)) := by
  have hh := h
  rcases h.2 with ⟨rfl, h0⟩ | ⟨g, cap, cur, rfl, _, _, hnc, hcm, _, _⟩
  · omega
  · refine ⟨g, cap, rfl, ?_⟩
    have := World.ownsRow.cellAt hh i (by omega)
    rw [this]
    unfold ints
    rw [List.getElem?_map, List.getElem?_eq_getElem hi, List.getD_eq_getElem?_getD, List.getElem?_eq_getElem hi]
    rfl
end
section
open Go.RowKit
set_option linter.unusedVariables false



def zLay : Lay2 := (0, .slice none 0 0)
def zOp : Op1 := (0, [])
/-- The stack as it lies: from the bottom up; levels from the first on. -/
structure Sc (w wr : World) (v : Value) (st : List Op1) : Prop where
  lays : ∃ ls : List Lay2, ls.length = st.length ∧ wr.ownsRow w.heap.size 91 2 v ls.length (flat2 ls) ∧ ∀ i, i < st.length → (ls.getD i zLay).1 = (st.getD i zOp).1 ∧ LevV wr w.heap.size (ls.getD i zLay).2 (st.getD i zOp).2
  bel : Below w.heap.size w wr
/-- The scan's stack, from the top down, turned. -/
def turn (top : Op1) (st : List Op1) : List Op1 := ((top :: st).map fun x => (x.1, x.2.reverse)).reverse
/-- Where a round stands. -/
def Mark (w wr : World) (v : Value) (l : List W) (i : Nat) (un : Nat) (op : Bool) (R : Option (Nat × List W)) : Prop :=
  ∃ top st, Sc w wr v (turn top st) ∧ scanM (l.drop i) top st un op = R ∧ st.length ≤ i ∧ (∀ x ∈ top :: st, x.1 ≤ 17 ∧ x.2.length ≤ i)
theorem sc_start (w : World) : Sc w (w.alloc (.cells #[.int .i64 1, .slice none 0 0] 91)) (.slice (some ⟨w.heap.size, 0, none⟩) 1 1) (turn (1, []) []) := by
  refine ⟨⟨[(1, .slice none 0 0)], rfl, ⟨rfl, .inr ⟨w.heap.size, 1, #[.int .i64 1, .slice none 0 0], rfl, Nat.le_refl _, heap_alloc_new _ _, Nat.le_refl _, by unfold maxLen; decide, rfl, rfl⟩⟩, fun i hi => ?_⟩, (Below.refl _ _).alloc (Nat.le_refl _) _⟩
  have : i = 0 := by simp [turn] at hi; omega
  subst this
  exact ⟨rfl, LevV.nil _ _⟩
theorem turn_len (top : Op1) (st : List Op1) : (turn top st).length = st.length + 1 := by unfold turn; simp
theorem turn_last (top : Op1) (st : List Op1) : (turn top st).getD st.length zOp = (top.1, top.2.reverse) := by
  unfold turn
  rw [List.map_cons, List.reverse_cons, List.getD_eq_getElem?_getD, List.getElem?_append_right (by simp)]
  simp
/-- The top as it lies. -/
structure TopAt (w wr : World) (v : Value) (top : Op1) (m g cap : Nat) (a : Option Addr) (c : Nat) : Prop where
  v : v = .slice (some ⟨g, 0, none⟩) (m + 1) cap
  cap : m + 1 ≤ cap
  lt : g < wr.heap.size
  c0 : wr.cell? ⟨g, m * 2, none⟩ = some (.int .i64 top.1)
  c1 : wr.cell? ⟨g, m * 2 + 1, none⟩ = some (.slice a top.2.length c)
  lev : LevV wr w.heap.size (.slice a top.2.length c) top.2.reverse
theorem Sc.top {w wr : World} {v : Value} {top : Op1} {st : List Op1} (h : Sc w wr v (turn top st)) : ∃ g cap a c, TopAt w wr v top st.length g cap a c := by
  obtain ⟨ls, h1, h2, h3⟩ := h.lays
  rw [turn_len] at h1
  have hh := h2
  obtain ⟨e1, e2⟩ := h3 st.length (by rw [turn_len]; omega)
  rw [turn_last] at e1 e2
  obtain ⟨a, c, e3, e4⟩ := e2.slice
  rw [e3] at e2
  rw [List.length_reverse] at e2 e3
  obtain ⟨f0, f1⟩ := flat2_at ls (i := st.length) (by omega)
  rcases h2.2 with ⟨_, h0⟩ | ⟨g, cap, cur, hv, hg, hb, hnc, hcm, hcs, _⟩
  · omega
  · subst hv
    have k0 := World.ownsRow.cellAt hh (st.length * 2) (by omega)
    have k1 := World.ownsRow.cellAt hh (st.length * 2 + 1) (by omega)
    have hz : (ls.getD st.length (0, .slice none 0 0)) = ls.getD st.length zLay := rfl
    rw [hz] at f0 f1
    refine ⟨g, cap, a, c, by rw [h1], by omega, (Array.getElem?_eq_some_iff.1 hb).1, ?_, ?_, e2⟩
    · rw [k0, f0, e1]
    · rw [k1, f1, e3]
end
section
open Go.RowKit
set_option linter.unusedVariables false



theorem drop_cons {l : List W} {j : Nat} (h : j < l.length) : l.drop j = atL l j :: l.drop (j + 1) := by
  rw [List.drop_eq_getElem_cons h]
  unfold atL
  rw [List.getD_eq_getElem?_getD, List.getElem?_eq_getElem h]; rfl
section
variable {l : List W} {j : Nat} {top : Op1} {st : List Op1} {un : Nat} {R : Option (Nat × List W)}
theorem sc_deep {op : Bool} (hop : op = true) (h : scanM (l.drop j) top st un op = R) (hd : 16 < top.1 + top.2.length + un) : R = some (6, l.drop j) := by
  subst hop
  rw [← h]
  cases l.drop j with
  | nil => exact if_pos hd
  | cons x r => exact if_pos hd
theorem sc_sign (h : scanM (l.drop j) top st un true = R) (hj : j < l.length) (hd : ¬ 16 < top.1 + top.2.length + un) (hs : isW (atL l j) 45 = true ∨ isW (atL l j) 33 = true) : scanM (l.drop (j + 1)) top st (un + 1) true = R := by
  rw [drop_cons hj] at h
  unfold scanM at h
  rw [if_neg hd, if_pos (by rcases hs with h | h <;> simp [h])] at h
  exact h
theorem sc_open (h : scanM (l.drop j) top st un true = R) (hj : j < l.length) (hd : ¬ 16 < top.1 + top.2.length + un) (h1 : isW (atL l j) 45 = false) (h2 : isW (atL l j) 33 = false) (h3 : isW (atL l j) 40 = true) : scanM (l.drop (j + 1)) (top.1 + top.2.length + un + 1, []) (top :: st) 0 true = R := by
  rw [drop_cons hj] at h
  unfold scanM at h
  rw [if_neg hd, if_neg (by simp [h1, h2]), if_pos h3] at h
  exact h
theorem sc_word (h : scanM (l.drop j) top st un true = R) (hj : j < l.length) (hd : ¬ 16 < top.1 + top.2.length + un) (hk : (atL l j).kind = 1 ∨ (atL l j).kind = 2) : scanM (l.drop (j + 1)) top st 0 false = R := by
  have h3 : (atL l j).kind ≠ 3 := by omega
  rw [drop_cons hj] at h
  unfold scanM at h
  rw [if_neg hd, if_neg (by simp [isW_no h3]), if_neg (by simp [isW_no h3]), if_pos hk] at h
  exact h
theorem sc_else (h : scanM (l.drop j) top st un true = R) (hj : j < l.length) (hd : ¬ 16 < top.1 + top.2.length + un) (h1 : isW (atL l j) 45 = false) (h2 : isW (atL l j) 33 = false) (h3 : isW (atL l j) 40 = false) (hk : ¬ ((atL l j).kind = 1 ∨ (atL l j).kind = 2)) : R = some (3, l.drop j) := by
  rw [← h, drop_cons hj]
  conv => lhs; unfold scanM
  rw [if_neg hd, if_neg (by simp [h1, h2]), if_neg (by simp [h3]), if_neg hk]
theorem sc_end (h : scanM (l.drop j) top st un true = R) (hj : j = l.length) (hd : ¬ 16 < top.1 + top.2.length + un) : R = some (3, []) := by
  rw [← h, hj, List.drop_length]
  exact if_neg hd
theorem sc_shut {t2 : Op1} {s2 : List Op1} (h : scanM (l.drop j) top (t2 :: s2) un false = R) (hj : j < l.length) (h1 : isW (atL l j) 41 = true) : scanM (l.drop (j + 1)) t2 s2 0 false = R := by
  rw [drop_cons hj] at h
  unfold scanM at h
  rw [if_pos (by simp [h1])] at h
  exact h
theorem sc_bad (h : scanM (l.drop j) top st un false = R) (hj : j < l.length) (h1 : isW (atL l j) 41 = true → st = []) (hb : levW (atL l j) = 6 ∨ headIs (levW (atL l j)) (popK (levW (atL l j)) top.2) = true ∧ levW (atL l j) = 3) : R = some (3, l.drop j) := by
  rw [← h, drop_cons hj]
  conv => lhs; unfold scanM
  rw [if_neg (by intro h; simp only [Bool.and_eq_true] at h; have := h1 h.1; subst this; simp at h), if_pos hb]
theorem sc_next (h : scanM (l.drop j) top st un false = R) (hj : j < l.length) (h1 : isW (atL l j) 41 = true → st = []) (hb : ¬ (levW (atL l j) = 6 ∨ headIs (levW (atL l j)) (popK (levW (atL l j)) top.2) = true ∧ levW (atL l j) = 3)) : scanM (l.drop (j + 1)) (top.1, pushK (levW (atL l j)) top.2) st 0 true = R := by
  rw [drop_cons hj] at h
  unfold scanM at h
  rw [if_neg (by intro h; simp only [Bool.and_eq_true] at h; have := h1 h.1; subst this; simp at h), if_neg hb] at h
  exact h
theorem sc_stop (h : scanM (l.drop j) top st un false = R) (hj : j = l.length) : R = if st = [] then none else some (3, []) := by
  rw [← h, hj, List.drop_length]; rfl
end
theorem se_at {l : List W} {R : Option (Nat × List W)} (HR : scanM l (1, []) [] 0 true = R) {en e j : Nat} (h : R = some (e, l.drop j)) (hj : j < l.length) : scanE en l = (e, (atL l j).pos) := by
  unfold scanE; rw [HR, h, drop_cons hj]; rfl
theorem se_end {l : List W} {R : Option (Nat × List W)} (HR : scanM l (1, []) [] 0 true = R) {en e : Nat} (h : R = some (e, [])) : scanE en l = (e, en) := by
  unfold scanE; rw [HR, h]; rfl
theorem se_ok {l : List W} {R : Option (Nat × List W)} (HR : scanM l (1, []) [] 0 true = R) {en : Nat} (h : R = none) : scanE en l = (0, 0) := by
  unfold scanE; rw [HR, h]
theorem turn_cons (a b : Op1) (st : List Op1) : turn a (b :: st) = turn b st ++ [(a.1, a.2.reverse)] := by
  unfold turn
  rw [List.map_cons, List.reverse_cons]
end
section
open Go.RowKit Go.Maps
set_option linter.unusedVariables false



theorem lev_apart {w : World} {base n : Nat} {v u : Value} {xs : List Value} {l : List Nat} (h : w.ownsRow base 91 2 v n xs) (hl : LevV w base u l) : u.ownBlock = none ∨ u.ownBlock ≠ v.ownBlock := by
  rcases hl.2 with ⟨rfl, _⟩ | ⟨g, cap, cur, rfl, _, hg, _⟩
  · exact .inl rfl
  · right
    rcases h.2 with ⟨rfl, _⟩ | ⟨g2, cap2, cur2, rfl, _, hg2, _⟩
    · simp [Value.ownBlock]
    · intro e
      simp only [Value.ownBlock, Option.some.injEq] at e
      subst e
      rw [hg] at hg2
      simp at hg2
theorem Sc.below {w wr wX : World} {v : Value} {st : List Op1} (h : Sc w wr v st) (hb : Below wr.heap.size wr wX) : Sc w wX v st := by
  obtain ⟨ls, h1, h2, h3⟩ := h.lays
  exact ⟨⟨ls, h1, own_below h2 hb, fun i hi => ⟨(h3 i hi).1, own_below (h3 i hi).2 hb⟩⟩, h.bel.trans (hb.mono h.bel.size)⟩
theorem getD_two {α β : Type} {ls : List α} {st : List β} (h : ls.length = st.length) (y a : α) (x b : β) {p : α → β → Prop} (h3 : ∀ i, i < st.length → p (ls.getD i a) (st.getD i b)) (hp : p y x) : ∀ i, i < (st ++ [x]).length → p ((ls ++ [y]).getD i a) ((st ++ [x]).getD i b) := by
  intro i hi
  rw [List.length_append] at hi
  simp only [List.length_singleton] at hi
  by_cases e : i < st.length
  · have := h3 i e
    simp only [List.getD_eq_getElem?_getD] at this ⊢
    rw [List.getElem?_append_left (by omega), List.getElem?_append_left e]
    exact this
  · have : i = st.length := by omega
    subst this
    simp only [List.getD_eq_getElem?_getD]
    rw [List.getElem?_append_right (by omega), List.getElem?_append_right (by omega), h]
    simpa using hp
theorem Sc.pushed {w wX w' : World} {v v' : Value} {st : List Op1} {ls : List Lay2} {o : Obj} {d : Nat} (hb : Below w.heap.size w wX) (h1 : ls.length = st.length) (h2 : wX.ownsRow w.heap.size 91 2 v ls.length (flat2 ls))
    (h3 : ∀ i, i < st.length → (ls.getD i zLay).1 = (st.getD i zOp).1 ∧ LevV wX w.heap.size (ls.getD i zLay).2 (st.getD i zOp).2)
    (hown : w'.ownsRow w.heap.size 91 2 v' (ls.length + 1) (flat2 (ls ++ [(d, .slice none 0 0)]))) (hg : (wX.alloc o).grownBy w' v.ownBlock) : Sc w w' v' (st ++ [(d, [])]) := by
  refine ⟨⟨ls ++ [(d, .slice none 0 0)], by simp [h1], by rw [List.length_append]; exact hown, ?_⟩, ?_⟩
  · refine getD_two h1 _ zLay _ zOp (p := fun y x => y.1 = x.1 ∧ LevV w' w.heap.size y.2 x.2) (fun i hi => ⟨(h3 i hi).1, ?_⟩) ⟨rfl, LevV.nil _ _⟩
    exact World.ownsRow.kept (World.ownsRow.alloc (h3 i hi).2 o) hg (lev_apart h2 (h3 i hi).2)
  · exact (hb.alloc hb.size o).grown hg (Nat.le_trans hb.size (le_alloc _ _)) (fun k hk => (World.ownsRow.lt h2 k hk).1)
theorem take_last {α : Type} {l : List α} {n : Nat} (h : l.length = n + 1) (z : α) : l = l.take n ++ [l.getD n z] := by
  conv => lhs; rw [← List.take_append_drop n l]
  congr 1
  rw [List.drop_eq_getElem_cons (by omega), List.getD_eq_getElem?_getD, List.getElem?_eq_getElem (by omega), List.drop_eq_nil_of_le (by omega)]
  rfl
theorem getD_front {β : Type} {st : List β} {x b : β} {i : Nat} (h : i < st.length) : (st ++ [x]).getD i b = st.getD i b := by
  simp only [List.getD_eq_getElem?_getD]
  rw [List.getElem?_append_left h]
theorem getD_take {α : Type} {l : List α} {n i : Nat} {z : α} (h : i < n) : (l.take n).getD i z = l.getD i z := by
  simp only [List.getD_eq_getElem?_getD]
  rw [List.getElem?_take_of_lt h]
theorem flat2_take {ls : List Lay2} {n : Nat} (h : ls.length = n + 1) : flat2 ls = flat2 (ls.take n) ++ [.int .i64 (ls.getD n zLay).1, (ls.getD n zLay).2] := by
  conv => lhs; rw [take_last h zLay, flat2_append]
  rfl
theorem Sc.popped {w wr : World} {a : Option Addr} {n cap : Nat} {st : List Op1} {x : Op1} (h : Sc w wr (.slice a (n + 1) cap) (st ++ [x])) (hn : st.length = n) : Sc w wr (.slice a n cap) st := by
  obtain ⟨ls, h1, h2, h3⟩ := h.lays
  have h1' : ls.length = n + 1 := by rw [h1, List.length_append, hn]; rfl
  have hlt : (ls.take n).length = n := by rw [List.length_take]; omega
  refine ⟨⟨ls.take n, by omega, ?_, ?_⟩, h.bel⟩
  · rw [hlt]
    rw [h1', flat2_take h1'] at h2
    exact own_pop h2 rfl
  · intro i hi
    have := h3 i (by rw [List.length_append]; omega)
    rw [getD_front hi] at this
    rw [getD_take (by omega)]
    exact this
theorem set_two {xs : List Value} {n : Nat} (h : xs.length = n) (a b c d : Value) : ((xs ++ [a, b]).set n c).set (n + 1) d = xs ++ [c, d] := by
  rw [List.set_append_right _ _ (by omega), List.set_append_right _ _ (by omega)]
  congr 1
  rw [show n - xs.length = 0 by omega, show n + 1 - xs.length = 1 by omega]
  rfl
theorem Sc.stored {w wr : World} {g n cap : Nat} {st : List Op1} {x : Op1} (h : Sc w wr (.slice (some ⟨g, 0, none⟩) (n + 1) cap) (st ++ [x])) (hn : st.length = n) {u : Value} {lv : List Nat} (hl : LevV wr w.heap.size u lv) (d : Nat) : Sc w ((wr.setCell ⟨g, n * 2, none⟩ (.int .i64 d)).setCell ⟨g, n * 2 + 1, none⟩ u) (.slice (some ⟨g, 0, none⟩) (n + 1) cap) (st ++ [(d, lv)]) := by
  obtain ⟨ls, h1, h2, h3⟩ := h.lays
  have h1' : ls.length = n + 1 := by rw [h1, List.length_append, hn]; rfl
  have hlt : (ls.take n).length = n := by rw [List.length_take]; omega
  rw [h1'] at h2
  have hg := (World.ownsRow.lt h2 g rfl)
  obtain ⟨k1, g1⟩ := World.ownsRow.stored h2 (n * 2) (.int .i64 d)
  obtain ⟨k2, g2⟩ := World.ownsRow.stored k1 (n * 2 + 1) u
  rw [flat2_take h1', set_two (by rw [flat2_len, hlt])] at k2
  have key : ∀ {y : Value} {m : List Nat}, LevV wr w.heap.size y m → LevV ((wr.setCell ⟨g, n * 2, none⟩ (.int .i64 d)).setCell ⟨g, n * 2 + 1, none⟩ u) w.heap.size y m := fun hy =>
    World.ownsRow.kept (World.ownsRow.kept hy g1 (lev_apart h2 hy)) g2 (lev_apart h2 hy)
  refine ⟨⟨ls.take n ++ [(d, u)], by simp [hn]; omega, ?_, ?_⟩, (h.bel.setCell hg.1 _).setCell hg.1 _⟩
  · rw [List.length_append, hlt, flat2_append]
    exact k2
  · refine getD_two (by omega) _ zLay _ zOp (p := fun y x => y.1 = x.1 ∧ LevV ((wr.setCell ⟨g, n * 2, none⟩ (.int .i64 d)).setCell ⟨g, n * 2 + 1, none⟩ u) w.heap.size y.2 x.2) (fun i hi => ?_) ⟨rfl, key hl⟩
    have := h3 i (by rw [List.length_append]; omega)
    rw [getD_front hi] at this
    rw [getD_take (by omega)]
    exact ⟨this.1, key this.2⟩
/-- Levels that were cut. -/
theorem LevV.cut {w : World} {base n c : Nat} {a : Option Addr} {l : List Nat} (h : LevV w base (.slice a l.length c) l) (hn : n ≤ l.length) : LevV w base (.slice a n c) (l.take n) ∨ (a = none ∧ n = 0) := by
  rcases h.2 with ⟨e, h0⟩ | ⟨g, cap, cur, e, hb, hg, hnc, hcm, hcs, ht⟩
  · injection e with e1 e2 e3
    exact .inr ⟨e1, by omega⟩
  · injection e with e1 e2 e3
    subst e1; subst e3
    left
    have hl : (l.take n).length = n := by rw [List.length_take]; omega
    unfold LevV
    rw [hl]
    refine ⟨by rw [ints_len, hl]; omega, .inr ⟨g, c, cur, rfl, hb, hg, by omega, hcm, hcs, ?_⟩⟩
    have : (cur.toList.take (l.length * 1)).take (n * 1) = cur.toList.take (n * 1) := by rw [List.take_take, Nat.min_eq_left (by omega)]
    rw [← this, ht, Nat.mul_one]
    unfold ints
    rw [List.map_take]
end
section
open Go.RowKit Go.Maps
set_option linter.unusedVariables false


theorem LevV.cuts {w : World} {base n c : Nat} {a : Option Addr} {l : List Nat} (h : LevV w base (.slice a l.length c) l) (hn : n ≤ l.length) : LevV w base (.slice a n c) (l.take n) := by
  rcases h.2 with ⟨e, h0⟩ | ⟨g, cap, cur, e, hb, hg, hnc, hcm, hcs, ht⟩
  · injection e with e1 e2 e3
    subst e1; subst e3
    have h1 : n = 0 := by omega
    subst h1
    exact LevV.nil _ _
  · injection e with e1 e2 e3
    subst e1; subst e3
    have hl : (l.take n).length = n := by rw [List.length_take]; omega
    unfold LevV
    rw [hl]
    refine ⟨by rw [ints_len, hl]; omega, .inr ⟨g, c, cur, rfl, hb, hg, by omega, hcm, hcs, ?_⟩⟩
    have : (cur.toList.take (l.length * 1)).take (n * 1) = cur.toList.take (n * 1) := by rw [List.take_take, Nat.min_eq_left (by omega)]
    rw [← this, ht, Nat.mul_one]
    unfold ints
    rw [List.map_take]
theorem LevV.mono {w : World} {b b2 : Nat} {v : Value} {l : List Nat} (h : LevV w b v l) (hb : b2 ≤ b) : LevV w b2 v l := by
  refine ⟨h.1, ?_⟩
  rcases h.2 with h | ⟨g, cap, cur, e, hg, rest⟩
  · exact .inl h
  · exact .inr ⟨g, cap, cur, e, Nat.le_trans hb hg, rest⟩
theorem rev_take {pre l : List Nat} : ((pre ++ l).reverse).take l.length = l.reverse := by
  rw [List.reverse_append]
  have := List.take_left (l₁ := l.reverse) (l₂ := pre.reverse)
  rw [List.length_reverse] at this
  exact this
/-- What is left of the levels. -/
theorem LevV.left {w : World} {base c tn : Nat} {a : Option Addr} {t l : List Nat} (h : LevV w base (.slice a tn c) t.reverse) (ht : t.length = tn) (hs : l <:+ t) : LevV w base (.slice a l.length c) l.reverse := by
  obtain ⟨pre, rfl⟩ := hs
  have := LevV.cuts (n := l.length) (by rw [List.length_reverse, ht]; exact h) (by rw [List.length_reverse, List.length_append]; omega)
  rw [rev_take] at this
  exact this
theorem lev_last {w : World} {base c : Nat} {a : Option Addr} {x : Nat} {r : List Nat} (h : LevV w base (.slice a (r.length + 1) c) (x :: r).reverse) : ∃ gl, a = some ⟨gl, 0, none⟩ ∧ gl < w.heap.size ∧ w.cell? ⟨gl, r.length, none⟩ = some (.int .i64 x) ∧ r.length + 1 ≤ c := by
  obtain ⟨g, cap, e, hc⟩ := h.at (i := r.length) (by simp)
  injection e with e1 e2 e3
  obtain ⟨a2, c2, e4, hc2⟩ := h.slice
  injection e4 with e5 e6 e7
  refine ⟨g, e1, World.block_lt_of_cell? _ _ hc, ?_, ?_⟩
  · rw [hc, List.reverse_cons, List.getD_eq_getElem?_getD, List.getElem?_append_right (by simp)]
    simp
  · rw [e7]; simpa using hc2
theorem infoL : (Try.prog.info? 3).map (fun i => (i.zero, i.size, i.bytes)) = some (some (.int .i64 0), 1, 8) := by kernel_rfl
theorem wpList_levs {ops : Array Oper} {rest : List Oper} {o : Oper} {a : Act} {Q : Exit → Act → World → Prop} {w : World} (hgd : o.guard = none) (s x : Operand)
    (ho : o.op = .call { callee := .builtin .append, args := #[s, x], argTypes := #[89, 89] }) (hs : a.eval s = .slice none 0 0) {base tc n : Nat} {ta : Option Addr} {lv : List Nat} (hx : a.eval x = .slice ta n tc) (hl : LevV w base (.slice ta n tc) lv) (hn : lv.length = n) (hlen : n ≤ 4096)
    (h : ∀ v' w', LevV w' w.heap.size v' lv → w.grownBy w' none → wpList Try.prog ops Q rest (a.put o.dst v') w') : wpList Try.prog ops Q (o :: rest) a w := by
  obtain ⟨i, hi, hz, hsz, hby⟩ := info_parts infoL
  subst hn
  rcases hl.2 with ⟨e, h0⟩ | ⟨g, cap, cur, e, hb, hg, hnc, hcm, hcs, ht⟩
  · have : lv = [] := List.length_eq_zero_iff.1 h0
    subst this
    injection e with e1 e2 e3
    subst e1; subst e3
    exact wpList_append_own_none hgd s x 89 ho w.heap.size 3 i 1 Try.underlying89 hi (.slice none 0 0) 0 [] hs (World.ownsRow_nil _ _ _ _) hx (h _ _ (LevV.nil _ _) ⟨rfl, rfl, rfl, Nat.le_refl _, fun _ _ _ => rfl⟩)
  · injection e with e1 e2 e3
    subst e1; subst e3
    refine wpList_append_own_at _ hgd s x 89 ho w.heap.size 3 i _ 1 8 Try.underlying89 hi hz hsz hby rfl (by decide) (.slice none 0 0) 0 [] hs (World.ownsRow_nil _ _ _ _) ⟨g, 0, none⟩ lv.length tc (ints lv) hx (by rw [ints_len]; omega) (World.ownsRow.cells hl rfl) (by intro u hu; unfold ints at hu; obtain ⟨y, _, rfl⟩ := List.mem_map.1 hu; rfl) (by unfold maxLen; omega) (by omega) (Nat.le_refl _) ?_
    intro v' w' hown hgr _ _
    refine h v' w' ?_ hgr
    rw [Nat.zero_add] at hown
    exact hown
theorem wpList_lev1 {ops : Array Oper} {rest : List Oper} {o : Oper} {a : Act} {Q : Exit → Act → World → Prop} {wX : World} (hgd : o.guard = none) (s x : Operand)
    (ho : o.op = .call { callee := .builtin .append, args := #[s, x], argTypes := #[89, 89] }) {base B : Nat} {v : Value} {lv : List Nat} (k : Nat) (hl : LevV wX base v lv) (hbase : base ≤ wX.heap.size) (hs : a.eval s = v) (hx : a.eval x = .slice (some ⟨B, 0, none⟩) 1 1) (hB : B = wX.heap.size) (hlen : lv.length ≤ 4096)
    (h : ∀ v' w', LevV w' base v' (lv ++ [k]) → (wX.alloc (.cells #[.int .i64 k] 3)).grownBy w' v.ownBlock → wpList Try.prog ops Q rest (a.put o.dst v') w') : wpList Try.prog ops Q (o :: rest) a (wX.alloc (.cells #[.int .i64 k] 3)) := by
  subst hB
  obtain ⟨i, hi, hz, hsz, hby⟩ := info_parts infoL
  refine wpList_append_own_at _ hgd s x 89 ho base 3 i _ 1 8 Try.underlying89 hi hz hsz hby rfl (by decide) v lv.length (ints lv) hs (World.ownsRow.alloc hl _) ⟨wX.heap.size, 0, none⟩ 1 1 [.int .i64 k] hx rfl (cell_one_new _ _ _) (by intro u hu; simp at hu; rw [hu]; rfl) (by unfold maxLen; omega) (by omega) (by rw [size_alloc]; omega) ?_
  intro v' w' hown hgr _ _
  refine h v' w' ?_ hgr
  unfold LevV
  rw [show ints (lv ++ [k]) = ints lv ++ [.int .i64 k] from List.map_append .., List.length_append]
  exact hown
/-- The top as it lies, and that it may be written. -/
theorem Sc.open {w wr : World} {g n cap : Nat} {st : List Op1} (h : Sc w wr (.slice (some ⟨g, 0, none⟩) (n + 1) cap) st) (hn : st.length = n + 1) : g < wr.heap.size ∧ (∃ y0, wr.cell? ⟨g, n * 2, none⟩ = some y0) ∧ (∃ y1, wr.cell? ⟨g, n * 2 + 1, none⟩ = some y1) ∧ ∀ i, wr.frozen? ⟨g, i, none⟩ = false := by
  obtain ⟨ls, h1, h2, _⟩ := h.lays
  have hls : ls.length = n + 1 := by omega
  rw [hls] at h2
  obtain ⟨f0, f1⟩ := flat2_at ls (i := n) (by omega)
  have k0 := World.ownsRow.cellAt h2 (n * 2) (by omega)
  have k1 := World.ownsRow.cellAt h2 (n * 2 + 1) (by omega)
  rcases h2.2 with ⟨e, _⟩ | ⟨g2, cap2, cur, e, hb, hg, _⟩
  · cases e
  · injection e with e1 e2 e3
    injection e1 with e1
    injection e1 with e1 _ _
    subst e1
    exact ⟨(Array.getElem?_eq_some_iff.1 hg).1, ⟨_, k0.trans f0⟩, ⟨_, k1.trans f1⟩, fun i => by simp [World.frozen?, hg]⟩
theorem lv_six {x : W} (h : kindW x = 0) : levW x = 6 := by unfold levW; rw [h]; rfl
theorem lv_top (x : W) : levW x ≤ 6 := by
  unfold levW rowK
  repeat' split
  all_goals decide
theorem kd_shut {x : W} (h : isW x 41 = true) : kindW x = 0 := by
  unfold isW at h
  simp only [Bool.and_eq_true, decide_eq_true_eq] at h
  unfold kindW
  rw [if_pos h.1, h.2]; rfl
theorem suffix_tail {x : Nat} {r t : List Nat} (h : (x :: r) <:+ t) : r <:+ t := (List.suffix_cons x r).trans h
end
end Go.Proofs.Ytfjphlejhcdbaaa
