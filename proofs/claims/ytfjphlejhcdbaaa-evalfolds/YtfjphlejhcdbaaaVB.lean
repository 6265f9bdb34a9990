/-
  give: a variable has a number: the contract.
-/
import Derived.Test.YtfjphlejhcdbaaaVA
import Derived.Lib.Overlaps
import Derived.Laws.IdiomCopy
import Derived.Laws.NewBlocks
import Derived.Shelf.RegionOpenPlain
import Derived.Lib.AppendZerosOnto
import Derived.Deep.RegionWith
import Derived.Lib.ConvBytes
import Derived.Deep.Slices
import Derived.SliceStrings
import Derived.SizedLaws
namespace Go.Proofs.Ytfjphlejhcdbaaa
namespace V
open Go.RowKit Pack
set_option linter.unusedVariables false


/-- Variables of the call's own, in a block of their own. -/
def Vr (w : World) (p : Nat) (l : VL) : Prop := ∃ sn sv, Two w p sn sv ∧ Ow w (p + 1) 9 sn (strsV (nmsOf l)) ∧ Ow w (p + 1) 2 sv (intsV (valsOf l))
theorem Vr.below {w w' : World} {p : Nat} {l : VL} (h : Vr w p l) (hb : Below w.heap.size w w') : Vr w' p l := by
  obtain ⟨sn, sv, h1, h2, h3⟩ := h
  exact ⟨sn, sv, h1.below hb, h2.below hb, h3.below hb⟩
theorem ow_apart {w : World} {b1 b2 : Nat} {v u : Value} {l m : List Value} (h1 : Ow w b1 9 v l) (h2 : Ow w b2 2 u m) : u.ownBlock = none ∨ u.ownBlock ≠ v.ownBlock := by
  rcases h2.2 with ⟨rfl, _⟩ | ⟨g, cap, cur, rfl, _, hg, _⟩
  · exact .inl rfl
  · refine .inr fun e => ?_
    rcases h1.2 with ⟨rfl, _⟩ | ⟨g', cap', cur', rfl, _, hg', _⟩
    · cases e
    · injection e with e
      have e : g = g' := e
      subst e
      rw [hg] at hg'
      injection hg' with h
      injection h with _ h _
      cases h
theorem ow_kept {w w' : World} {b2 : Nat} {u : Value} {m : List Value} {r : Option Nat} (h2 : Ow w b2 2 u m) (hg : w.grownBy w' r) (hr : u.ownBlock = none ∨ u.ownBlock ≠ r) : Ow w' b2 2 u m := by
  refine h2.kept fun k hk => hg.block k (World.ownsRow.lt h2 k hk).2 ?_
  rcases hr with h | h
  · rw [h] at hk; cases hk
  · rw [← hk]; exact h
theorem ow_kept9 {w w' : World} {b2 : Nat} {u : Value} {m : List Value} {r : Option Nat} (h2 : Ow w b2 9 u m) (hg : w.grownBy w' r) (hr : u.ownBlock = none ∨ u.ownBlock ≠ r) : Ow w' b2 9 u m := by
  refine h2.kept fun k hk => hg.block k (World.ownsRow.lt h2 k hk).2 ?_
  rcases hr with h | h
  · rw [h] at hk; cases hk
  · rw [← hk]; exact h
theorem apart_sym {v u : Value} (h : u.ownBlock = none ∨ u.ownBlock ≠ v.ownBlock) : v.ownBlock = none ∨ v.ownBlock ≠ u.ownBlock := by
  rcases h with h | h
  · by_cases e : v.ownBlock = none
    · exact .inl e
    · exact .inr fun e2 => e (e2.trans h)
  · exact .inr fun e => h e.symm
theorem two_kept {w w' : World} {p : Nat} {x y : Value} {r : Option Nat} (h : Two w p x y) (hg : w.grownBy w' r) (hr : r ≠ some p) : Two w' p x y := by
  have hb := hg.block p h.lt (fun e => hr e.symm)
  exact ⟨Nat.lt_of_lt_of_le h.lt hg.size, (World.cell?_of_block (a := ⟨p, 0, none⟩) hb).trans h.c0, (World.cell?_of_block (a := ⟨p, 1, none⟩) hb).trans h.c1, (World.frozen?_of_block (a := ⟨p, 0, none⟩) hb).trans h.f0, (World.frozen?_of_block (a := ⟨p, 1, none⟩) hb).trans h.f1⟩
theorem ow_block {w : World} {p : Nat} {t : TypeId} {v : Value} {l : List Value} (h : Ow w (p + 1) t v l) : v.ownBlock ≠ some p := fun e => by have := (World.ownsRow.lt h p e).1; omega
theorem ow_set {w : World} {p : Nat} {t : TypeId} {v : Value} {l : List Value} (h : Ow w (p + 1) t v l) (o : Nat) (u : Value) : Ow (w.setCell ⟨p, o, none⟩ u) (p + 1) t v l := ownsRow_setCell_below h (by show p < p + 1; omega) u
theorem two_set0 {w : World} {p : Nat} {x y : Value} (h : Two w p x y) (u : Value) : Two (w.setCell ⟨p, 0, none⟩ u) p u y := by
  refine ⟨by simpa [World.setCell] using h.lt, ?_, ?_, by rw [World.frozen?_setCell]; exact h.f0, by rw [World.frozen?_setCell]; exact h.f1⟩
  · exact World.cell?_setCell_same' w _ u (by rw [h.c0]; rfl)
  · exact (World.cell?_setCell_other w (a := ⟨p, 0, none⟩) (b := ⟨p, 1, none⟩) u (by simp)).trans h.c1
theorem two_set1 {w : World} {p : Nat} {x y : Value} (h : Two w p x y) (u : Value) : Two (w.setCell ⟨p, 1, none⟩ u) p x u := by
  refine ⟨by simpa [World.setCell] using h.lt, ?_, ?_, by rw [World.frozen?_setCell]; exact h.f0, by rw [World.frozen?_setCell]; exact h.f1⟩
  · exact (World.cell?_setCell_other w (a := ⟨p, 1, none⟩) (b := ⟨p, 0, none⟩) u (by simp)).trans h.c0
  · exact World.cell?_setCell_same' w _ u (by rw [h.c1]; rfl)
/-- What is neither the block p nor a row of texts or numbers stays. -/
def Keeps (p : Nat) (w w' : World) : Prop := ∀ k cur t fz, k ≠ p → w.heap[k]? = some (.cells cur t fz) → t ≠ 9 → t ≠ 2 → w'.heap[k]? = some (.cells cur t fz)
theorem Keeps.refl (p : Nat) (w : World) : Keeps p w w := fun _ _ _ _ _ h _ _ => h
theorem Keeps.trans {p : Nat} {a b c : World} (h1 : Keeps p a b) (h2 : Keeps p b c) : Keeps p a c := fun k cur t fz a1 a2 a3 a4 => h2 k cur t fz a1 (h1 k cur t fz a1 a2 a3 a4) a3 a4
theorem Keeps.set {p : Nat} {w w' : World} (h : Keeps p w w') (o : Nat) (u : Value) : Keeps p w (w'.setCell ⟨p, o, none⟩ u) := fun k cur t fz a1 a2 a3 a4 => (heap_setCell_other w' ⟨p, o, none⟩ k u a1).trans (h k cur t fz a1 a2 a3 a4)
end V
namespace V
open Go.RowKit Pack
set_option linter.unusedVariables false


/-- Variables as they come in. -/
abbrev VP := List ByteArray × List Int
def errs : List VP → Nat
  | [] => 0
  | v :: r => if chk v.1 v.2 ≠ 0 then chk v.1 v.2 else errs r
def zipV (v : VP) : VL := v.1.zip v.2
def putAll (a m : VL) : VL := m.foldl (fun a p => putM a p.1 p.2) a
def allM (xs : List VP) : VL := xs.foldl (fun a v => putAll a (zipV v)) []
/-- Of's answer. -/
def ofM (xs : List VP) : Nat × VL := if errs xs ≠ 0 then (errs xs, []) else if 64 < (allM xs).length then (6, []) else (0, allM xs)
theorem errs_drop {xs : List VP} {i : Nat} (hi : i < xs.length) : errs (xs.drop i) = if chk (xs.getD i ([], [])).1 (xs.getD i ([], [])).2 ≠ 0 then chk (xs.getD i ([], [])).1 (xs.getD i ([], [])).2 else errs (xs.drop (i + 1)) := by
  rw [List.drop_eq_getElem_cons hi, errs, List.getD_eq_getElem?_getD, List.getElem?_eq_getElem hi]; rfl
theorem errs_ok : ∀ {xs : List VP}, errs xs = 0 → ∀ v ∈ xs, chk v.1 v.2 = 0
  | [], _, v, hv => by simp at hv
  | x :: r, h, v, hv => by
    unfold errs at h
    by_cases hx : chk x.1 x.2 = 0
    · rw [if_neg (by omega)] at h
      rcases List.mem_cons.1 hv with rfl | hv
      · exact hx
      · exact errs_ok h v hv
    · rw [if_pos hx] at h; omega
theorem errs_all : ∀ {xs : List VP}, (∀ v ∈ xs, chk v.1 v.2 = 0) → errs xs = 0
  | [], _ => rfl
  | x :: r, h => by
    unfold errs
    rw [if_neg (by rw [h x (by simp)]; simp)]
    exact errs_all fun v hv => h v (by simp [hv])
theorem putAll_step {a m : VL} {k : Nat} (hk : k < m.length) : putAll a (m.take (k + 1)) = putM (putAll a (m.take k)) m[k].1 m[k].2 := by
  unfold putAll
  rw [List.take_succ_eq_append_getElem hk, List.foldl_append]; rfl
theorem allM_step {xs : List VP} {i : Nat} (hi : i < xs.length) : allM (xs.take (i + 1)) = putAll (allM (xs.take i)) (zipV xs[i]) := by
  unfold allM
  rw [List.take_succ_eq_append_getElem hi, List.foldl_append]; rfl
theorem putAll_srt : ∀ {m a : VL}, Srt (nmsOf a) → Srt (nmsOf (putAll a m))
  | [], a, h => h
  | p :: m, a, h => putAll_srt (m := m) (putM_srt h)
theorem allM_srt_from : ∀ {xs : List VP} {a : VL}, Srt (nmsOf a) → Srt (nmsOf (xs.foldl (fun a v => putAll a (zipV v)) a))
  | [], a, h => h
  | x :: xs, a, h => allM_srt_from (xs := xs) (putAll_srt h)
theorem allM_srt (xs : List VP) : Srt (nmsOf (allM xs)) := allM_srt_from (a := []) List.Pairwise.nil
theorem putAll_len : ∀ (m a : VL), a.length ≤ (putAll a m).length ∧ (putAll a m).length ≤ a.length + m.length
  | [], a => ⟨Nat.le_refl _, Nat.le_refl _⟩
  | p :: m, a => by
    have h1 := putM_len a p.1 p.2
    have h2 := putAll_len m (putM a p.1 p.2)
    have e : putAll a (p :: m) = putAll (putM a p.1 p.2) m := rfl
    rw [e]
    simp only [List.length_cons]
    omega
theorem zipV_len {v : VP} (h : v.1.length = v.2.length) : (zipV v).length = v.1.length := by unfold zipV; rw [List.length_zip]; omega
theorem zipV_at {v : VP} (h : v.1.length = v.2.length) {k : Nat} (hk : k < v.1.length) : (zipV v)[k]'(by rw [zipV_len h]; exact hk) = (v.1.getD k emp, v.2.getD k 0) := by
  unfold zipV
  rw [List.getElem_zip]
  simp [List.getD_eq_getElem?_getD, hk, show k < v.2.length by omega]
/-- A list of variables in memory. -/
def RdL (w : World) (v : Value) (xs : List VP) : Prop := ∃ b c, v = .slice (some ⟨b, 0, none⟩) xs.length c ∧ xs.length ≤ c ∧ c ≤ 1000000 ∧ b < w.heap.size ∧ ∀ i, i < xs.length → ∃ sn sv, w.cell? ⟨b, i * 2, none⟩ = some sn ∧ w.cell? ⟨b, i * 2 + 1, none⟩ = some sv ∧ Rd w sn (strsV (xs.getD i ([], [])).1) ∧ Rd w sv (intsV (xs.getD i ([], [])).2)
theorem RdL.below {w w' : World} {v : Value} {xs : List VP} (h : RdL w v xs) (hb : Below w.heap.size w w') : RdL w' v xs := by
  obtain ⟨b, c, h1, h2, h3, h4, h5⟩ := h
  refine ⟨b, c, h1, h2, h3, Nat.lt_of_lt_of_le h4 hb.size, fun i hi => ?_⟩
  obtain ⟨sn, sv, a1, a2, a3, a4⟩ := h5 i hi
  exact ⟨sn, sv, (hb.cell (p := ⟨b, i * 2, none⟩) h4).trans a1, (hb.cell (p := ⟨b, i * 2 + 1, none⟩) h4).trans a2, a3.below hb, a4.below hb⟩
/-- Variables of the call's own, as a value. -/
def OwV (w : World) (base : Nat) (r : Value) (l : VL) : Prop := ∃ sn sv, r = .agg #[sn, sv] ∧ Ow w base 9 sn (strsV (nmsOf l)) ∧ Ow w base 2 sv (intsV (valsOf l))
theorem OwV.nil (w : World) (base : Nat) : OwV w base (.agg #[.slice none 0 0, .slice none 0 0]) [] := ⟨_, _, rfl, Ow.nil _ _ _, Ow.nil _ _ _⟩
theorem OwV.read {w : World} {base : Nat} {r : Value} {l : VL} (h : OwV w base r l) : RdV w r (nmsOf l) (valsOf l) := by
  obtain ⟨sn, sv, h1, h2, h3⟩ := h
  exact ⟨sn, sv, h1, Rd.of_own h2, Rd.of_own h3⟩
end V
namespace V
open Go.RowKit Pack
set_option linter.unusedVariables false


theorem Vr.at {w : World} {p : Nat} {l : VL} (h : Vr w p l) : ∃ a c b d, Two w p (.slice a l.length c) (.slice b l.length d) ∧ Ow w (p + 1) 9 (.slice a l.length c) (strsV (nmsOf l)) ∧ Ow w (p + 1) 2 (.slice b l.length d) (intsV (valsOf l)) := by
  obtain ⟨sn, sv, h1, h2, h3⟩ := h
  obtain ⟨a, c, rfl⟩ := (Rd.of_own h2).form
  obtain ⟨b, d, rfl⟩ := (Rd.of_own h3).form
  rw [strsV_len, nmsOf_len] at *
  rw [intsV_len, valsOf_len] at *
  exact ⟨a, c, b, d, h1, h2, h3⟩
def OfPost (w : World) (xs : List VP) (e : Ending) (w' : World) : Prop := ∃ r, e = .returned (.tuple #[r, .int .i64 ((ofM xs).1 : Nat)]) ∧ OwV w' w.heap.size r (ofM xs).2 ∧ Below w.heap.size w w'
end V
namespace V
open Go.RowKit Pack
set_option linter.unusedVariables false


theorem below_alloc {B : Nat} {a w : World} (h : Below B a w) (hb : B ≤ a.heap.size) (o : Obj) : Below B a (w.alloc o) := h.alloc (Nat.le_trans hb h.size) o
theorem OwV.set {w : World} {base : Nat} {r : Value} {l : VL} (h : OwV w base r l) (k o : Nat) (u : Value) (hk : k < base) : OwV (w.setCell ⟨k, o, none⟩ u) base r l := by
  obtain ⟨sn, sv, h1, h2, h3⟩ := h
  exact ⟨sn, sv, h1, ownsRow_setCell_below (a := ⟨k, o, none⟩) h2 hk u, ownsRow_setCell_below (a := ⟨k, o, none⟩) h3 hk u⟩
theorem OwV.le {w : World} {base base' : Nat} {r : Value} {l : VL} (h : OwV w base r l) (hb : base' ≤ base) : OwV w base' r l := by
  obtain ⟨sn, sv, h1, h2, h3⟩ := h
  exact ⟨sn, sv, h1, h2.le hb, h3.le hb⟩
theorem OwV.below {w w' : World} {base : Nat} {r : Value} {l : VL} (h : OwV w base r l) (hb : Below w.heap.size w w') : OwV w' base r l := by
  obtain ⟨sn, sv, h1, h2, h3⟩ := h
  exact ⟨sn, sv, h1, h2.below hb, h3.below hb⟩
/-- A name and a number in two new rows. -/
theorem rows_new (w : World) (s : ByteArray) (n : Int) (base : Nat) (hb : base ≤ w.heap.size) : Ow ((w.alloc (.cells #[.string s] 9)).alloc (.cells #[.int .i64 n] 2)) base 9 (.slice (some ⟨w.heap.size, 0, none⟩) 1 1) (strsV [s]) ∧ Ow ((w.alloc (.cells #[.string s] 9)).alloc (.cells #[.int .i64 n] 2)) base 2 (.slice (some ⟨w.heap.size + 1, 0, none⟩) 1 1) (intsV [n]) := by
  refine ⟨(Ow.new w 9 #[.string s] base hb (by simp)).alloc _, ?_⟩
  have := Ow.new (w.alloc (.cells #[.string s] 9)) 2 #[.int .i64 n] base (base_le hb _) (by simp)
  rw [size_alloc] at this
  exact this
set_option maxRecDepth 100000 in
set_option maxHeartbeats 1000000 in
theorem One_any (s : ByteArray) (n : Int) (w : World) : Calls Try.prog 20 #[.string s, .int .i64 n] w fun e w' => ∃ r, e = .returned r ∧ OwV w' w.heap.size r [(s, n)] ∧ Below w.heap.size w w' := by
  have HF : Hid (∀ x y, OwV (((w.alloc (.cells #[x, y] 28)).alloc (.cells #[.string s] 9)).alloc (.cells #[.int .i64 n] 2)) w.heap.size (.agg #[.slice (some ⟨w.heap.size + 1, 0, none⟩) 1 1, .slice (some ⟨w.heap.size + 1 + 1, 0, none⟩) 1 1]) [(s, n)] ∧ Below w.heap.size w (((w.alloc (.cells #[x, y] 28)).alloc (.cells #[.string s] 9)).alloc (.cells #[.int .i64 n] 2)) ∧ Two (((w.alloc (.cells #[x, y] 28)).alloc (.cells #[.string s] 9)).alloc (.cells #[.int .i64 n] 2)) w.heap.size x y) := fun x y => by
    have h := rows_new (w.alloc (.cells #[x, y] 28)) s n w.heap.size (base_le (Nat.le_refl _) _)
    rw [size_alloc] at h
    exact ⟨⟨_, _, rfl, h.1, h.2⟩, below_alloc (below_alloc (below_alloc (Below.refl _ _) (Nat.le_refl _) _) (Nat.le_refl _) _) (Nat.le_refl _) _, ((Two.new w x y 28).alloc _).alloc _⟩
  go_enter Try.func20, Try.ntmps20
  go_wp2
  obtain ⟨_, _, ⟨p4, p0, p1, p2, p3⟩⟩ := HF.out (.slice (some ⟨w.heap.size + 1, 0, none⟩) 1 1) (.slice (some ⟨w.heap.size + 1 + 1, 0, none⟩) 1 1)
  refine bodyPost_ret (v := .agg #[.slice (some ⟨w.heap.size + 1, 0, none⟩) 1 1, .slice (some ⟨w.heap.size + 1 + 1, 0, none⟩) 1 1]) (by simp [results, Try.results20, go_sem, p0, p1]) rfl ?_
  exact ⟨_, rfl, (HF.out _ _).1, (HF.out _ _).2.1⟩
end V
namespace V
open Go.RowKit Pack
set_option linter.unusedVariables false


/-- Is a variable another one than in F? -/
def other (F : VL) (p : ByteArray × Int) : Bool := !(fnd (nmsOf F) p.1) || !(decide (getV F p.1 = p.2))
def selV (F m : VL) : VL := m.filter (other F)
def diffM (f t : VP) : Nat × VL := if chk f.1 f.2 ≠ 0 then (chk f.1 f.2, []) else if chk t.1 t.2 ≠ 0 then (chk t.1 t.2, []) else if (∀ i, i < f.1.length → fnd t.1 (f.1.getD i emp) = true) then (0, putAll [] (selV (zipV f) (zipV t))) else (9, [])
theorem nms_zip {v : VP} (h : v.1.length = v.2.length) : nmsOf (zipV v) = v.1 := by unfold nmsOf zipV; exact List.map_fst_zip (by omega)
end V
namespace V
open Go.RowKit Pack
set_option linter.unusedVariables false


/-- 'append(v, x...)' as a step of a region that draws its order. -/
theorem step_append_ow {P : Program} {w : World} {ops : Array Oper} {o : Oper} {a : Act} {K : Act → World → Prop} {Q : Exit → Act → World → Prop} {E : Prop} (hgd : o.guard = none) (s x : Operand) (t el : TypeId)
    (ho : o.op = .call { callee := .builtin .append, args := #[s, x], argTypes := #[t, t] })
    (base : Nat) (ht : P.underlying t = some (.slice el)) (z : Value) (k : Nat) (hinfo : (P.info? el).map (fun i => (i.zero, i.size, i.bytes)) = some (some z, 1, k)) (hk : k ≤ 16) (hzc : z.cells.size = 1)
    (v : Value) (l : List Value) (hs : a.eval s = v) (hown : Ow w base el v l)
    (vb : Nat) (u : Value) (hx : a.eval x = .slice (some ⟨vb, 0, none⟩) 1 1) (hr : w.cell? ⟨vb, 0, none⟩ = some u) (h1 : u.oneCell' = true) (hlen : l.length ≤ 1000000) (hbase : base ≤ w.heap.size)
    (h : ∀ v' w', Ow w' base el v' (l ++ [u]) → w.grownBy w' v.ownBlock → K (a.put o.dst v') w') :
    if Region.wanted o (yielded ops a.tmps) = true then Oper.wp P o a w K Q else E := by
  rw [if_pos (show Region.wanted o (yielded ops a.tmps) = true by simp [Region.wanted, hgd])]
  obtain ⟨i, hi, hz, hsize, hby⟩ := info_parts hinfo
  refine wp_append_own w s x t ho base el i z 1 k ht hi hz hsize hby hzc (by decide) v l.length l hs hown ⟨vb, 0, none⟩ 1 1 [u] hx (by simp) ?_ (fun q hq => by simp at hq; rw [hq]; exact h1)
    (by unfold maxLen; omega) (Nat.le_trans (Nat.mul_le_mul_left _ hk) (by omega)) hbase ?_
  · intro j q hj
    rw [add_plain, Nat.zero_add]
    match j, hj with
    | 0, hj => simp at hj; rw [← hj]; exact hr
  · intro v' w' h1 h2 _
    refine h v' w' ?_ h2
    show w'.ownsRow base el 1 v' (l ++ [u]).length (l ++ [u])
    rw [List.length_append]; exact h1
theorem Ow.drew {w : World} {base : Nat} {t : TypeId} {v : Value} {l : List Value} (h : Ow w base t v l) : Ow w.drew base t v l := h
theorem Two.drew {w : World} {p : Nat} {x y : Value} (h : Two w p x y) : Two w.drew p x y := ⟨h.lt, h.c0, h.c1, h.f0, h.f1⟩
end V
namespace V
open Go.RowKit Pack
set_option linter.unusedVariables false


def I64 (x : Int) : Prop := -9223372036854775808 ≤ x ∧ x ≤ 9223372036854775807
def aB : ByteArray := ⟨#[97]⟩
def bB : ByteArray := ⟨#[98]⟩
theorem aB_tl : aB.toList = [97] := by rw [tl_eq]; rfl
theorem bB_tl : bB.toList = [98] := by rw [tl_eq]; rfl
theorem isVar_a : isVar aB = true := by
  unfold isVar
  rw [aB_tl, yes_tl, no_tl, show nm aB = true by decide]; rfl
theorem isVar_b : isVar bB = true := by
  unfold isVar
  rw [bB_tl, yes_tl, no_tl, show nm bB = true by decide]; rfl
theorem bl_ab : bl aB bB = true := by unfold bl; rw [aB_tl, bB_tl]; rfl
theorem bl_ba : bl bB aB = false := bl_asym bl_ab
theorem ab_ne : bB ≠ aB := fun e => by have := bl_ab; rw [e, bl_irr] at this; cases this
theorem chk_one {s : ByteArray} {n : Int} (h : isVar s = true) : chk [s] [n] = 0 := chk_of rfl (by simp) (by simp [rise, h, emp_bl (isVar_pos h).1])
theorem chk_ab (x y : Int) : chk [aB, bB] [x, y] = 0 := chk_of rfl (by simp) (by simp [rise, isVar_a, isVar_b, emp_bl (isVar_pos isVar_a).1, bl_ab])
end V
namespace V
open Go.RowKit Pack
set_option linter.unusedVariables false


/-- Variables as a value, of the length N. -/
def RdN (w : World) (N : Nat) (a1 : Option Addr) (c1 : Nat) (a2 : Option Addr) (c2 : Nat) (l : VL) : Prop := RdV w (.agg #[.slice a1 N c1, .slice a2 N c2]) (nmsOf l) (valsOf l)
theorem RdN.below {w w' : World} {N : Nat} {a1 : Option Addr} {c1 : Nat} {a2 : Option Addr} {c2 : Nat} {l : VL} (h : RdN w N a1 c1 a2 c2 l) (hb : Below w.heap.size w w') : RdN w' N a1 c1 a2 c2 l := RdV.below h hb
theorem RdN.alloc {w : World} {N : Nat} {a1 : Option Addr} {c1 : Nat} {a2 : Option Addr} {c2 : Nat} {l : VL} (h : RdN w N a1 c1 a2 c2 l) (o : Obj) : RdN (w.alloc o) N a1 c1 a2 c2 l := RdV.below h ((Below.refl _ _).alloc (Nat.le_refl _) o)
end V
namespace V
open Go.ChangeShapes Go.WideShapes Go.ChangeAt Go.RowKit
set_option linter.unusedVariables false


/-- What is known of variables that came in. -/
structure Came (w : World) (v : Value) (ns : List ByteArray) (vs : List Int) : Prop where
  rd : RdV w v ns vs
  sz : ∀ n ∈ ns, n.size ≤ 9223372036854775807
  i64 : ∀ x ∈ vs, I64 x
theorem i64_of_wf {n : Int} (h : (Lit.int .i64 n).wf = true) : I64 n := by
  simp only [Lit.wf, IntKind.min, IntKind.max, IntKind.signed, IntKind.bits, Bool.and_eq_true, decide_eq_true_eq, if_true] at h
  constructor <;> omega
theorem rd_of_row {w : World} {a : Addr} {len cap : Nat} {l : List Value} (hl : l.length = len) (hc : len ≤ cap) (hm : cap ≤ 9223372036854775807) (h : ∀ i u, l[i]? = some u → w.cell? (a.add i) = some u) : Rd w (.slice (some a) len cap) l := by
  subst hl
  refine ⟨some a, cap, rfl, (fun h => by cases h), hc, hm, ?_⟩
  cases l with
  | nil => exact .inl rfl
  | cons x r =>
    right
    have h0 := h 0 x rfl
    have hspot : a.spot = none := by simpa [Addr.add] using World.cell?_spot h0
    obtain ⟨b, off, sp⟩ := a
    simp only at hspot
    subst hspot
    refine ⟨b, off, rfl, ?_, fun i u hu => ?_⟩
    · have := World.block_lt_of_cell? w _ h0
      rwa [add_block] at this
    · have := h i u hu
      rwa [add_plain] at this
section
variable {H : Type} {enc : TypeId × Value → H} {w : World}
set_option maxRecDepth 100000 in
theorem came_of_trod {fuel : Nat} {cs : List Value} {x : DataW H × List MemPlace} (h : DataW.trod enc Try.prog w 0 (fun _ => true) true fuel 28 cs = some x) : ∃ sn sv ns vs, cs = [sn, sv] ∧ Came w (.agg #[sn, sv]) ns vs := by
  obtain ⟨xs, n, rfl, _, hlen, hxs, hf⟩ := DataW.trod_struct Try.underlying28 h
  have hc : Try.prog.cellsOf 28 = 2 := by kernel_rfl
  have hc22 : Try.prog.cellsOf 25 = 1 := by kernel_rfl
  have hc23 : Try.prog.cellsOf 26 = 1 := by kernel_rfl
  rw [hc] at hlen
  obtain ⟨c0, c1, rfl⟩ : ∃ c0 c1, cs = [c0, c1] := by
    match cs, hlen with
    | [c0, c1], _ => exact ⟨c0, c1, rfl⟩
  obtain ⟨y0, y1, rfl⟩ : ∃ y0 y1, xs = [y0, y1] := by
    have hxs2 : xs.length = 2 := by rw [hxs]; rfl
    match xs, hxs2 with
    | [y0, y1], _ => exact ⟨y0, y1, rfl⟩
  have f0 : DataW.trod enc Try.prog w 0 (fun _ => true) true n 25 ((List.drop 0 [c0, c1]).take (Try.prog.cellsOf 25)) = some y0 := hf 0 _ rfl
  have f1 : DataW.trod enc Try.prog w 0 (fun _ => true) true n 26 ((List.drop 1 [c0, c1]).take (Try.prog.cellsOf 26)) = some y1 := hf 1 _ rfl
  rw [hc22] at f0
  rw [hc23] at f1
  have hN : ∃ ns, Rd w c0 (strsV ns) ∧ ∀ m ∈ ns, m.size ≤ 9223372036854775807 := by
    rcases open_strings Try.underlying25 Try.underlying9 (by kernel_rfl) f0 with ⟨e, _⟩ | ⟨a, len, cap, ss, e, _, hl, hm, hs, _, hcell, hsz⟩
    · simp at e
      subst e
      exact ⟨[], Rd.nil w, by simp⟩
    · simp at e
      subst e
      simp only [if_true] at hs
      refine ⟨ss.take len, rd_of_row (by rw [strsV_len, List.length_take]; omega) hl hm (fun i u hu => ?_), fun m hm2 => hsz m (List.mem_of_mem_take hm2)⟩
      have hi : i < (ss.take len).length := by have := (List.getElem?_eq_some_iff.1 hu).1; rwa [strsV_len] at this
      rw [strsV_at hi] at hu
      have hi2 : i < ss.length := by rw [List.length_take] at hi; omega
      rw [hcell i hi2, ← hu]
      rw [List.length_take] at hi
      simp [List.getD_eq_getElem?_getD, hi2, show i < len by omega]
  have hV : ∃ vs, Rd w c1 (intsV vs) ∧ ∀ m ∈ vs, I64 m := by
    rcases open_ints Try.underlying26 Try.underlying2 (by kernel_rfl) f1 with ⟨e, _⟩ | ⟨a, len, cap, ss, e, _, hl, hm, hs, _, hcell, hsz⟩
    · simp at e
      subst e
      exact ⟨[], Rd.nil w, by simp⟩
    · simp at e
      subst e
      simp only [if_true] at hs
      refine ⟨ss.take len, rd_of_row (by rw [intsV_len, List.length_take]; omega) hl hm (fun i u hu => ?_), fun m hm2 => i64_of_wf (hsz m (List.mem_of_mem_take hm2))⟩
      have hi : i < (ss.take len).length := by have := (List.getElem?_eq_some_iff.1 hu).1; rwa [intsV_len] at this
      rw [intsV_at hi] at hu
      have hi2 : i < ss.length := by rw [List.length_take] at hi; omega
      rw [hcell i hi2, ← hu]
      rw [List.length_take] at hi
      simp [List.getD_eq_getElem?_getD, hi2, show i < len by omega]
  obtain ⟨ns, hN1, hN2⟩ := hN
  obtain ⟨vs, hV1, hV2⟩ := hV
  exact ⟨c0, c1, ns, vs, rfl, ⟨_, _, rfl, hN1, hV1⟩, hN2, hV2⟩
theorem came_of_Trod {v : Value} {d : DataW H} {p : List MemPlace} (h : DataW.Trod enc Try.prog w 0 (fun _ => true) true 28 v d p) : ∃ ns vs, Came w v ns vs := by
  obtain ⟨fuel, hf⟩ := h
  obtain ⟨sn, sv, ns, vs, e, hT⟩ := came_of_trod hf
  refine ⟨ns, vs, ?_⟩
  cases v with
  | agg cs =>
    have : cs.toList = [sn, sv] := e
    rw [show cs = ⟨cs.toList⟩ from rfl, this]
    exact hT
  | _ => have := congrArg List.length e; simp [Value.cells] at this
end
end V
namespace V
open Go.RowKit Pack
set_option linter.unusedVariables false


theorem isVar_of {y : ByteArray} (h1 : nm y = true) (h2 : (y.toList == [121, 101, 115]) = false) (h3 : (y.toList == [110, 111]) = false) : isVar y = true := by
  unfold isVar; rw [h1, yes_tl, no_tl, h2, h3]; rfl
theorem isVar_nm {y : ByteArray} (h1 : nm y = false) : isVar y = false := by unfold isVar; rw [h1]; rfl
theorem isVar_yes {y : ByteArray} (h2 : (y.toList == [121, 101, 115]) = true) : isVar y = false := by unfold isVar; rw [yes_tl, h2]; simp
theorem isVar_no2 {y : ByteArray} (h2 : (y.toList == [110, 111]) = true) : isVar y = false := by unfold isVar; rw [no_tl, h2]; simp
set_option maxRecDepth 100000 in
set_option maxHeartbeats 2000000 in
theorem rCheck_any (ns : List ByteArray) (vs : List Int) (v : Value) (w : World) (hv : RdV w v ns vs) (hs : ∀ n ∈ ns, n.size ≤ 9223372036854775807) : Calls Try.prog 15 #[v] w fun e w' => e = .returned (.int .i64 (chk ns vs : Nat)) ∧ Below w.heap.size w w' := by
  obtain ⟨sn, sv, rfl, h1, h2⟩ := hv
  obtain ⟨a, c, rfl⟩ := h1.form
  obtain ⟨b, d, rfl⟩ := h2.form
  obtain ⟨_, hnc, hcm, _, hcell⟩ := h1.at
  obtain ⟨_, hnd, hdm, _, _⟩ := h2.at
  simp only [strsV_len, intsV_len] at *
  have HC : Hid (∀ i, i < ns.length → ∃ b off, a = some ⟨b, off, none⟩ ∧ b < w.heap.size ∧ w.cell? ⟨b, off + i, none⟩ = some (.string (ns.getD i emp))) := fun i hi => hcell i _ (strsV_at hi)
  have HS : Hid (∀ i, i < ns.length → ∀ w, Calls Try.prog 31 #[.string (ns.getD i emp)] w fun e w' => e = .returned (.bool (nm (ns.getD i emp))) ∧ w' = w) := fun i hi w => rname_any _ w (hs _ (getD_mem hi))
  obtain ⟨R, HR⟩ : ∃ R, Hid (chk ns vs = R) := ⟨_, rfl⟩
  rw [HR.out]
  clear h1 h2 hcell hs
  by_cases he : ns.length = vs.length
  · by_cases h64 : 64 < ns.length
    · have HE : Hid (R = 6) := by show R = _; rw [← HR.out]; unfold chk; rw [if_neg (by omega), if_pos h64]
      rw [← he]
      clear he HC HS
      generalize ns.length = N at *
      go_enter Try.func15, Try.ntmps15
      go_wp2
      go_ret
      exact ⟨by rw [HE.out]; rfl, (Below.refl _ _).alloc (Nat.le_refl _) _⟩
    · have HE : Hid (rise emp (ns.drop 0) = true → R = 0) := fun h => by rw [← HR.out]; unfold chk; rw [if_neg (by omega), if_neg h64]; exact if_pos h
      have HE2 : Hid (rise emp (ns.drop 0) = false → R = 1) := fun h => by rw [← HR.out]; unfold chk; rw [if_neg (by omega), if_neg h64]; exact if_neg (by rw [show rise emp ns = false from h]; simp)
      have HT : Hid (∀ w', Below (w.alloc (.cells #[.slice a ns.length c, .slice b ns.length d] 28)).heap.size (w.alloc (.cells #[.slice a ns.length c, .slice b ns.length d] 28)) w' → Two w' w.heap.size (.slice a ns.length c) (.slice b ns.length d) ∧ Below w.heap.size w w') := fun w' hb => ⟨(Two.new w _ _ 28).below hb, ((Below.refl _ _).alloc (Nat.le_refl _) _).trans (hb.mono (base_le (Nat.le_refl _) _))⟩
      rw [← he]
      rw [← he] at hnd
      clear he
      generalize hN : ns.length = N at *
      go_enter Try.func15, Try.ntmps15
      go_wp2
      go_loopw [3] (fun s3 wr => ∃ i : Nat, i ≤ N ∧ s3 = .int .i64 i ∧ Hid (rise emp (ns.drop 0) = rise (ahead ns i) (ns.drop i)) ∧ Hid (Below (w.alloc (.cells #[.slice a N c, .slice b N d] 28)).heap.size (w.alloc (.cells #[.slice a N c, .slice b N d] 28)) wr)) (fun s3 _ => N - (intOf s3).toNat)
      case atStart => exact ⟨0, Nat.zero_le _, rfl, rfl, Below.refl _ _⟩
      case round =>
        obtain ⟨i, hi, rfl, HI, HB⟩ := hrel
        obtain ⟨⟨t4, t0, t1, t2, t3⟩, hBw⟩ := HT.out _ HB.out
        have HBw : Hid (Below w.heap.size w wr) := hBw
        by_cases hlt : i < N
        · obtain ⟨g, off, rfl, hg, hc⟩ := HC.out i hlt
          have cm := (hBw.cell (p := ⟨g, off + i, none⟩) hg).trans hc
          have HV : Hid (∀ w, Calls Try.prog 31 #[.string (ns.getD i emp)] w fun e w' => e = .returned (.bool (nm (ns.getD i emp))) ∧ w' = w) := HS.out i hlt
          have HI2 : Hid (rise emp (ns.drop 0) = (isVar (ns.getD i emp) && (bl (ahead ns i) (ns.getD i emp) && rise (ns.getD i emp) (ns.drop (i + 1))))) := HI.out.trans (rise_drop (by omega) _)
          have HA : Hid (ahead ns (i + 1) = ns.getD i emp) := rfl
          have HPrev : Hid (∀ j, i = j + 1 → wr.cell? ⟨g, off + j, none⟩ = some (.string (ahead ns i))) := fun j hj => by
            obtain ⟨g', off', e, hg', hc'⟩ := HC.out j (by omega)
            simp only [Option.some.injEq, Addr.mk.injEq, and_true] at e
            obtain ⟨rfl, rfl⟩ := e
            rw [hj]
            exact (hBw.cell (p := ⟨g, off + j, none⟩) hg').trans hc'
          have HF : Hid (i = 0 → isVar (ns.getD i emp) = true → bl (ahead ns i) (ns.getD i emp) = true) := fun h0 hv => by
            rw [h0]; rw [h0] at hv; exact emp_bl (isVar_pos hv).1
          have HB2 := HB
          clear HC HS hc HI hBw HB
          generalize ns.getD i emp = y at *
          generalize ahead ns i = z at *
          cases hy : nm y with
          | false =>
            have HE3 : Hid (R = 1) := HE2.out (by rw [HI2.out, isVar_nm hy]; rfl)
            rw [hy] at HV
            clear hy HI2 HF HPrev
            go_wp2_with (go_at_call 31; refine (HV.out _).mono ?_; rintro e w' ⟨rfl, rfl⟩)
            go_ret
            exact ⟨by rw [HE3.out]; rfl, HBw.out⟩
          | true =>
            rw [hy] at HV
            cases hyy : (y.toList == [121, 101, 115]) with
            | true =>
              have HE3 : Hid (R = 1) := HE2.out (by rw [HI2.out, isVar_yes hyy]; rfl)
              clear hy HI2 HF HPrev
              go_wp2_with (go_at_call 31; refine (HV.out _).mono ?_; rintro e w' ⟨rfl, rfl⟩)
              go_ret
              exact ⟨by rw [HE3.out]; rfl, HBw.out⟩
            | false =>
              cases hyn : (y.toList == [110, 111]) with
              | true =>
                have HE3 : Hid (R = 1) := HE2.out (by rw [HI2.out, isVar_no2 hyn]; rfl)
                clear hy HI2 HF HPrev
                go_wp2_with (go_at_call 31; refine (HV.out _).mono ?_; rintro e w' ⟨rfl, rfl⟩)
                go_ret
                exact ⟨by rw [HE3.out]; rfl, HBw.out⟩
              | false =>
                have hiv := isVar_of hy hyy hyn
                rw [hiv, Bool.true_and] at HI2
                cases i with
                | zero =>
                  have hz := HF.out rfl hiv
                  rw [hz, Bool.true_and] at HI2
                  have e0 : ((0 : Nat) : Int) = 0 := rfl
                  rw [e0]
                  rw [Nat.add_zero] at cm
                  clear hy hiv hz HF HPrev HE HE2 e0
                  go_wp2_with (go_at_call 31; refine (HV.out _).mono ?_; rintro e w' ⟨rfl, rfl⟩)
                  go_roundw
                  case rel => exact ⟨1, by omega, by go_num, by rw [show ahead ns 1 = y from HA.out]; exact HI2, HB2⟩
                  case measure => simp [intOf]; omega
                | succ j =>
                  have cp := HPrev.out j rfl
                  cases hz : bl z y with
                  | false =>
                    have HE3 : Hid (R = 1) := HE2.out (by rw [HI2.out, hz]; rfl)
                    have hz2 : Op.bytesLess z.toList y.toList = false := hz
                    clear hy hiv hz HF HPrev HI2 HE HE2
                    go_wp2_with (go_at_call 31; refine (HV.out _).mono ?_; rintro e w' ⟨rfl, rfl⟩)
                    go_ret
                    exact ⟨by rw [HE3.out]; rfl, HBw.out⟩
                  | true =>
                    have hz2 : Op.bytesLess z.toList y.toList = true := hz
                    rw [hz, Bool.true_and] at HI2
                    clear hy hiv hz HF HPrev HE HE2
                    go_wp2_with (go_at_call 31; refine (HV.out _).mono ?_; rintro e w' ⟨rfl, rfl⟩)
                    go_roundw
                    case rel => exact ⟨j + 1 + 1, by omega, by go_num, by rw [show ahead ns (j + 1 + 1) = y from HA.out]; exact HI2, HB2⟩
                    case measure => simp [intOf]; omega
        · have e : i = N := by omega
          have e' : N = i := e.symm
          clear e
          subst e'
          have HE3 : Hid (R = 0) := HE.out (by rw [HI.out, List.drop_eq_nil_of_le (by omega)]; rfl)
          clear HI HC HS HB hBw HE HE2
          go_wp2
          go_ret
          exact ⟨by rw [HE3.out]; rfl, HBw.out⟩
  · have HE : Hid (R = 1) := by show R = _; rw [← HR.out]; unfold chk; rw [if_pos he]
    have he2 : ¬ ((ns.length : Int) = (vs.length : Int)) := by omega
    clear HC HS
    generalize ns.length = N at *
    generalize vs.length = M at *
    go_enter Try.func15, Try.ntmps15
    go_wp2
    go_ret
    exact ⟨by rw [HE.out]; rfl, (Below.refl _ _).alloc (Nat.le_refl _) _⟩
end V
namespace V
open Go.RowKit Pack
set_option linter.unusedVariables false


/-- What a name has. -/
def look : VL → ByteArray → Option Int
  | [], _ => none
  | (m, y) :: r, n => if m = n then some y else look r n
theorem look_none : ∀ {l : VL} {n : ByteArray}, (∀ m ∈ nmsOf l, m ≠ n) → look l n = none
  | [], n, _ => rfl
  | (m, y) :: r, n, h => by
    unfold look
    rw [if_neg (h m (by simp [nmsOf]))]
    exact look_none fun k hk => h k (by simp [nmsOf] at hk ⊢; exact .inr hk)
theorem look_mem : ∀ {l : VL} {n : ByteArray} {x : Int}, look l n = some x → (n, x) ∈ l
  | [], n, x, h => by cases h
  | (m, y) :: r, n, x, h => by
    unfold look at h
    split at h
    · rename_i e
      simp only [Option.some.injEq] at h
      rw [e, h]; simp
    · exact List.mem_cons_of_mem _ (look_mem h)
theorem srt_cons {m : ByteArray} {y : Int} {r : VL} (h : Srt (nmsOf ((m, y) :: r))) : (∀ k ∈ nmsOf r, bl m k = true) ∧ Srt (nmsOf r) := List.pairwise_cons.1 (show (m :: nmsOf r).Pairwise _ from h)
theorem look_srt : ∀ {l : VL} (n : ByteArray), Srt (nmsOf l) → look l n = if fnd (nmsOf l) n = true then some (getV l n) else none
  | [], n, _ => by simp [look, fnd, nmsOf, pos]
  | (m, y) :: r, n, h => by
    obtain ⟨h1, h2⟩ := srt_cons h
    have ih := look_srt n h2
    unfold look
    by_cases hb : bl m n = true
    · rw [if_neg (bl_ne hb), ih]
      have ep : pos (nmsOf ((m, y) :: r)) n = pos (nmsOf r) n + 1 := by simp [nmsOf, pos, hb]
      have ef : fnd (nmsOf ((m, y) :: r)) n = fnd (nmsOf r) n := by
        unfold fnd; rw [ep]; simp [nmsOf]
      have eg : fnd (nmsOf r) n = true → getV ((m, y) :: r) n = getV r n := fun hf => by
        unfold getV; rw [ef, if_pos hf, if_pos hf, ep]; simp [valsOf]
      rw [ef]
      by_cases hf : fnd (nmsOf r) n = true
      · rw [if_pos hf, if_pos hf, eg hf]
      · rw [if_neg hf, if_neg hf]
    · have ep : pos (nmsOf ((m, y) :: r)) n = 0 := by simp [nmsOf, pos, hb]
      have ef : fnd (nmsOf ((m, y) :: r)) n = decide (m = n) := by
        unfold fnd; rw [ep]; simp [nmsOf]
      rw [ef]
      by_cases e : m = n
      · rw [if_pos e, if_pos (by simpa using e)]
        have : getV ((m, y) :: r) n = y := by
          unfold getV; rw [ef, if_pos (by simpa using e), ep]; simp [valsOf]
        rw [this]
      · rw [if_neg e, if_neg (by simpa using e)]
        have hn : bl n m = true := by
          cases hnm : bl n m with
          | true => rfl
          | false => exact absurd (bl_tot (by simpa using hb) hnm) e
        exact look_none fun k hk => fun e2 => by
          subst e2
          have := bl_tr hn (h1 _ hk)
          rw [bl_irr] at this; cases this
theorem look_put : ∀ (l : VL) (n : ByteArray) (x : Int) (k : ByteArray), look (putM l n x) k = if n = k then some x else look l k
  | [], n, x, k => by simp [putM, look]
  | (m, y) :: r, n, x, k => by
    unfold putM
    split
    · rename_i hb
      unfold look
      rw [look_put r n x k]
      by_cases e : n = k
      · subst e; rw [if_neg (bl_ne hb), if_pos rfl, if_pos rfl]
      · rw [if_neg e, if_neg e]
    · split
      · rename_i e
        subst e
        unfold look
        split <;> rfl
      · unfold look
        rfl
theorem look_ext : ∀ {l l' : VL}, Srt (nmsOf l) → Srt (nmsOf l') → (∀ n, look l n = look l' n) → l = l'
  | [], [], _, _, _ => rfl
  | [], (b, y) :: r', _, _, h => by have := h b; simp [look] at this
  | (a, x) :: r, [], _, _, h => by have := h a; simp [look] at this
  | (a, x) :: r, (b, y) :: r', h1, h2, h => by
    obtain ⟨a1, a2⟩ := srt_cons h1
    obtain ⟨b1, b2⟩ := srt_cons h2
    have key : ∀ {p q : ByteArray} {u v : Int} {s t : VL}, bl p q = true → (∀ k ∈ nmsOf t, bl q k = true) → look ((p, u) :: s) p = look ((q, v) :: t) p → False := fun {p q u v s t} hpq ht hh => by
      have e1 : look ((q, v) :: t) p = none := by
        unfold look
        rw [if_neg (fun e => bl_ne hpq e.symm)]
        exact look_none fun k hk e => by
          subst e
          have := bl_tr hpq (ht _ hk)
          rw [bl_irr] at this; cases this
      rw [e1] at hh
      simp [look] at hh
    have hab : a = b := by
      cases hab : bl a b with
      | true => exact (key hab b1 (h a)).elim
      | false =>
        cases hba : bl b a with
        | true => exact (key hba a1 (h b).symm).elim
        | false => exact bl_tot hab hba
    subst hab
    have hxy : x = y := by have := h a; simpa [look] using this
    subst hxy
    have ht : ∀ n, look r n = look r' n := fun n => by
      by_cases e : a = n
      · subst e
        rw [look_none (fun k hk e2 => by have := a1 k hk; rw [e2, bl_irr] at this; cases this), look_none (fun k hk e2 => by have := b1 k hk; rw [e2, bl_irr] at this; cases this)]
      · have := h n
        unfold look at this
        rwa [if_neg e, if_neg e] at this
    rw [look_ext a2 b2 ht]
theorem look_putAll : ∀ (m a : VL) (k : ByteArray), Srt (nmsOf m) → look (putAll a m) k = (look m k).or (look a k)
  | [], a, k, _ => by simp [putAll, look]
  | (n, x) :: m, a, k, h => by
    obtain ⟨h1, h2⟩ := srt_cons h
    have e : putAll a ((n, x) :: m) = putAll (putM a n x) m := rfl
    rw [e, look_putAll m _ k h2, look_put]
    show _ = (if n = k then some x else look m k).or (look a k)
    by_cases hk : n = k
    · subst hk
      rw [if_pos rfl, if_pos rfl, look_none fun q hq e => by have := h1 q hq; rw [e, bl_irr] at this; cases this]
      simp
    · rw [if_neg hk, if_neg hk]
theorem putAll_self {A : VL} (h : Srt (nmsOf A)) : putAll [] A = A := by
  refine look_ext (putAll_srt List.Pairwise.nil) h fun n => ?_
  rw [look_putAll A [] n h]
  simp [look]
theorem putAll_twice {B W : VL} (hB : Srt (nmsOf B)) (hW : Srt (nmsOf W)) : putAll (putAll B W) W = putAll B W := by
  refine look_ext (putAll_srt (putAll_srt hB)) (putAll_srt hB) fun n => ?_
  rw [look_putAll W _ n hW, look_putAll W _ n hW]
  cases look W n <;> simp
theorem putAll_mem : ∀ {m a : VL} {p : ByteArray × Int}, p ∈ putAll a m → p ∈ a ∨ p ∈ m
  | [], a, p, h => .inl h
  | q :: m, a, p, h => by
    rcases putAll_mem (m := m) (a := putM a q.1 q.2) h with h | h
    · rcases putM_mem h with h | h
      · exact .inr (by rw [h]; simp)
      · exact .inl h
    · exact .inr (by simp [h])
theorem srt_filter {A : VL} (f : ByteArray × Int → Bool) (h : Srt (nmsOf A)) : Srt (nmsOf (A.filter f)) := by
  unfold Srt nmsOf at *
  rw [List.pairwise_map] at *
  exact h.filter _
theorem look_filter : ∀ {A : VL} (f : ByteArray × Int → Bool) (k : ByteArray), Srt (nmsOf A) → look (A.filter f) k = match look A k with | some x => if f (k, x) = true then some x else none | none => none
  | [], f, k, _ => rfl
  | (n, x) :: A, f, k, h => by
    obtain ⟨h1, h2⟩ := srt_cons h
    have ih := look_filter f k h2
    by_cases hk : n = k
    · subst hk
      have hn : look A n = none := look_none fun q hq e => by have := h1 q hq; rw [e, bl_irr] at this; cases this
      have e1 : look ((n, x) :: A) n = some x := by unfold look; rw [if_pos rfl]
      rw [e1]
      by_cases hf : f (n, x) = true
      · rw [List.filter_cons_of_pos hf]
        show look ((n, x) :: A.filter f) n = if f (n, x) = true then some x else none
        unfold look; rw [if_pos rfl, if_pos hf]
      · rw [List.filter_cons_of_neg hf, ih, hn]
        show none = if f (n, x) = true then some x else none
        rw [if_neg hf]
    · have e1 : look ((n, x) :: A) k = look A k := by show (if n = k then some x else look A k) = look A k; rw [if_neg hk]
      rw [e1, ← ih]
      by_cases hf : f (n, x) = true
      · rw [List.filter_cons_of_pos hf]
        show (if n = k then some x else look (A.filter f) k) = _
        rw [if_neg hk]
      · rw [List.filter_cons_of_neg hf]
theorem chk_list {A : VL} (h1 : Srt (nmsOf A)) (h2 : ∀ p ∈ A, isVar p.1 = true) (h3 : A.length ≤ 64) : chk (nmsOf A) (valsOf A) = 0 := by
  refine chk_of (by rw [nmsOf_len, valsOf_len]) (by rw [nmsOf_len]; exact h3) (rise_of (fun n hn => ?_) h1)
  obtain ⟨p, hp, rfl⟩ := List.mem_map.1 hn
  exact ⟨h2 p hp, emp_bl (isVar_pos (h2 p hp)).1⟩
theorem zip_self (A : VL) : zipV (nmsOf A, valsOf A) = A := by
  unfold zipV nmsOf valsOf
  induction A with
  | nil => rfl
  | cons p r ih => simpa using ih
theorem zip_srt {v : VP} (h : chk v.1 v.2 = 0) : Srt (nmsOf (zipV v)) := by
  obtain ⟨h1, h2, h3⟩ := chk_ok h
  rw [nms_zip h1]
  exact (rise_all h3).2
theorem zip_var {v : VP} (h : chk v.1 v.2 = 0) : ∀ p ∈ zipV v, isVar p.1 = true := fun p hp => by
  obtain ⟨h1, h2, h3⟩ := chk_ok h
  exact ((rise_all h3).1 p.1 (by rw [← nms_zip h1]; exact List.mem_map.2 ⟨p, hp, rfl⟩)).1
/-- The whole law's mathematics. -/
theorem last_math {v w : VP} {A : VL} (h : ofM [v, w] = (0, A)) :
    chk v.1 v.2 = 0 ∧ chk w.1 w.2 = 0 ∧ chk (nmsOf A) (valsOf A) = 0 ∧ (∀ p ∈ A, isVar p.1 = true) ∧ A.length ≤ 64 ∧ ofM [(nmsOf A, valsOf A), w] = (0, A) ∧
    (∀ n, fnd (nmsOf A) n = (if fnd w.1 n = true then true else fnd v.1 n) ∧ getV A n = if fnd w.1 n = true then getV (zipV w) n else getV (zipV v) n) ∧
    ∃ D, diffM v (nmsOf A, valsOf A) = (0, D) ∧ (∀ p ∈ D, isVar p.1 = true) ∧ ofM [v, (nmsOf D, valsOf D)] = (0, A) := by
  have he : errs [v, w] = 0 := by
    unfold ofM at h
    by_cases he : errs [v, w] = 0
    · exact he
    · rw [if_pos he] at h
      simp only [Prod.mk.injEq] at h
      omega
  have hA : A = putAll (putAll [] (zipV v)) (zipV w) ∧ A.length ≤ 64 := by
    unfold ofM at h
    rw [if_neg (by omega)] at h
    split at h
    · simp only [Prod.mk.injEq] at h; omega
    · rename_i h64
      simp only [Prod.mk.injEq, true_and] at h
      rw [← h]
      exact ⟨rfl, by omega⟩
  obtain ⟨hAe, hAl⟩ := hA
  have hv : chk v.1 v.2 = 0 := errs_ok he v (by simp)
  have hw : chk w.1 w.2 = 0 := errs_ok he w (by simp)
  have sV := zip_srt hv
  have sW := zip_srt hw
  have sA : Srt (nmsOf A) := by rw [hAe]; exact putAll_srt (putAll_srt List.Pairwise.nil)
  have vA : ∀ p ∈ A, isVar p.1 = true := fun p hp => by
    rw [hAe] at hp
    rcases putAll_mem hp with hp | hp
    · rcases putAll_mem hp with hp | hp
      · cases hp
      · exact zip_var hv p hp
    · exact zip_var hw p hp
  have cA := chk_list sA vA hAl
  have lA : ∀ n, look A n = (look (zipV w) n).or (look (zipV v) n) := fun n => by
    rw [hAe, look_putAll _ _ n sW, putAll_self sV]
  have nV : nmsOf (zipV v) = v.1 := nms_zip (chk_ok hv).1
  have nW : nmsOf (zipV w) = w.1 := nms_zip (chk_ok hw).1
  have hlook : ∀ n, (if fnd (nmsOf A) n = true then some (getV A n) else none) = (if fnd w.1 n = true then some (getV (zipV w) n) else none).or (if fnd v.1 n = true then some (getV (zipV v) n) else none) := fun n => by
    have := lA n
    rw [look_srt n sA, look_srt n sW, look_srt n sV, nV, nW] at this
    exact this
  have g0 : ∀ {l : VL} {n : ByteArray}, fnd (nmsOf l) n = false → getV l n = 0 := fun {l n} hf => by unfold getV; rw [if_neg (by rw [hf]; simp)]
  refine ⟨hv, hw, cA, vA, hAl, ?_, fun n => ?_, ?_⟩
  · have e1 : errs [(nmsOf A, valsOf A), w] = 0 := errs_all fun x hx => by
      simp at hx
      rcases hx with rfl | rfl
      · exact cA
      · exact hw
    have e2 : allM [(nmsOf A, valsOf A), w] = A := by
      show putAll (putAll [] (zipV (nmsOf A, valsOf A))) (zipV w) = A
      rw [zip_self, putAll_self sA]
      conv => lhs; rw [hAe]
      rw [putAll_twice (putAll_srt (a := []) List.Pairwise.nil) sW, ← hAe]
    unfold ofM
    rw [if_neg (by omega), e2, if_neg (by omega)]
  · have hh := hlook n
    cases hfw : fnd w.1 n with
    | true =>
      rw [hfw] at hh
      cases hfa : fnd (nmsOf A) n with
      | true =>
        rw [hfa] at hh
        simp at hh
        exact ⟨rfl, by simpa using hh⟩
      | false => rw [hfa] at hh; simp at hh
    | false =>
      rw [hfw] at hh
      cases hfv : fnd v.1 n with
      | true =>
        rw [hfv] at hh
        cases hfa : fnd (nmsOf A) n with
        | true =>
          rw [hfa] at hh
          simp at hh
          exact ⟨rfl, by simpa using hh⟩
        | false => rw [hfa] at hh; simp at hh
      | false =>
        rw [hfv] at hh
        cases hfa : fnd (nmsOf A) n with
        | true => rw [hfa] at hh; simp at hh
        | false =>
          have hz := g0 (l := zipV v) (n := n) (by rw [nV]; exact hfv)
          exact ⟨rfl, by rw [g0 hfa, hz]; simp⟩
  · have all : ∀ i, i < v.1.length → fnd (nmsOf A) (v.1.getD i emp) = true := fun i hi => by
      have hf : fnd v.1 (v.1.getD i emp) = true := by
        have hl : look (zipV v) (v.1.getD i emp) ≠ none := fun e => by
          have hm : v.1.getD i emp ∈ nmsOf (zipV v) := by rw [nV]; exact getD_mem hi
          obtain ⟨p, hp, hpe⟩ := List.mem_map.1 hm
          have : ∀ {l : VL} {q : ByteArray × Int}, q ∈ l → look l q.1 ≠ none := fun {l q} hq => by
            induction l with
            | nil => simp at hq
            | cons c l ih =>
              obtain ⟨m, y⟩ := c
              unfold look
              split
              · simp
              · rcases List.mem_cons.1 hq with rfl | hq
                · rename_i hne; exact absurd rfl hne
                · exact ih hq
          exact this hp (by rw [hpe]; exact e)
        rw [look_srt _ sV, nV] at hl
        by_cases hf : fnd v.1 (v.1.getD i emp) = true
        · exact hf
        · rw [if_neg hf] at hl; exact absurd rfl hl
      have hh := hlook (v.1.getD i emp)
      rw [hf] at hh
      cases hfa : fnd (nmsOf A) (v.1.getD i emp) with
      | true => rfl
      | false =>
        rw [hfa] at hh
        cases hfw : fnd w.1 (v.1.getD i emp) <;> rw [hfw] at hh <;> simp at hh
    have sD : Srt (nmsOf (selV (zipV v) A)) := srt_filter _ sA
    refine ⟨selV (zipV v) A, ?_, fun p hp => vA p (List.mem_filter.1 hp).1, ?_⟩
    · unfold diffM
      rw [if_neg (by omega), if_neg (by rw [cA]; simp), if_pos all, zip_self, putAll_self sD]
    · have cD := chk_list sD (fun p hp => vA p (List.mem_filter.1 hp).1) (Nat.le_trans (List.length_filter_le _ _) hAl)
      have e1 : errs [v, (nmsOf (selV (zipV v) A), valsOf (selV (zipV v) A))] = 0 := errs_all fun x hx => by
        simp at hx
        rcases hx with rfl | rfl
        · exact hv
        · exact cD
      have e2 : allM [v, (nmsOf (selV (zipV v) A), valsOf (selV (zipV v) A))] = A := by
        show putAll (putAll [] (zipV v)) (zipV (nmsOf (selV (zipV v) A), valsOf (selV (zipV v) A))) = A
        rw [zip_self]
        refine look_ext (putAll_srt (putAll_srt List.Pairwise.nil)) sA fun n => ?_
        rw [look_putAll _ _ n sD, putAll_self sV]
        have hf := look_filter (other (zipV v)) n sA
        show (look (A.filter (other (zipV v))) n).or _ = _
        rw [hf]
        cases hla : look A n with
        | none =>
          have := lA n
          rw [hla] at this
          cases hw2 : look (zipV w) n with
          | some x => rw [hw2] at this; simp at this
          | none => rw [hw2] at this; simp at this; simp [← this]
        | some x =>
          by_cases ho : other (zipV v) (n, x) = true
          · simp [ho]
          · have ho2 : fnd (nmsOf (zipV v)) n = true ∧ getV (zipV v) n = x := by
              unfold other at ho
              simpa using ho
            have hlv : look (zipV v) n = some x := by rw [look_srt n sV, if_pos ho2.1, ho2.2]
            simp [ho, hlv]
      unfold ofM
      rw [if_neg (by omega), e2, if_neg (by omega)]
end V
namespace V
open Go.RowKit Pack
set_option linter.unusedVariables false


theorem look_drop {l : VL} {i : Nat} (hi : i < l.length) (x : ByteArray) : look (l.drop i) x = if (nmsOf l).getD i emp = x then some ((valsOf l).getD i 0) else look (l.drop (i + 1)) x := by
  have e1 : (nmsOf l).getD i emp = l[i].1 := by simp [nmsOf, List.getD_eq_getElem?_getD, hi]
  have e2 : (valsOf l).getD i 0 = l[i].2 := by simp [valsOf, List.getD_eq_getElem?_getD, hi]
  rw [List.drop_eq_getElem_cons hi, e1, e2]
  rfl
theorem getV_some {l : VL} {x : ByteArray} {z : Int} (hs : Srt (nmsOf l)) (h : look l x = some z) : getV l x = z ∧ fnd (nmsOf l) x = true := by
  rw [look_srt x hs] at h
  by_cases hf : fnd (nmsOf l) x = true
  · rw [if_pos hf] at h; exact ⟨Option.some.inj h, hf⟩
  · rw [if_neg hf] at h; cases h
theorem getV_none {l : VL} {x : ByteArray} (hs : Srt (nmsOf l)) (h : look l x = none) : getV l x = 0 ∧ fnd (nmsOf l) x = false := by
  rw [look_srt x hs] at h
  by_cases hf : fnd (nmsOf l) x = true
  · rw [if_pos hf] at h; cases h
  · refine ⟨by unfold getV; rw [if_neg hf], by simpa using hf⟩
set_option maxRecDepth 100000 in
set_option maxHeartbeats 1000000 in
theorem rGet_any (l : VL) (x : ByteArray) (v : Value) (w : World) (hv : RdV w v (nmsOf l) (valsOf l)) (hs : Srt (nmsOf l)) (hl : l.length ≤ 1000000) : Calls Try.prog 22 #[v, .string x] w fun e w' => e = .returned (.tuple #[.int .i64 (getV l x), .bool (fnd (nmsOf l) x)]) ∧ Below w.heap.size w w' := by
  obtain ⟨sn, sv, rfl, h1, h2⟩ := hv
  obtain ⟨a, c, rfl⟩ := h1.form
  obtain ⟨b, d, rfl⟩ := h2.form
  obtain ⟨_, hnc, hcm, _, hcell⟩ := h1.at
  obtain ⟨_, hnd, hdm, _, hcell2⟩ := h2.at
  simp only [strsV_len, intsV_len, nmsOf_len, valsOf_len] at *
  have HC : Hid (∀ i, i < l.length → ∃ b off, a = some ⟨b, off, none⟩ ∧ b < w.heap.size ∧ w.cell? ⟨b, off + i, none⟩ = some (.string ((nmsOf l).getD i emp))) := fun i hi => hcell i _ (strsV_at (by rw [nmsOf_len]; exact hi))
  have HC2 : Hid (∀ i, i < l.length → ∃ g off, b = some ⟨g, off, none⟩ ∧ g < w.heap.size ∧ w.cell? ⟨g, off + i, none⟩ = some (.int .i64 ((valsOf l).getD i 0))) := fun i hi => hcell2 i _ (intsV_at (by rw [valsOf_len]; exact hi))
  have HT : Hid (∀ w', Below (w.alloc (.cells #[.slice a l.length c, .slice b l.length d] 28)).heap.size (w.alloc (.cells #[.slice a l.length c, .slice b l.length d] 28)) w' → Two w' w.heap.size (.slice a l.length c) (.slice b l.length d) ∧ Below w.heap.size w w') := fun w' hb => ⟨(Two.new w _ _ 28).below hb, ((Below.refl _ _).alloc (Nat.le_refl _) _).trans (hb.mono (base_le (Nat.le_refl _) _))⟩
  have HS : Hid (∀ z, look l x = some z → getV l x = z ∧ fnd (nmsOf l) x = true) := fun z h => getV_some hs h
  have HN : Hid (look l x = none → getV l x = 0 ∧ fnd (nmsOf l) x = false) := fun h => getV_none hs h
  have HD : Hid (∀ i, i < l.length → look (l.drop i) x = if (nmsOf l).getD i emp = x then some ((valsOf l).getD i 0) else look (l.drop (i + 1)) x) := fun i hi => look_drop hi x
  have HZ : Hid (look (l.drop l.length) x = none) := by show look _ _ = _; rw [List.drop_length]; rfl
  have HI0 : Hid (look l x = look (l.drop 0) x) := rfl
  clear h1 h2 hcell hcell2 hs
  generalize getV l x = gv at *
  generalize fnd (nmsOf l) x = F at *
  generalize look l x = LK at *
  generalize hN : l.length = N at *
  go_enter Try.func22, Try.ntmps22
  go_wp2
  go_loopw [6] (fun s6 wr => ∃ i : Nat, i ≤ N ∧ s6 = .int .i64 i ∧ Hid (LK = look (l.drop i) x) ∧ Hid (Below (w.alloc (.cells #[.slice a N c, .slice b N d] 28)).heap.size (w.alloc (.cells #[.slice a N c, .slice b N d] 28)) wr)) (fun s6 _ => N - (intOf s6).toNat)
  case atStart => exact ⟨0, Nat.zero_le _, rfl, HI0, Below.refl _ _⟩
  case round =>
    obtain ⟨i, hi, rfl, HI, HB⟩ := hrel
    obtain ⟨⟨t4, t0, t1, t2, t3⟩, hBw⟩ := HT.out _ HB.out
    have HBw : Hid (Below w.heap.size w wr) := hBw
    by_cases hlt : i < N
    · obtain ⟨g, off, rfl, hg, hc⟩ := HC.out i hlt
      obtain ⟨g2, off2, rfl, hg2, hc2⟩ := HC2.out i hlt
      have cm := (hBw.cell (p := ⟨g, off + i, none⟩) hg).trans hc
      have cm2 := (hBw.cell (p := ⟨g2, off2 + i, none⟩) hg2).trans hc2
      have HI2 : Hid (LK = if (nmsOf l).getD i emp = x then some ((valsOf l).getD i 0) else look (l.drop (i + 1)) x) := HI.out.trans (HD.out i hlt)
      have HB2 := HB
      clear HC HC2 hc hc2 HI hBw HB HD HZ HI0
      generalize (nmsOf l).getD i emp = y at *
      generalize (valsOf l).getD i 0 = z at *
      by_cases hyx : y = x
      · subst hyx
        have HE : Hid (gv = z ∧ F = true) := HS.out z (by rw [HI2.out, if_pos rfl])
        clear HS HN HI2
        go_wp2
        go_ret2
        exact ⟨by rw [HE.out.1, HE.out.2]; rfl, HBw.out⟩
      · have hne : (y.toList == x.toList) = false := by rw [beq_eq_false_iff_ne]; exact fun h => hyx (ba_ext h)
        have HI3 : Hid (LK = look (l.drop (i + 1)) x) := by show _ = _; rw [HI2.out, if_neg hyx]
        clear HS HN HI2
        go_wp2
        go_roundw
        case rel => exact ⟨i + 1, by omega, by go_num, HI3, HB2⟩
        case measure => simp [intOf]; omega
    · have e : i = N := by omega
      have e' : N = i := e.symm
      clear e
      subst e'
      have HE : Hid (gv = 0 ∧ F = false) := HN.out (HI.out.trans HZ.out)
      clear HI HC HC2 HS HN HB hBw HD HZ HI0
      go_wp2
      go_ret2
      exact ⟨by rw [HE.out.1, HE.out.2]; rfl, HBw.out⟩
end V
namespace V
open Go.RowKit Pack
set_option linter.unusedVariables false


/-- A name behind others. -/
theorem push_name {p N c d : Nat} {a b0 : Option Addr} {L9 L2 : List Value} {s : ByteArray} {w2 w3 : World} {v' : Value} (q1 : Two w2 p (.slice a N c) (.slice b0 N d)) (q2 : Ow w2 (p + 1) 9 (.slice a N c) L9) (q3 : Ow w2 (p + 1) 2 (.slice b0 N d) L2) (q5 : Ow w3 (p + 1) 9 v' (L9 ++ [.string s])) (q6 : (w2.alloc (.cells #[.string s] 9)).grownBy w3 (Value.slice a N c).ownBlock) :
    Two w3 p (.slice a N c) (.slice b0 N d) ∧ (∃ a' n' c', v' = .slice a' n' c') ∧ Two (w3.setCell ⟨p, 0, none⟩ v') p v' (.slice b0 N d) ∧ Ow (w3.setCell ⟨p, 0, none⟩ v') (p + 1) 9 v' (L9 ++ [.string s]) ∧ Ow (w3.setCell ⟨p, 0, none⟩ v') (p + 1) 2 (.slice b0 N d) L2 ∧ Below p w2 (w3.setCell ⟨p, 0, none⟩ v') := by
  have q4 : p + 1 ≤ w2.heap.size := q1.lt
  have t3 := two_kept (q1.alloc (.cells #[.string s] 9)) q6 (ow_block (q2.alloc (.cells #[.string s] 9)))
  refine ⟨t3, ?_, two_set0 t3 v', ow_set q5 0 v', ow_set (ow_kept (q3.alloc (.cells #[.string s] 9)) q6 (ow_apart (q2.alloc (.cells #[.string s] 9)) (q3.alloc (.cells #[.string s] 9)))) 0 v', ?_⟩
  · obtain ⟨a', c', e⟩ := (Rd.of_own q5).form
    exact ⟨_, _, _, e⟩
  · exact Below.setCell (B := p) (below_row (B := p) (Below.alloc (B := p) (Below.refl _ _) (by omega) _) (by rw [size_alloc]; omega) (q2.alloc (.cells #[.string s] 9)) (by omega) q6) (p := ⟨p, 0, none⟩) (Nat.le_refl _) _
/-- A number behind others. -/
theorem push_val {p N d : Nat} {b0 : Option Addr} {l : VL} {s : ByteArray} {n : Int} {w4 w5 : World} {v' v2 : Value} (q1 : Two w4 p v' (.slice b0 N d)) (q2 : Ow w4 (p + 1) 9 v' (strsV (nmsOf l) ++ [.string s])) (q3 : Ow w4 (p + 1) 2 (.slice b0 N d) (intsV (valsOf l))) (q5 : Ow w5 (p + 1) 2 v2 (intsV (valsOf l) ++ [.int .i64 n])) (q6 : (w4.alloc (.cells #[.int .i64 n] 2)).grownBy w5 (Value.slice b0 N d).ownBlock) :
    Two w5 p v' (.slice b0 N d) ∧ (∃ a' n' c', v2 = .slice a' n' c') ∧ Vr (w5.setCell ⟨p, 1, none⟩ v2) p (l ++ [(s, n)]) ∧ Below p w4 (w5.setCell ⟨p, 1, none⟩ v2) := by
  have q4 : p + 1 ≤ w4.heap.size := q1.lt
  have t5 := two_kept (q1.alloc (.cells #[.int .i64 n] 2)) q6 (ow_block (q3.alloc (.cells #[.int .i64 n] 2)))
  refine ⟨t5, ?_, ⟨_, _, two_set1 t5 v2, ?_, ?_⟩, ?_⟩
  · obtain ⟨a', c', e⟩ := (Rd.of_own q5).form
    exact ⟨_, _, _, e⟩
  · have := ow_set (ow_kept9 (q2.alloc (.cells #[.int .i64 n] 2)) q6 (apart_sym (ow_apart (q2.alloc (.cells #[.int .i64 n] 2)) (q3.alloc (.cells #[.int .i64 n] 2))))) 1 v2
    simpa [strsV, nmsOf] using this
  · have := ow_set q5 1 v2
    simpa [intsV, valsOf] using this
  · exact Below.setCell (B := p) (below_row (B := p) (Below.alloc (B := p) (Below.refl _ _) (by omega) _) (by rw [size_alloc]; omega) (q3.alloc (.cells #[.int .i64 n] 2)) (by omega) q6) (p := ⟨p, 1, none⟩) (Nat.le_refl _) _
theorem size_set (w : World) (a : Addr) (u : Value) : (w.setCell a u).heap.size = w.heap.size := by simp [World.setCell]
end V
end Go.Proofs.Ytfjphlejhcdbaaa
