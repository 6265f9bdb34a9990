/-
  What a slice of texts or numbers reads as; rows of the call's own; variables in memory.
-/
import Derived.Test.YtekhfepfaegpaaaVM
import Derived.Test.YtekhfepfaegpaaaLaid
import Derived.Test.YtekhfepfaegpaaaMore2
import Derived.RegionTactic
import Derived.Deep.RegionHeld3
import Derived.Deep.LoopGhost
namespace Go.Proofs.Ytekhfepfaegpaaa
open Go.RowKit Pack
set_option linter.unusedVariables false

/-- A slice that reads as the cells l. -/
def Rd (w : World) (v : Value) (l : List Value) : Prop := ∃ a cap, v = .slice a l.length cap ∧ (a = none → cap = 0) ∧ l.length ≤ cap ∧ cap ≤ 9223372036854775807 ∧ (l = [] ∨ ∃ b off, a = some ⟨b, off, none⟩ ∧ b < w.heap.size ∧ ∀ i u, l[i]? = some u → w.cell? ⟨b, off + i, none⟩ = some u)
theorem Rd.below {w w' : World} {v : Value} {l : List Value} (h : Rd w v l) (hb : Below w.heap.size w w') : Rd w' v l := by
  obtain ⟨a, cap, h1, h2, h3, h4, h5⟩ := h
  refine ⟨a, cap, h1, h2, h3, h4, ?_⟩
  rcases h5 with h | ⟨b, off, ha, hlt, hc⟩
  · exact .inl h
  · exact .inr ⟨b, off, ha, Nat.lt_of_lt_of_le hlt hb.size, fun i u hu => (hb.cell (p := ⟨b, off + i, none⟩) hlt).trans (hc i u hu)⟩
theorem le_alloc (w : World) (o : Obj) : w.heap.size ≤ (w.alloc o).heap.size := base_le (Nat.le_refl _) o
theorem size_alloc (w : World) (o : Obj) : (w.alloc o).heap.size = w.heap.size + 1 := by show (w.heap.push o).size = _; rw [Array.size_push]
theorem Rd.alloc {w : World} {v : Value} {l : List Value} (h : Rd w v l) (o : Obj) : Rd (w.alloc o) v l := h.below ((Below.refl _ _).alloc (Nat.le_refl _) o)
theorem Rd.drew {w : World} {v : Value} {l : List Value} (h : Rd w v l) : Rd w.drew v l := h.below (Below.drew (Below.refl _ _))
theorem Rd.nil (w : World) : Rd w (.slice none 0 0) [] := ⟨none, 0, rfl, fun _ => rfl, Nat.le_refl _, by decide, .inl rfl⟩
/-- A row of the call's own, of cells of one type. -/
def Ow (w : World) (base : Nat) (t : TypeId) (v : Value) (l : List Value) : Prop := w.ownsRow base t 1 v l.length l
theorem Ow.nil (w : World) (base : Nat) (t : TypeId) : Ow w base t (.slice none 0 0) [] := World.ownsRow_nil _ _ _ _
theorem Ow.alloc {w : World} {base : Nat} {t : TypeId} {v : Value} {l : List Value} (h : Ow w base t v l) (o : Obj) : Ow (w.alloc o) base t v l := World.ownsRow.alloc h o
theorem Ow.le {w : World} {base base' : Nat} {t : TypeId} {v : Value} {l : List Value} (h : Ow w base t v l) (hb : base' ≤ base) : Ow w base' t v l := by
  refine ⟨h.1, ?_⟩
  rcases h.2 with h2 | ⟨g, cap, cur, h1, h2, h3⟩
  · exact .inl h2
  · exact .inr ⟨g, cap, cur, h1, Nat.le_trans hb h2, h3⟩
theorem Ow.kept {w w' : World} {base : Nat} {t : TypeId} {v : Value} {l : List Value} (h : Ow w base t v l) (hb : ∀ k, v.ownBlock = some k → w'.heap[k]? = w.heap[k]?) : Ow w' base t v l := by
  refine ⟨h.1, ?_⟩
  rcases h.2 with h2 | ⟨g, cap, cur, h1, h2, h3, h4⟩
  · exact .inl h2
  · exact .inr ⟨g, cap, cur, h1, h2, (hb g (by rw [h1]; rfl)).trans h3, h4⟩
theorem Ow.below {w w' : World} {base : Nat} {t : TypeId} {v : Value} {l : List Value} (h : Ow w base t v l) (hb : Below w.heap.size w w') : Ow w' base t v l :=
  h.kept fun k hk => hb.block k (World.ownsRow.lt h k hk).2
theorem Rd.of_own {w : World} {base : Nat} {t : TypeId} {v : Value} {l : List Value} (h : Ow w base t v l) : Rd w v l := by
  have hh := h
  rcases h.2 with ⟨rfl, h0⟩ | ⟨g, cap, cur, rfl, _, hg, hnc, hcm, _, _⟩
  · have : l = [] := List.length_eq_zero_iff.1 h0
    subst this
    exact Rd.nil w
  · refine ⟨_, cap, rfl, (fun h => by cases h), hnc, hcm, .inr ⟨g, 0, rfl, (Array.getElem?_eq_some_iff.1 hg).1, fun i u hu => ?_⟩⟩
    have hi : i < l.length := (List.getElem?_eq_some_iff.1 hu).1
    rw [Nat.zero_add, World.ownsRow.cellAt hh i (by omega), hu]
/-- A new row. -/
theorem Ow.new (w : World) (t : TypeId) (cs : Array Value) (base : Nat) (hb : base ≤ w.heap.size) (hm : cs.size ≤ 9223372036854775807) : Ow (w.alloc (.cells cs t)) base t (.slice (some ⟨w.heap.size, 0, none⟩) cs.size cs.size) cs.toList := by
  have := World.ownsRow_lit (base := base) (e := t) (size := 1) w cs cs.size hb hm (by omega)
  unfold Ow
  rw [Array.length_toList]
  exact this
theorem Rd.at {w : World} {a : Option Addr} {n c : Nat} {l : List Value} (h : Rd w (.slice a n c) l) : n = l.length ∧ n ≤ c ∧ c ≤ 9223372036854775807 ∧ (a = none → c = 0) ∧ ∀ i u, l[i]? = some u → ∃ b off, a = some ⟨b, off, none⟩ ∧ b < w.heap.size ∧ w.cell? ⟨b, off + i, none⟩ = some u := by
  obtain ⟨a', cap, h1, h2, h3, h4, h5⟩ := h
  simp only [Value.slice.injEq] at h1
  obtain ⟨rfl, rfl, rfl⟩ := h1
  refine ⟨rfl, h3, h4, h2, fun i u hu => ?_⟩
  rcases h5 with rfl | ⟨b, off, ha, hlt, hc⟩
  · simp at hu
  · exact ⟨b, off, ha, hlt, hc i u hu⟩
theorem Rd.form {w : World} {v : Value} {l : List Value} (h : Rd w v l) : ∃ a c, v = .slice a l.length c := by
  obtain ⟨a, cap, h1, _⟩ := h
  exact ⟨a, cap, h1⟩

def strsV (ns : List ByteArray) : List Value := ns.map Value.string
def intsV (vs : List Int) : List Value := vs.map (Value.int .i64)
theorem strsV_len (ns : List ByteArray) : (strsV ns).length = ns.length := List.length_map ..
theorem intsV_len (vs : List Int) : (intsV vs).length = vs.length := List.length_map ..
theorem strsV_at {ns : List ByteArray} {i : Nat} (h : i < ns.length) : (strsV ns)[i]? = some (.string (ns.getD i emp)) := by
  simp [strsV, h, List.getD_eq_getElem?_getD]
theorem intsV_at {vs : List Int} {i : Nat} (h : i < vs.length) : (intsV vs)[i]? = some (.int .i64 (vs.getD i 0)) := by
  simp [intsV, h, List.getD_eq_getElem?_getD]
theorem strsV_one {ns : List ByteArray} : ∀ u ∈ strsV ns, u.oneCell' = true := by
  intro u hu
  obtain ⟨b, _, rfl⟩ := List.mem_map.1 hu
  rfl
theorem intsV_one {ns : List Int} : ∀ u ∈ intsV ns, u.oneCell' = true := by
  intro u hu
  obtain ⟨b, _, rfl⟩ := List.mem_map.1 hu
  rfl
/-- Variables as a value. -/
def RdV (w : World) (v : Value) (ns : List ByteArray) (vs : List Int) : Prop := ∃ sn sv, v = .agg #[sn, sv] ∧ Rd w sn (strsV ns) ∧ Rd w sv (intsV vs)
theorem RdV.below {w w' : World} {v : Value} {ns : List ByteArray} {vs : List Int} (h : RdV w v ns vs) (hb : Below w.heap.size w w') : RdV w' v ns vs := by
  obtain ⟨sn, sv, h1, h2, h3⟩ := h
  exact ⟨sn, sv, h1, h2.below hb, h3.below hb⟩
theorem RdV.nil (w : World) : RdV w (.agg #[.slice none 0 0, .slice none 0 0]) [] [] := ⟨_, _, rfl, Rd.nil w, Rd.nil w⟩
/-- A block of two cells. -/
structure Two (w : World) (p : Nat) (x y : Value) : Prop where
  lt : p < w.heap.size
  c0 : w.cell? ⟨p, 0, none⟩ = some x
  c1 : w.cell? ⟨p, 1, none⟩ = some y
  f0 : w.frozen? ⟨p, 0, none⟩ = false
  f1 : w.frozen? ⟨p, 1, none⟩ = false
theorem Two.new (w : World) (x y : Value) (t : TypeId) : Two (w.alloc (.cells #[x, y] t)) w.heap.size x y := by
  refine ⟨by rw [size_alloc]; omega, ?_, ?_, ?_, ?_⟩
  · rw [cell_of_row _ w.heap.size 0 _ t (0, 0) (heap_alloc_new w _)]; rfl
  · rw [cell_of_row _ w.heap.size 1 _ t (0, 0) (heap_alloc_new w _)]; rfl
  · exact frozen_of_row _ w.heap.size 0 _ t (heap_alloc_new w _)
  · exact frozen_of_row _ w.heap.size 1 _ t (heap_alloc_new w _)
theorem Two.below {w w' : World} {p : Nat} {x y : Value} (h : Two w p x y) (hb : Below w.heap.size w w') : Two w' p x y :=
  ⟨Nat.lt_of_lt_of_le h.lt hb.size, (hb.cell (p := ⟨p, 0, none⟩) h.lt).trans h.c0, (hb.cell (p := ⟨p, 1, none⟩) h.lt).trans h.c1, (hb.frozen (p := ⟨p, 0, none⟩) h.lt).trans h.f0, (hb.frozen (p := ⟨p, 1, none⟩) h.lt).trans h.f1⟩
theorem Two.alloc {w : World} {p : Nat} {x y : Value} (h : Two w p x y) (o : Obj) : Two (w.alloc o) p x y := h.below ((Below.refl _ _).alloc (Nat.le_refl _) o)
end Go.Proofs.Ytekhfepfaegpaaa
