/-
  The scan's stack, and where a round stands.
-/
import Derived.Test.YtdnpbnhfakjhoaaStk
namespace Go.Proofs.Ytdnpbnhfakjhoaa
open Go.RowKit
set_option linter.unusedVariables false


def zLay : Lay2 := (0, .slice none 0 0)
def zOp : Op1 := (0, [])
/-- The stack as it lies: from the bottom up; levels from the first on. -/
structure Sc (w wr : World) (v : Value) (st : List Op1) : Prop where
  lays : ∃ ls : List Lay2, ls.length = st.length ∧ wr.ownsRow w.heap.size 73 2 v ls.length (flat2 ls) ∧ ∀ i, i < st.length → (ls.getD i zLay).1 = (st.getD i zOp).1 ∧ LevV wr w.heap.size (ls.getD i zLay).2 (st.getD i zOp).2
  bel : Below w.heap.size w wr
/-- The scan's stack, from the top down, turned. -/
def turn (top : Op1) (st : List Op1) : List Op1 := ((top :: st).map fun x => (x.1, x.2.reverse)).reverse
/-- Where a round stands. -/
def Mark (w wr : World) (v : Value) (l : List W) (i : Nat) (un : Nat) (op : Bool) (R : Option (Nat × List W)) : Prop :=
  ∃ top st, Sc w wr v (turn top st) ∧ scanM (l.drop i) top st un op = R ∧ st.length ≤ i ∧ (∀ x ∈ top :: st, x.1 ≤ 17 ∧ x.2.length ≤ i)
theorem sc_start (w : World) : Sc w (w.alloc (.cells #[.int .i64 1, .slice none 0 0] 73)) (.slice (some ⟨w.heap.size, 0, none⟩) 1 1) (turn (1, []) []) := by
  refine ⟨⟨[(1, .slice none 0 0)], rfl, ⟨rfl, .inr ⟨w.heap.size, 1, #[.int .i64 1, .slice none 0 0], rfl, Nat.le_refl _, heap_alloc_new _ _, Nat.le_refl _, by unfold maxLen; decide, rfl, rfl⟩⟩, fun i hi => ?_⟩, (Below.refl _ _).alloc (Nat.le_refl _) _⟩
  have : i = 0 := by simp [turn] at hi; omega
  subst this
  exact ⟨rfl, LevV.nil _ _⟩
theorem turn_len (top : Op1) (st : List Op1) : (turn top st).length = st.length + 1 := by unfold turn; simp
theorem turn_last (top : Op1) (st : List Op1) : (turn top st).getD st.length zOp = (top.1, top.2.reverse) := by
  unfold turn
  rw [List.map_cons, List.reverse_cons, List.getD_eq_getElem?_getD, List.getElem?_append_right (by simp)]
  simp
/-- The top as it lies. -/
structure TopAt (w wr : World) (v : Value) (top : Op1) (m g cap : Nat) (a : Option Addr) (c : Nat) : Prop where
  v : v = .slice (some ⟨g, 0, none⟩) (m + 1) cap
  cap : m + 1 ≤ cap
  lt : g < wr.heap.size
  c0 : wr.cell? ⟨g, m * 2, none⟩ = some (.int .i64 top.1)
  c1 : wr.cell? ⟨g, m * 2 + 1, none⟩ = some (.slice a top.2.length c)
  lev : LevV wr w.heap.size (.slice a top.2.length c) top.2.reverse
theorem Sc.top {w wr : World} {v : Value} {top : Op1} {st : List Op1} (h : Sc w wr v (turn top st)) : ∃ g cap a c, TopAt w wr v top st.length g cap a c := by
  obtain ⟨ls, h1, h2, h3⟩ := h.lays
  rw [turn_len] at h1
  have hh := h2
  obtain ⟨e1, e2⟩ := h3 st.length (by rw [turn_len]; omega)
  rw [turn_last] at e1 e2
  obtain ⟨a, c, e3, e4⟩ := e2.slice
  rw [e3] at e2
  rw [List.length_reverse] at e2 e3
  obtain ⟨f0, f1⟩ := flat2_at ls (i := st.length) (by omega)
  rcases h2.2 with ⟨_, h0⟩ | ⟨g, cap, cur, hv, hg, hb, hnc, hcm, hcs, _⟩
  · omega
  · subst hv
    have k0 := World.ownsRow.cellAt hh (st.length * 2) (by omega)
    have k1 := World.ownsRow.cellAt hh (st.length * 2 + 1) (by omega)
    have hz : (ls.getD st.length (0, .slice none 0 0)) = ls.getD st.length zLay := rfl
    rw [hz] at f0 f1
    refine ⟨g, cap, a, c, by rw [h1], by omega, (Array.getElem?_eq_some_iff.1 hb).1, ?_, ?_, e2⟩
    · rw [k0, f0, e1]
    · rw [k1, f1, e3]
end Go.Proofs.Ytdnpbnhfakjhoaa
