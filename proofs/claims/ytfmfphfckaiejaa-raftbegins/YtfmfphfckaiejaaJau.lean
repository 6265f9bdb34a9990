/-
  The program's Tick: its contract.
-/
import Derived.Test.YtfmfphfckaiejaaJat
import Derived.Test.YtfmfphfckaiejaaJah
namespace Go.Proofs.Ytfmfphfckaiejaa
section
open Go.RowKit
set_option linter.unusedVariables false


/-- What a call answers: a member, and what it sends. -/
def TkP (r : Mb × List Ms) (w : World) (e : Ending) (w' : World) : Prop := ∃ s' a c, e = .returned (.tuple #[mbA s' r.1, .slice a r.2.length c]) ∧ MbV w' (fun _ => True) s' r.1 ∧ RwV msR w' (fun _ => True) a c r.2 ∧ Below w.heap.size w w'
/-- At its end: the result's box is written. -/
theorem Wk.done {wx wz : World} {B M Q : Nat} {s : Ad} {m : Mb} {a : Option Addr} {n c : Nat} {ts : List Ms} (h : Wk wx B M s m (.slice a n c) ts) (hQ : B = Q + 1) (hB : Q < B) (hz : ∀ g, g ≠ Q → wz.heap[g]? = wx.heap[g]?) : n = ts.length ∧ MbV wz (fun _ => True) s m ∧ RwV msR wz (fun _ => True) a c ts := by
  obtain ⟨e, hr⟩ := h.o.reads
  refine ⟨e, h.r.kept fun g hp _ => ⟨hz g (by have := hp.2; omega), trivial⟩, ?_⟩
  subst e
  exact ((h.o.kept (S' := fun _ => True) (fun g hg => hz g (by have := (h.o.own g hg).1; omega)) fun g hg _ _ => ⟨hz g (by have := hg.2; omega), trivial⟩).reads.2).all
/-- The result's box, ahead of its writing. -/
structure Rdy (w wx : World) (s : Ad) (m : Mb) (a : Option Addr) (n c : Nat) (ts : List Ms) : Prop where
  k : Wk wx (w.heap.size + 1 + 1) (w.heap.size + 1 + 1) s m (.slice a n c) ts
  q : Cl16 wx (w.heap.size + 1) (.int .i64 0) (.int .i64 0) (.int .i64 0) (.int .i64 0) (.int .i64 0) (.int .i64 0) (.int .i64 0) (.int .i64 0) (.slice none 0 0) (.int .i64 0) (.slice none 0 0) (.slice none 0 0) (.slice none 0 0) (.slice none 0 0) (.int .i64 0) (.int .i64 0)
  b : Below w.heap.size w wx
theorem Rdy.of {w W wx : World} {o1 : Obj} {s0 : Ad} {m0 : Mb} {s : Ad} {m : Mb} {a : Option Addr} {n c : Nat} {ts : List Ms} (hW : W = ((w.alloc o1).alloc (Obj.cells #[.int .i64 0, .int .i64 0, .int .i64 0, .int .i64 0, .int .i64 0, .int .i64 0, .int .i64 0, .int .i64 0, .slice none 0 0, .int .i64 0, .slice none 0 0, .slice none 0 0, .slice none 0 0, .slice none 0 0, .int .i64 0, .int .i64 0] 31)).alloc (Obj.cells (mbCells s0 m0 ++ [Value.slice none 0 0]).toArray 84)) (h : Wk wx (w.heap.size + 1 + 1) (w.heap.size + 1 + 1) s m (.slice a n c) ts) (hd : Dn (w.heap.size + 1 + 1) (w.heap.size + 1 + 1) (.slice none 0 0) (.slice a n c) W wx) : Rdy w wx s m a n c ts := by
  have hb : Below w.heap.size w W := by rw [hW]; exact (below2 w _ _).alloc (Nat.le_trans (le_alloc _ _) (le_alloc _ _)) _
  refine ⟨h, ?_, hb.trans (hd.b.mono (by omega))⟩
  have h1 : Cl16 W (w.heap.size + 1) (.int .i64 0) (.int .i64 0) (.int .i64 0) (.int .i64 0) (.int .i64 0) (.int .i64 0) (.int .i64 0) (.int .i64 0) (.slice none 0 0) (.int .i64 0) (.slice none 0 0) (.slice none 0 0) (.slice none 0 0) (.slice none 0 0) (.int .i64 0) (.int .i64 0) := by
    rw [hW]
    have q := Cl16.new (w.alloc o1) (.int .i64 0) (.int .i64 0) (.int .i64 0) (.int .i64 0) (.int .i64 0) (.int .i64 0) (.int .i64 0) (.int .i64 0) (.slice none 0 0) (.int .i64 0) (.slice none 0 0) (.slice none 0 0) (.slice none 0 0) (.slice none 0 0) (.int .i64 0) (.int .i64 0) 31
    rw [size_alloc] at q
    exact q.below ((Below.refl _ _).alloc (Nat.le_refl _) _)
  exact h1.kept (hd.b.block _ (by omega))
theorem Rdy.done {w wx wz : World} {s : Ad} {m : Mb} {a : Option Addr} {n c : Nat} {ts : List Ms} (h : Rdy w wx s m a n c ts) (hz : ∀ g, g ≠ w.heap.size + 1 → wz.heap[g]? = wx.heap[g]?) (hb : Below w.heap.size w wz) : TkP (m, ts) w (.returned (.tuple #[mbA s m, .slice a n c])) wz := by
  obtain ⟨e, q1, q2⟩ := h.k.done (wz := wz) (Q := w.heap.size + 1) rfl (by omega) hz
  subst e
  exact ⟨s, a, c, rfl, q1, q2, hb⟩
theorem Rdy.fin {w wx X : World} {s : Ad} {m : Mb} {a : Option Addr} {n c : Nat} {ts : List Ms} {v0 v1 v2 v3 v4 v5 v6 v7 v8 v9 v10 v11 v12 v13 v14 v15 : Value} (h : Rdy w wx s m a n c ts) (hX : Cl16 X (w.heap.size + 1) v0 v1 v2 v3 v4 v5 v6 v7 v8 v9 v10 v11 v12 v13 v14 v15) (ho : ∀ g, g ≠ w.heap.size + 1 → X.heap[g]? = wx.heap[g]?) (hb : Below w.heap.size w X) : Cl16 X.drew (w.heap.size + 1) v0 v1 v2 v3 v4 v5 v6 v7 v8 v9 v10 v11 v12 v13 v14 v15 ∧ TkP (m, ts) w (.returned (.tuple #[mbA s m, .slice a n c])) X.drew := ⟨hX.below (Below.refl _ _).drew, h.done (fun g hg => ho g hg) hb.drew⟩
theorem loadMb {w : World} {Q : Nat} {v0 v1 v2 v3 v4 v5 v6 v7 v8 v9 v10 v11 v12 v13 v14 v15 : Value} (h : Cl16 w Q v0 v1 v2 v3 v4 v5 v6 v7 v8 v9 v10 v11 v12 v13 v14 v15) : (loadVar 31 ⟨Q, 0, none⟩).run Try.prog w = .ok (.agg #[v0, v1, v2, v3, v4, v5, v6, v7, v8, v9, v10, v11, v12, v13, v14, v15]) w := by
  have hl : (loadCells ⟨Q, 0, none⟩ 16).run Try.prog w = .ok #[v0, v1, v2, v3, v4, v5, v6, v7, v8, v9, v10, v11, v12, v13, v14, v15] w := by
    refine run_loadCells_list (P := Try.prog) w ⟨Q, 0, none⟩ [v0, v1, v2, v3, v4, v5, v6, v7, v8, v9, v10, v11, v12, v13, v14, v15] fun j v hj => ?_
    rw [add_plain, Nat.zero_add]
    have hlt : j < 16 := (List.getElem?_eq_some_iff.1 hj).1
    have : j = 0 ∨ j = 1 ∨ j = 2 ∨ j = 3 ∨ j = 4 ∨ j = 5 ∨ j = 6 ∨ j = 7 ∨ j = 8 ∨ j = 9 ∨ j = 10 ∨ j = 11 ∨ j = 12 ∨ j = 13 ∨ j = 14 ∨ j = 15 := by omega
    rcases this with rfl | rfl | rfl | rfl | rfl | rfl | rfl | rfl | rfl | rfl | rfl | rfl | rfl | rfl | rfl | rfl <;> (rw [← hj])
    · exact h.c0
    · exact h.c1
    · exact h.c2
    · exact h.c3
    · exact h.c4
    · exact h.c5
    · exact h.c6
    · exact h.c7
    · exact h.c8
    · exact h.c9
    · exact h.c10
    · exact h.c11
    · exact h.c12
    · exact h.c13
    · exact h.c14
    · exact h.c15
  simp only [loadVar, Sem.run_bind, Sem.run_pure, Try.isAgg31, Try.sizeOf31, Result.andThen_ok, hl, if_true]
theorem resTick {w : World} {Q : Nat} {v0 v1 v2 v3 v4 v5 v6 v7 v8 v9 v10 v11 v12 v13 v14 v15 : Value} (tmps : Array Value) (h : Cl16 w Q v0 v1 v2 v3 v4 v5 v6 v7 v8 v9 v10 v11 v12 v13 v14 v15) (h4 : tmps.getD 4 undef = .pointer (some ⟨Q, 0, none⟩)) : (results Try.f22 tmps).run Try.prog w = .ok (.tuple #[.agg #[v0, v1, v2, v3, v4, v5, v6, v7, v8, v9, v10, v11, v12, v13, v14, v15], tmps.getD 5 undef]) w := by
  have h4' : tmps[4]?.getD undef = .pointer (some ⟨Q, 0, none⟩) := by simpa using h4
  simp [results, Try.results22, h4', loadMb h, asAddr]
end
section
open Go.RowKit
set_option linter.unusedVariables false


/-- What Propose answers. -/
def PpP (r : Mb × Int × List Ms × Int) (w : World) (e : Ending) (w' : World) : Prop := ∃ s' a c, e = .returned (.tuple #[mbA s' r.1, .int .i64 r.2.1, .slice a r.2.2.1.length c, .int .i64 r.2.2.2]) ∧ MbV w' (fun _ => True) s' r.1 ∧ RwV msR w' (fun _ => True) a c r.2.2.1 ∧ Below w.heap.size w w'
theorem resProp {w : World} {Q : Nat} {v0 v1 v2 v3 v4 v5 v6 v7 v8 v9 v10 v11 v12 v13 v14 v15 : Value} (tmps : Array Value) (h : Cl16 w Q v0 v1 v2 v3 v4 v5 v6 v7 v8 v9 v10 v11 v12 v13 v14 v15) (h4 : tmps.getD 4 undef = .pointer (some ⟨Q, 0, none⟩)) : (results Try.f23 tmps).run Try.prog w = .ok (.tuple #[.agg #[v0, v1, v2, v3, v4, v5, v6, v7, v8, v9, v10, v11, v12, v13, v14, v15], tmps.getD 5 undef, tmps.getD 6 undef, tmps.getD 7 undef]) w := by
  have h4' : tmps[4]?.getD undef = .pointer (some ⟨Q, 0, none⟩) := by simpa using h4
  simp [results, Try.results23, h4', loadMb h, asAddr]
theorem Rdy.prop {w wx X : World} {s : Ad} {m : Mb} {a : Option Addr} {n c : Nat} {ts : List Ms} {v0 v1 v2 v3 v4 v5 v6 v7 v8 v9 v10 v11 v12 v13 v14 v15 : Value} {k e : Int} (h : Rdy w wx s m a n c ts) (hX : Cl16 X (w.heap.size + 1) v0 v1 v2 v3 v4 v5 v6 v7 v8 v9 v10 v11 v12 v13 v14 v15) (ho : ∀ g, g ≠ w.heap.size + 1 → X.heap[g]? = wx.heap[g]?) (hb : Below w.heap.size w X) : Cl16 X (w.heap.size + 1) v0 v1 v2 v3 v4 v5 v6 v7 v8 v9 v10 v11 v12 v13 v14 v15 ∧ PpP (m, k, ts, e) w (.returned (.tuple #[mbA s m, .int .i64 k, .slice a n c, .int .i64 e])) X := by
  obtain ⟨e1, q1, q2⟩ := h.k.done (wz := X) (Q := w.heap.size + 1) rfl (by omega) ho
  subst e1
  exact ⟨hX, s, a, c, rfl, q1, q2, hb⟩
theorem Rdy.below {w wx wy : World} {s : Ad} {m : Mb} {a : Option Addr} {n c : Nat} {ts : List Ms} (h : Rdy w wx s m a n c ts) (hb : Below wx.heap.size wx wy) : Rdy w wy s m a n c ts := ⟨h.k.below hb, h.q.below hb, h.b.trans (hb.mono h.b.size)⟩
end
end Go.Proofs.Ytfmfphfckaiejaa
