/-
  The law's own Begin: contract.
-/
import Derived.Test.YtfmfphfckaiejaaJbd
import Derived.Test.YtfmfphfckaiejaaJaw
import Derived.Test.YtfmfphfckaiejaaJbe
namespace Go.Proofs.Ytfmfphfckaiejaa
section
open Go.RowKit
set_option linter.unusedVariables false


def begL (n k : Nat) : List Mb := (List.range k).map fun (j : Nat) => (newM ((j : Int) + 1) n).1
/-- Where nothing lies it does not matter where. -/
theorem MbV.empty {w : World} {Q : Nat → Prop} {s : Ad} {m : Mb} (h : MbV w (fun _ => True) s m) (h1 : m.es = []) (h2 : m.snap = []) (h3 : m.granted = []) (h4 : m.next = []) (h5 : m.mtch = []) : MbV w Q s m := by
  obtain ⟨e, sn, sP, g, gP, x, xP, t, tP⟩ := h
  refine ⟨?_, sn, ?_, g, ?_, x, ?_, t, ?_⟩
  · rw [h1] at e ⊢
    exact ⟨e.1, e.2.1, e.2.2.1, fun i hi => absurd hi (Nat.not_lt_zero _)⟩
  · rw [h2]; exact PV.none _ _
  · rw [h3]; exact PV.none _ _
  · rw [h4]; exact PV.none _ _
  · rw [h5]; exact PV.none _ _
/-- What stands in Begin's rounds. -/
structure Bn (w wr : World) (n k : Nat) (v : Value) : Prop where
  b : Below w.heap.size w wr
  a : Cl2 wr w.heap.size (.slice none 0 0) (.slice none 0 0)
  c : Cl2 wr (w.heap.size + 1) v (.slice none 0 0)
  g : Gr mbR 31 wr (w.heap.size + 1 + 1) (fun g => w.heap.size + 1 + 1 ≤ g) v (begL n k)
  z : w.heap.size + 1 + 1 ≤ wr.heap.size
theorem Bn.below {w wr wx : World} {n k : Nat} {v : Value} (h : Bn w wr n k v) (hb : Below wr.heap.size wr wx) : Bn w wx n k v := ⟨h.b.trans (hb.mono h.b.size), h.a.below hb, h.c.below hb, h.g.below hb, Nat.le_trans h.z hb.size⟩
theorem Bn.first (w : World) (n : Nat) : Bn w ((w.alloc (.cells #[.slice none 0 0, .slice none 0 0] 43)).alloc (.cells #[.slice none 0 0, .slice none 0 0] 43)) n 0 (.slice none 0 0) := by
  have h1 := Cl2.new w (.slice none 0 0) (.slice none 0 0) 43
  have h2 := Cl2.new (w.alloc (.cells #[.slice none 0 0, .slice none 0 0] 43)) (.slice none 0 0) (.slice none 0 0) 43
  rw [size_alloc] at h2
  exact ⟨below2 w _ _, h1.alloc _, h2, Gr.nil _ _ _ _ _, by rw [two_size]; exact Nat.le_refl _⟩
theorem Bn.step {w wX w3 : World} {n k : Nat} {v v3 : Value} (h : Bn w wX n k v) (hG : Gr mbR 31 w3 (w.heap.size + 1 + 1) (fun g => w.heap.size + 1 + 1 ≤ g) v3 (begL n (k + 1))) (hg : wX.grownBy w3 v.ownBlock) : Cl2 w3 (w.heap.size + 1) v (.slice none 0 0) ∧ Bn w (w3.setCell ⟨w.heap.size + 1, 0, none⟩ v3) n (k + 1) v3 := by
  have hz := h.z
  have hb : Below (w.heap.size + 1 + 1) wX w3 := (Below.refl _ _).grown hg h.z fun j hj => (h.g.own j hj).1
  have c := h.c.kept (hb.block _ (by omega))
  refine ⟨c, (h.b.trans (hb.mono (by omega))).setCell (p := ⟨w.heap.size + 1, 0, none⟩) (by show w.heap.size ≤ w.heap.size + 1; omega) _, (h.a.kept (hb.block _ (by omega))).kept (heap_other (by omega)), c.put 0 v3, hG.kept (fun g q => heap_other (by have := (hG.own g q).1; omega)) (fun g q _ _ => ?_), by rw [size_set]; exact Nat.le_trans hz hb.size⟩
  have q : w.heap.size + 1 + 1 ≤ g := q
  exact ⟨heap_other (by omega), q⟩
end
section
open Go.RowKit
set_option linter.unusedVariables false
set_option linter.unusedSimpArgs false


/-- 4 cells of a block. -/
structure Cl4 (w : World) (b : Nat) (v0 v1 v2 v3 : Value) : Prop where
  c0 : w.cell? ⟨b, 0, none⟩ = some v0
  c1 : w.cell? ⟨b, 1, none⟩ = some v1
  c2 : w.cell? ⟨b, 2, none⟩ = some v2
  c3 : w.cell? ⟨b, 3, none⟩ = some v3
  free : ∀ i, w.frozen? ⟨b, i, none⟩ = false
theorem Cl4.new (w : World) (v0 v1 v2 v3 : Value) (t : TypeId) : Cl4 (w.alloc (.cells #[v0, v1, v2, v3] t)) w.heap.size v0 v1 v2 v3 := by
  have k := heap_alloc_new w (.cells #[v0, v1, v2, v3] t)
  refine ⟨?_, ?_, ?_, ?_, fun i => by simp only [World.frozen?]; rw [k]; simp⟩ <;> (rw [cell_of_row _ _ _ _ t (0, 0) k]; rfl)
theorem Cl4.kept {w w' : World} {b : Nat} {v0 v1 v2 v3 : Value} (h : Cl4 w b v0 v1 v2 v3) (e : w'.heap[b]? = w.heap[b]?) : Cl4 w' b v0 v1 v2 v3 := ⟨(cell_kept e _).trans h.c0, (cell_kept e _).trans h.c1, (cell_kept e _).trans h.c2, (cell_kept e _).trans h.c3, fun i => (frozen_kept e _).trans (h.free i)⟩
theorem Cl4.lt {w : World} {b : Nat} {v0 v1 v2 v3 : Value} (h : Cl4 w b v0 v1 v2 v3) : b < w.heap.size := World.block_lt_of_cell? w _ h.c0
/-- What stands in the boxes of Do. -/
structure Sd (w wy : World) (ra : Option Addr) (rc : Nat) (na : Option Addr) (nc : Nat) (W : Wd) (o : Op) (da : Option Addr) (dc : Nat) (s : Ad) (m : Mb) : Prop where
  a : Cl2 wy (w.heap.size) (.slice ra W.R.length rc) (.slice na W.net.length nc)
  b : Cl4 wy (w.heap.size + 1) (.int .i64 o.kind) (.int .i64 o.who) (.int .i64 o.n) (.slice da o.data.length dc)
  c : Cl2 wy (w.heap.size + 1 + 1) (.slice none 0 0) (.slice none 0 0)
  d : Cl16 wy (w.heap.size + 1 + 1 + 1) (.int .i64 m.id) (.int .i64 m.n) (.int .i64 m.term) (.int .i64 m.vote) (.int .i64 m.role) (.int .i64 m.lead) (.int .i64 m.b) (.int .i64 m.bt) (.slice s.ea m.es.length s.ec) (.int .i64 m.commit) (.slice s.sa m.snap.length s.sc) (.slice s.ga m.granted.length s.gc) (.slice s.xa m.next.length s.xc) (.slice s.ma m.mtch.length s.mc) (.int .i64 m.clock) (.int .i64 m.wait)
  q : Sls wy (w.heap.size + 1 + 1)
  l : Below w.heap.size w wy
  z : w.heap.size + 1 + 1 + 1 + 1 ≤ wy.heap.size
theorem Sd.first (w : World) (ra : Option Addr) (rc : Nat) (na : Option Addr) (nc : Nat) (W : Wd) (o : Op) (da : Option Addr) (dc : Nat) (s : Ad) (m : Mb) : Sd w ((((w.alloc (Obj.cells #[.slice ra W.R.length rc, .slice na W.net.length nc] 43)).alloc (Obj.cells #[.int .i64 o.kind, .int .i64 o.who, .int .i64 o.n, .slice da o.data.length dc] 48)).alloc (Obj.cells #[.slice none 0 0, .slice none 0 0] 43)).alloc (Obj.cells #[.int .i64 m.id, .int .i64 m.n, .int .i64 m.term, .int .i64 m.vote, .int .i64 m.role, .int .i64 m.lead, .int .i64 m.b, .int .i64 m.bt, .slice s.ea m.es.length s.ec, .int .i64 m.commit, .slice s.sa m.snap.length s.sc, .slice s.ga m.granted.length s.gc, .slice s.xa m.next.length s.xc, .slice s.ma m.mtch.length s.mc, .int .i64 m.clock, .int .i64 m.wait] 31)) ra rc na nc W o da dc s m := by
  have h1 := Cl2.new w (.slice ra W.R.length rc) (.slice na W.net.length nc) 43
  have h2 := Cl4.new (w.alloc (Obj.cells #[.slice ra W.R.length rc, .slice na W.net.length nc] 43)) (.int .i64 o.kind) (.int .i64 o.who) (.int .i64 o.n) (.slice da o.data.length dc) 48
  have h3 := Cl2.new ((w.alloc (Obj.cells #[.slice ra W.R.length rc, .slice na W.net.length nc] 43)).alloc (Obj.cells #[.int .i64 o.kind, .int .i64 o.who, .int .i64 o.n, .slice da o.data.length dc] 48)) (.slice none 0 0) (.slice none 0 0) 43
  have h4 := Cl16.new (((w.alloc (Obj.cells #[.slice ra W.R.length rc, .slice na W.net.length nc] 43)).alloc (Obj.cells #[.int .i64 o.kind, .int .i64 o.who, .int .i64 o.n, .slice da o.data.length dc] 48)).alloc (Obj.cells #[.slice none 0 0, .slice none 0 0] 43)) (.int .i64 m.id) (.int .i64 m.n) (.int .i64 m.term) (.int .i64 m.vote) (.int .i64 m.role) (.int .i64 m.lead) (.int .i64 m.b) (.int .i64 m.bt) (.slice s.ea m.es.length s.ec) (.int .i64 m.commit) (.slice s.sa m.snap.length s.sc) (.slice s.ga m.granted.length s.gc) (.slice s.xa m.next.length s.xc) (.slice s.ma m.mtch.length s.mc) (.int .i64 m.clock) (.int .i64 m.wait) 31
  have h5 := Sls.new2 ((w.alloc (Obj.cells #[.slice ra W.R.length rc, .slice na W.net.length nc] 43)).alloc (Obj.cells #[.int .i64 o.kind, .int .i64 o.who, .int .i64 o.n, .slice da o.data.length dc] 48)) none none 0 0 0 0 43
  have h3l := h3.lt
  have h2l := h2.lt
  rw [size_alloc] at h2
  rw [two_size] at h3 h5
  rw [size_alloc, two_size] at h4
  have hs : w.heap.size + 1 < ((w.alloc (Obj.cells #[.slice ra W.R.length rc, .slice na W.net.length nc] 43)).alloc (Obj.cells #[.int .i64 o.kind, .int .i64 o.who, .int .i64 o.n, .slice da o.data.length dc] 48)).heap.size := by rw [two_size]; omega
  have hs2 : w.heap.size + 1 < (((w.alloc (Obj.cells #[.slice ra W.R.length rc, .slice na W.net.length nc] 43)).alloc (Obj.cells #[.int .i64 o.kind, .int .i64 o.who, .int .i64 o.n, .slice da o.data.length dc] 48)).alloc (Obj.cells #[.slice none 0 0, .slice none 0 0] 43)).heap.size := by rw [size_alloc, two_size]; omega
  have hs3 : w.heap.size + 1 + 1 < (((w.alloc (Obj.cells #[.slice ra W.R.length rc, .slice na W.net.length nc] 43)).alloc (Obj.cells #[.int .i64 o.kind, .int .i64 o.who, .int .i64 o.n, .slice da o.data.length dc] 48)).alloc (Obj.cells #[.slice none 0 0, .slice none 0 0] 43)).heap.size := by rw [size_alloc, two_size]; omega
  exact ⟨((h1.alloc _).alloc _).alloc _, (h2.kept (Below.heap_alloc _ _ _ hs)).kept (Below.heap_alloc _ _ _ hs2), h3.alloc _, h4, h5.kept (Below.heap_alloc _ _ _ hs3), b4 w _ _ _ _, by rw [four_size]; exact Nat.le_refl _⟩
section
variable {w wy wz : World} {ra : Option Addr} {rc : Nat} {na : Option Addr} {nc : Nat} {W : Wd} {o : Op} {da : Option Addr} {dc : Nat} {s : Ad} {m : Mb}
theorem Sd.kept (h : Sd w wy ra rc na nc W o da dc s m) (hb : Below (w.heap.size + 1 + 1 + 1 + 1) wy wz) : Sd w wz ra rc na nc W o da dc s m := by
  have hz := h.z
  exact ⟨h.a.kept (hb.block _ (by omega)), h.b.kept (hb.block _ (by omega)), h.c.kept (hb.block _ (by omega)), h.d.kept (hb.block _ (by omega)), h.q.kept (hb.block _ (by omega)), h.l.trans (hb.mono (by omega)), Nat.le_trans hz hb.size⟩
theorem Sd.below (h : Sd w wy ra rc na nc W o da dc s m) (hb : Below wy.heap.size wy wz) : Sd w wz ra rc na nc W o da dc s m := h.kept (hb.mono h.z)
/-- The result is put. -/
theorem Sd.done (h : Sd w wy ra rc na nc W o da dc s m) {W2 : Wd} {ra2 : Option Addr} {rc2 : Nat} {na2 : Option Addr} {nc2 : Nat} (hW : WdV wy ra2 rc2 na2 nc2 W2) : Cl2 ((wy.setCell ⟨w.heap.size + 1 + 1, 0, none⟩ (.slice ra2 W2.R.length rc2)).setCell ⟨w.heap.size + 1 + 1, 1, none⟩ (.slice na2 W2.net.length nc2)) (w.heap.size + 1 + 1) (.slice ra2 W2.R.length rc2) (.slice na2 W2.net.length nc2) ∧ WdP W2 w (.returned (.agg #[.slice ra2 W2.R.length rc2, .slice na2 W2.net.length nc2])) ((wy.setCell ⟨w.heap.size + 1 + 1, 0, none⟩ (.slice ra2 W2.R.length rc2)).setCell ⟨w.heap.size + 1 + 1, 1, none⟩ (.slice na2 W2.net.length nc2)) :=
  ⟨(h.c.put 0 _).put 1 _, ra2, rc2, na2, nc2, rfl, hW.box h.q (fun g hg => (heap_other hg).trans (heap_other hg)), (h.l.setCell (p := ⟨w.heap.size + 1 + 1, 0, none⟩) (by show w.heap.size ≤ w.heap.size + 1 + 1; omega) _).setCell (p := ⟨w.heap.size + 1 + 1, 1, none⟩) (by show w.heap.size ≤ w.heap.size + 1 + 1; omega) _⟩
end
/-- Sixteen cells of a row, that are a member. -/
structure Ro16 (w : World) (b o : Nat) (s : Ad) (m : Mb) : Prop where
  c0 : w.cell? ⟨b, o, none⟩ = some (.int .i64 m.id)
  c1 : w.cell? ⟨b, o + 1, none⟩ = some (.int .i64 m.n)
  c2 : w.cell? ⟨b, o + 2, none⟩ = some (.int .i64 m.term)
  c3 : w.cell? ⟨b, o + 3, none⟩ = some (.int .i64 m.vote)
  c4 : w.cell? ⟨b, o + 4, none⟩ = some (.int .i64 m.role)
  c5 : w.cell? ⟨b, o + 5, none⟩ = some (.int .i64 m.lead)
  c6 : w.cell? ⟨b, o + 6, none⟩ = some (.int .i64 m.b)
  c7 : w.cell? ⟨b, o + 7, none⟩ = some (.int .i64 m.bt)
  c8 : w.cell? ⟨b, o + 8, none⟩ = some (.slice s.ea m.es.length s.ec)
  c9 : w.cell? ⟨b, o + 9, none⟩ = some (.int .i64 m.commit)
  c10 : w.cell? ⟨b, o + 10, none⟩ = some (.slice s.sa m.snap.length s.sc)
  c11 : w.cell? ⟨b, o + 11, none⟩ = some (.slice s.ga m.granted.length s.gc)
  c12 : w.cell? ⟨b, o + 12, none⟩ = some (.slice s.xa m.next.length s.xc)
  c13 : w.cell? ⟨b, o + 13, none⟩ = some (.slice s.ma m.mtch.length s.mc)
  c14 : w.cell? ⟨b, o + 14, none⟩ = some (.int .i64 m.clock)
  c15 : w.cell? ⟨b, o + 15, none⟩ = some (.int .i64 m.wait)
theorem Ro16.lt {w : World} {b o : Nat} {s : Ad} {m : Mb} (h : Ro16 w b o s m) : b < w.heap.size := World.block_lt_of_cell? w _ h.c0
theorem Ro16.below {w w' : World} {b o : Nat} {s : Ad} {m : Mb} (h : Ro16 w b o s m) (hb : Below w.heap.size w w') : Ro16 w' b o s m := ⟨(cell_kept (hb.block b h.lt) _).trans h.c0, (cell_kept (hb.block b h.lt) _).trans h.c1, (cell_kept (hb.block b h.lt) _).trans h.c2, (cell_kept (hb.block b h.lt) _).trans h.c3, (cell_kept (hb.block b h.lt) _).trans h.c4, (cell_kept (hb.block b h.lt) _).trans h.c5, (cell_kept (hb.block b h.lt) _).trans h.c6, (cell_kept (hb.block b h.lt) _).trans h.c7, (cell_kept (hb.block b h.lt) _).trans h.c8, (cell_kept (hb.block b h.lt) _).trans h.c9, (cell_kept (hb.block b h.lt) _).trans h.c10, (cell_kept (hb.block b h.lt) _).trans h.c11, (cell_kept (hb.block b h.lt) _).trans h.c12, (cell_kept (hb.block b h.lt) _).trans h.c13, (cell_kept (hb.block b h.lt) _).trans h.c14, (cell_kept (hb.block b h.lt) _).trans h.c15⟩
theorem Ro16.of {w : World} {P : Nat → Prop} {a : Option Addr} {c : Nat} {l : List Mb} (h : RwV mbR w P a c l) {i : Nat} (hi : i < l.length) : ∃ b o s, a = some ⟨b, o, none⟩ ∧ MbV w P s (l.getD i zMb) ∧ Ro16 w b (o + i * 16) s (l.getD i zMb) := by
  obtain ⟨b, o, s, q1, q2, g0, g1, g2, g3, g4, g5, g6, g7, g8, g9, g10, g11, g12, g13, g14, g15⟩ := mbAt h hi
  exact ⟨b, o, s, q1, q2, g0, g1, g2, g3, g4, g5, g6, g7, g8, g9, g10, g11, g12, g13, g14, g15⟩
/-- The boxes ahead of the member's. -/
structure Sf (w wy : World) (ra : Option Addr) (rc : Nat) (na : Option Addr) (nc : Nat) (W : Wd) (o : Op) (da : Option Addr) (dc : Nat) : Prop where
  a : Cl2 wy (w.heap.size) (.slice ra W.R.length rc) (.slice na W.net.length nc)
  b : Cl4 wy (w.heap.size + 1) (.int .i64 o.kind) (.int .i64 o.who) (.int .i64 o.n) (.slice da o.data.length dc)
  c : Cl2 wy (w.heap.size + 1 + 1) (.slice none 0 0) (.slice none 0 0)
  q : Sls wy (w.heap.size + 1 + 1)
  l : Below w.heap.size w wy
  z : wy.heap.size = w.heap.size + 1 + 1 + 1
theorem Sf.first (w : World) (ra : Option Addr) (rc : Nat) (na : Option Addr) (nc : Nat) (W : Wd) (o : Op) (da : Option Addr) (dc : Nat) : Sf w (((w.alloc (Obj.cells #[.slice ra W.R.length rc, .slice na W.net.length nc] 43)).alloc (Obj.cells #[.int .i64 o.kind, .int .i64 o.who, .int .i64 o.n, .slice da o.data.length dc] 48)).alloc (Obj.cells #[.slice none 0 0, .slice none 0 0] 43)) ra rc na nc W o da dc := by
  have h1 := Cl2.new w (.slice ra W.R.length rc) (.slice na W.net.length nc) 43
  have h2 := Cl4.new (w.alloc (Obj.cells #[.slice ra W.R.length rc, .slice na W.net.length nc] 43)) (.int .i64 o.kind) (.int .i64 o.who) (.int .i64 o.n) (.slice da o.data.length dc) 48
  have h3 := Cl2.new ((w.alloc (Obj.cells #[.slice ra W.R.length rc, .slice na W.net.length nc] 43)).alloc (Obj.cells #[.int .i64 o.kind, .int .i64 o.who, .int .i64 o.n, .slice da o.data.length dc] 48)) (.slice none 0 0) (.slice none 0 0) 43
  have h5 := Sls.new2 ((w.alloc (Obj.cells #[.slice ra W.R.length rc, .slice na W.net.length nc] 43)).alloc (Obj.cells #[.int .i64 o.kind, .int .i64 o.who, .int .i64 o.n, .slice da o.data.length dc] 48)) none none 0 0 0 0 43
  rw [size_alloc] at h2
  rw [two_size] at h3 h5
  have hs : w.heap.size + 1 < ((w.alloc (Obj.cells #[.slice ra W.R.length rc, .slice na W.net.length nc] 43)).alloc (Obj.cells #[.int .i64 o.kind, .int .i64 o.who, .int .i64 o.n, .slice da o.data.length dc] 48)).heap.size := by rw [two_size]; omega
  exact ⟨(h1.alloc _).alloc _, h2.kept (Below.heap_alloc _ _ _ hs), h3, h5, (below2 w _ _).alloc (by rw [two_size]; omega) _, by rw [size_alloc, two_size]⟩
end
end Go.Proofs.Ytfmfphfckaiejaa
