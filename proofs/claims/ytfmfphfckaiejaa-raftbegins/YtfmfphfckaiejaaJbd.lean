/-
  The law's own set: a world in which a member is another one, and more messages are on their way.
-/
import Derived.Test.YtfmfphfckaiejaaJao
import Derived.Test.YtfmfphfckaiejaaJaa
import Derived.Test.YtfmfphfckaiejaaJag
namespace Go.Proofs.Ytfmfphfckaiejaa
section
open Go.RowKit
set_option linter.unusedVariables false


/-- 2 cells of a block. -/
structure Cl2 (w : World) (b : Nat) (v0 v1 : Value) : Prop where
  c0 : w.cell? ⟨b, 0, none⟩ = some v0
  c1 : w.cell? ⟨b, 1, none⟩ = some v1
  free : ∀ i, w.frozen? ⟨b, i, none⟩ = false
theorem Cl2.new (w : World) (v0 v1 : Value) (t : TypeId) : Cl2 (w.alloc (.cells #[v0, v1] t)) w.heap.size v0 v1 := by
  have k := heap_alloc_new w (.cells #[v0, v1] t)
  refine ⟨?_, ?_, fun i => by simp only [World.frozen?]; rw [k]; simp⟩ <;> (rw [cell_of_row _ _ _ _ t (0, 0) k]; rfl)
theorem Cl2.kept {w w' : World} {b : Nat} {v0 v1 : Value} (h : Cl2 w b v0 v1) (e : w'.heap[b]? = w.heap[b]?) : Cl2 w' b v0 v1 := ⟨(cell_kept e _).trans h.c0, (cell_kept e _).trans h.c1, fun i => (frozen_kept e _).trans (h.free i)⟩
theorem Cl2.lt {w : World} {b : Nat} {v0 v1 : Value} (h : Cl2 w b v0 v1) : b < w.heap.size := World.block_lt_of_cell? w _ h.c0
theorem Cl2.below {w w' : World} {b : Nat} {v0 v1 : Value} (h : Cl2 w b v0 v1) (hf : Below w.heap.size w w') : Cl2 w' b v0 v1 := h.kept (hf.block b h.lt)
theorem Cl2.alloc {w : World} {b : Nat} {v0 v1 : Value} (h : Cl2 w b v0 v1) (o : Obj) : Cl2 (w.alloc o) b v0 v1 := h.below ((Below.refl _ _).alloc (Nat.le_refl _) o)
theorem Cl2.put {w : World} {b : Nat} {v0 v1 : Value} (h : Cl2 w b v0 v1) (j : Nat) (x : Value) : Cl2 (w.setCell ⟨b, j, none⟩ x) b (if j = 0 then x else v0) (if j = 1 then x else v1) :=
  ⟨cell_set h.c0, cell_set h.c1, fun i => by simp only [World.frozen?_setCell]; exact h.free i⟩
theorem Cl16.alloc {w : World} {b : Nat} {v0 v1 v2 v3 v4 v5 v6 v7 v8 v9 v10 v11 v12 v13 v14 v15 : Value} (h : Cl16 w b v0 v1 v2 v3 v4 v5 v6 v7 v8 v9 v10 v11 v12 v13 v14 v15) (o : Obj) : Cl16 (w.alloc o) b v0 v1 v2 v3 v4 v5 v6 v7 v8 v9 v10 v11 v12 v13 v14 v15 := h.below ((Below.refl _ _).alloc (Nat.le_refl _) o)
/-- A world in memory. -/
structure WdV (w : World) (ra : Option Addr) (rc : Nat) (na : Option Addr) (nc : Nat) (W : Wd) : Prop where
  r : RwV mbR w (fun _ => True) ra rc W.R
  x : RwV msR w (fun _ => True) na nc W.net
theorem WdV.below {w w' : World} {ra : Option Addr} {rc : Nat} {na : Option Addr} {nc : Nat} {W : Wd} (h : WdV w ra rc na nc W) (hb : Below w.heap.size w w') : WdV w' ra rc na nc W := ⟨h.r.below hb, h.x.below hb⟩
def WdP (W : Wd) (w : World) (e : Ending) (w' : World) : Prop := ∃ ra rc na nc, e = .returned (.agg #[.slice ra W.R.length rc, .slice na W.net.length nc]) ∧ WdV w' ra rc na nc W ∧ Below w.heap.size w w'
section
variable {α : Type} {r : Rdr α} {w : World} {t : TypeId} {B : Nat} {S : Nat → Prop} {ts : List α} {G c n : Nat}
theorem Gr.cells (h : Gr r t w B S (.slice (some ⟨G, 0, none⟩) n c) ts) : B ≤ G ∧ G < w.heap.size ∧ (∀ i, w.frozen? ⟨G, i, none⟩ = false) ∧ ∀ j, j < ts.length * r.k → (w.cell? ⟨G, j, none⟩).isSome := by
  obtain ⟨xs, h1, h2⟩ := h
  have hl := World.ownsRow.lt h1 G rfl
  refine ⟨hl.1, hl.2, fun i => ?_, fun j hj => ?_⟩
  · rcases h1.2 with ⟨e, _⟩ | ⟨g, cap, cur, hv, hg, hh, rest⟩
    · cases e
    · cases hv
      simp only [World.frozen?]; rw [hh]; simp
  · have hn : n = ts.length := by
      rcases id h1.2 with ⟨e, _⟩ | ⟨g, cap, cur, hv, hg, hh, rest⟩
      · cases e
      · cases hv; rfl
    subst hn
    rcases id h1.2 with ⟨e, _⟩ | ⟨g, cap, cur, hv, hg, hh, rest⟩
    · cases e
    · cases hv
      have q := World.ownsRow.cellAt h1 j hj
      rw [q]
      have : j < xs.length := by rw [h1.1]; exact hj
      rw [List.getElem?_eq_getElem this]; rfl
end
end
section
open Go.RowKit
set_option linter.unusedVariables false


theorem b4 (w : World) (p q r t : Obj) : Below w.heap.size w ((((w.alloc p).alloc q).alloc r).alloc t) := ((below2 w p q).alloc (by rw [two_size]; omega) r).alloc (by rw [size_alloc, two_size]; omega) t
theorem four_size (w : World) (p q r t : Obj) : ((((w.alloc p).alloc q).alloc r).alloc t).heap.size = w.heap.size + 1 + 1 + 1 + 1 := by rw [size_alloc, size_alloc, two_size]
/-- What stands in the boxes. -/
structure Sx (w wy : World) (W : Wd) (ra : Option Addr) (rc : Nat) (na : Option Addr) (nc : Nat) (s : Ad) (m : Mb) (v0 v1 : Value) : Prop where
  a : Cl2 wy (w.heap.size) (.slice ra W.R.length rc) (.slice na W.net.length nc)
  b : Cl16 wy (w.heap.size + 1) (.int .i64 m.id) (.int .i64 m.n) (.int .i64 m.term) (.int .i64 m.vote) (.int .i64 m.role) (.int .i64 m.lead) (.int .i64 m.b) (.int .i64 m.bt) (.slice s.ea m.es.length s.ec) (.int .i64 m.commit) (.slice s.sa m.snap.length s.sc) (.slice s.ga m.granted.length s.gc) (.slice s.xa m.next.length s.xc) (.slice s.ma m.mtch.length s.mc) (.int .i64 m.clock) (.int .i64 m.wait)
  c : Cl2 wy (w.heap.size + 1 + 1) (.slice none 0 0) (.slice none 0 0)
  d : Cl2 wy (w.heap.size + 1 + 1 + 1) v0 v1
  l : Below w.heap.size w wy
  z : w.heap.size + 1 + 1 + 1 + 1 ≤ wy.heap.size
section
variable {w wy wz : World} {W : Wd} {ra : Option Addr} {rc : Nat} {na : Option Addr} {nc : Nat} {s : Ad} {m : Mb} {v0 v1 : Value}
theorem Sx.first (w : World) (W : Wd) (ra : Option Addr) (rc : Nat) (na : Option Addr) (nc : Nat) (s : Ad) (m : Mb) : Sx w ((((w.alloc (Obj.cells #[.slice ra W.R.length rc, .slice na W.net.length nc] 43)).alloc (Obj.cells #[.int .i64 m.id, .int .i64 m.n, .int .i64 m.term, .int .i64 m.vote, .int .i64 m.role, .int .i64 m.lead, .int .i64 m.b, .int .i64 m.bt, .slice s.ea m.es.length s.ec, .int .i64 m.commit, .slice s.sa m.snap.length s.sc, .slice s.ga m.granted.length s.gc, .slice s.xa m.next.length s.xc, .slice s.ma m.mtch.length s.mc, .int .i64 m.clock, .int .i64 m.wait] 31)).alloc (Obj.cells #[.slice none 0 0, .slice none 0 0] 43)).alloc (Obj.cells #[.slice none 0 0, .slice none 0 0] 43)) W ra rc na nc s m (.slice none 0 0) (.slice none 0 0) := by
  have h1 := Cl2.new w (.slice ra W.R.length rc) (.slice na W.net.length nc) 43
  have h2 := Cl16.new (w.alloc (Obj.cells #[.slice ra W.R.length rc, .slice na W.net.length nc] 43)) (.int .i64 m.id) (.int .i64 m.n) (.int .i64 m.term) (.int .i64 m.vote) (.int .i64 m.role) (.int .i64 m.lead) (.int .i64 m.b) (.int .i64 m.bt) (.slice s.ea m.es.length s.ec) (.int .i64 m.commit) (.slice s.sa m.snap.length s.sc) (.slice s.ga m.granted.length s.gc) (.slice s.xa m.next.length s.xc) (.slice s.ma m.mtch.length s.mc) (.int .i64 m.clock) (.int .i64 m.wait) 31
  have h3 := Cl2.new ((w.alloc (Obj.cells #[.slice ra W.R.length rc, .slice na W.net.length nc] 43)).alloc (Obj.cells #[.int .i64 m.id, .int .i64 m.n, .int .i64 m.term, .int .i64 m.vote, .int .i64 m.role, .int .i64 m.lead, .int .i64 m.b, .int .i64 m.bt, .slice s.ea m.es.length s.ec, .int .i64 m.commit, .slice s.sa m.snap.length s.sc, .slice s.ga m.granted.length s.gc, .slice s.xa m.next.length s.xc, .slice s.ma m.mtch.length s.mc, .int .i64 m.clock, .int .i64 m.wait] 31)) (.slice none 0 0) (.slice none 0 0) 43
  have h4 := Cl2.new (((w.alloc (Obj.cells #[.slice ra W.R.length rc, .slice na W.net.length nc] 43)).alloc (Obj.cells #[.int .i64 m.id, .int .i64 m.n, .int .i64 m.term, .int .i64 m.vote, .int .i64 m.role, .int .i64 m.lead, .int .i64 m.b, .int .i64 m.bt, .slice s.ea m.es.length s.ec, .int .i64 m.commit, .slice s.sa m.snap.length s.sc, .slice s.ga m.granted.length s.gc, .slice s.xa m.next.length s.xc, .slice s.ma m.mtch.length s.mc, .int .i64 m.clock, .int .i64 m.wait] 31)).alloc (Obj.cells #[.slice none 0 0, .slice none 0 0] 43)) (.slice none 0 0) (.slice none 0 0) 43
  rw [size_alloc] at h2
  rw [two_size] at h3
  rw [size_alloc, two_size] at h4
  exact ⟨((h1.alloc _).alloc _).alloc _, (h2.alloc _).alloc _, h3.alloc _, h4, b4 w _ _ _ _, by rw [four_size]; exact Nat.le_refl _⟩
theorem Sx.kept (h : Sx w wy W ra rc na nc s m v0 v1) (hb : Below (w.heap.size + 1 + 1 + 1 + 1) wy wz) : Sx w wz W ra rc na nc s m v0 v1 := by
  have hz := h.z
  exact ⟨h.a.kept (hb.block _ (by omega)), h.b.kept (hb.block _ (by omega)), h.c.kept (hb.block _ (by omega)), h.d.kept (hb.block _ (by omega)), h.l.trans (hb.mono (by omega)), Nat.le_trans hz hb.size⟩
end
section
variable {w w5 : World} {W : Wd} {ra : Option Addr} {rc : Nat} {na : Option Addr} {nc : Nat} {s : Ad} {m : Mb}
end
section
variable {w w5 w7 w9 : World} {W : Wd} {ra : Option Addr} {rc : Nat} {na : Option Addr} {nc : Nat} {s : Ad} {m : Mb}
end
end
section
open Go.RowKit
set_option linter.unusedVariables false
set_option linter.unusedSimpArgs false


theorem five_size (w : World) (p q r t u : Obj) : (((((w.alloc p).alloc q).alloc r).alloc t).alloc u).heap.size = w.heap.size + 1 + 1 + 1 + 1 + 1 := by rw [size_alloc, four_size]
theorem b5 (w : World) (p q r t u : Obj) : Below w.heap.size w (((((w.alloc p).alloc q).alloc r).alloc t).alloc u) := (b4 w p q r t).alloc (by rw [four_size]; omega) u
/-- What stands in the boxes. -/
structure Sv (w wy : World) (W : Wd) (ra : Option Addr) (rc : Nat) (na : Option Addr) (nc : Nat) (ax : Ax) (x : Ms) (v1 : Value) : Prop where
  a : Cl2 wy (w.heap.size) (.slice ra W.R.length rc) (.slice na W.net.length nc)
  b : Cl2 wy (w.heap.size + 1) (.slice none 0 0) (.slice none 0 0)
  c : Cl11 wy (w.heap.size + 1 + 1) (.int .i64 0) (.int .i64 0) (.int .i64 0) (.int .i64 0) (.int .i64 0) (.int .i64 0) (.int .i64 0) (.int .i64 0) (.bool false) (.slice none 0 0) (.slice none 0 0)
  d : Cl11 wy (w.heap.size + 1 + 1 + 1) (.int .i64 x.kind) (.int .i64 x.grp) (.int .i64 x.frm) (.int .i64 x.to) (.int .i64 x.term) (.int .i64 x.at_) (.int .i64 x.att) (.int .i64 x.commit) (.bool x.ok) (.slice ax.ea x.ents.length ax.ec) (.slice ax.da x.data.length ax.dc)
  e : Cl2 wy (w.heap.size + 1 + 1 + 1 + 1) (.slice ra W.R.length rc) v1
  l : Below w.heap.size w wy
  z : (w.heap.size + 1 + 1 + 1 + 1 + 1) ≤ wy.heap.size
section
variable {w wy wz : World} {W : Wd} {ra : Option Addr} {rc : Nat} {na : Option Addr} {nc : Nat} {ax : Ax} {x : Ms} {v1 v2 : Value}
theorem Cl11.alloc {w : World} {b : Nat} {v0 v1 v2 v3 v4 v5 v6 v7 v8 v9 v10 : Value} (h : Cl11 w b v0 v1 v2 v3 v4 v5 v6 v7 v8 v9 v10) (o : Obj) : Cl11 (w.alloc o) b v0 v1 v2 v3 v4 v5 v6 v7 v8 v9 v10 := h.below ((Below.refl _ _).alloc (Nat.le_refl _) o)
theorem Sv.first (w : World) (W : Wd) (ra : Option Addr) (rc : Nat) (na : Option Addr) (nc : Nat) (ax : Ax) (x : Ms) : Sv w (((((w.alloc (Obj.cells #[.slice ra W.R.length rc, .slice na W.net.length nc] 43)).alloc (Obj.cells #[.slice none 0 0, .slice none 0 0] 43)).alloc (Obj.cells #[.int .i64 0, .int .i64 0, .int .i64 0, .int .i64 0, .int .i64 0, .int .i64 0, .int .i64 0, .int .i64 0, .bool false, .slice none 0 0, .slice none 0 0] 79)).alloc (Obj.cells #[.int .i64 x.kind, .int .i64 x.grp, .int .i64 x.frm, .int .i64 x.to, .int .i64 x.term, .int .i64 x.at_, .int .i64 x.att, .int .i64 x.commit, .bool x.ok, .slice ax.ea x.ents.length ax.ec, .slice ax.da x.data.length ax.dc] 79)).alloc (Obj.cells #[.slice ra W.R.length rc, .slice none 0 0] 43)) W ra rc na nc ax x (.slice none 0 0) := by
  have h1 := Cl2.new w (.slice ra W.R.length rc) (.slice na W.net.length nc) 43
  have h2 := Cl2.new (w.alloc (Obj.cells #[.slice ra W.R.length rc, .slice na W.net.length nc] 43)) (.slice none 0 0) (.slice none 0 0) 43
  have h3 := Cl11.new ((w.alloc (Obj.cells #[.slice ra W.R.length rc, .slice na W.net.length nc] 43)).alloc (Obj.cells #[.slice none 0 0, .slice none 0 0] 43)) (.int .i64 0) (.int .i64 0) (.int .i64 0) (.int .i64 0) (.int .i64 0) (.int .i64 0) (.int .i64 0) (.int .i64 0) (.bool false) (.slice none 0 0) (.slice none 0 0) 79
  have h4 := Cl11.new (((w.alloc (Obj.cells #[.slice ra W.R.length rc, .slice na W.net.length nc] 43)).alloc (Obj.cells #[.slice none 0 0, .slice none 0 0] 43)).alloc (Obj.cells #[.int .i64 0, .int .i64 0, .int .i64 0, .int .i64 0, .int .i64 0, .int .i64 0, .int .i64 0, .int .i64 0, .bool false, .slice none 0 0, .slice none 0 0] 79)) (.int .i64 x.kind) (.int .i64 x.grp) (.int .i64 x.frm) (.int .i64 x.to) (.int .i64 x.term) (.int .i64 x.at_) (.int .i64 x.att) (.int .i64 x.commit) (.bool x.ok) (.slice ax.ea x.ents.length ax.ec) (.slice ax.da x.data.length ax.dc) 79
  have h5 := Cl2.new ((((w.alloc (Obj.cells #[.slice ra W.R.length rc, .slice na W.net.length nc] 43)).alloc (Obj.cells #[.slice none 0 0, .slice none 0 0] 43)).alloc (Obj.cells #[.int .i64 0, .int .i64 0, .int .i64 0, .int .i64 0, .int .i64 0, .int .i64 0, .int .i64 0, .int .i64 0, .bool false, .slice none 0 0, .slice none 0 0] 79)).alloc (Obj.cells #[.int .i64 x.kind, .int .i64 x.grp, .int .i64 x.frm, .int .i64 x.to, .int .i64 x.term, .int .i64 x.at_, .int .i64 x.att, .int .i64 x.commit, .bool x.ok, .slice ax.ea x.ents.length ax.ec, .slice ax.da x.data.length ax.dc] 79)) (.slice ra W.R.length rc) (.slice none 0 0) 43
  rw [size_alloc] at h2
  rw [two_size] at h3
  rw [size_alloc, two_size] at h4
  rw [four_size] at h5
  exact ⟨(((h1.alloc _).alloc _).alloc _).alloc _, ((h2.alloc _).alloc _).alloc _, (h3.alloc _).alloc _, h4.alloc _, h5, b5 w _ _ _ _ _, by rw [five_size]; exact Nat.le_refl _⟩
theorem Sv.kept (h : Sv w wy W ra rc na nc ax x v1) (hb : Below (w.heap.size + 1 + 1 + 1 + 1 + 1) wy wz) : Sv w wz W ra rc na nc ax x v1 := by
  have hz := h.z
  exact ⟨h.a.kept (hb.block _ (by omega)), h.b.kept (hb.block _ (by omega)), h.c.kept (hb.block _ (by omega)), h.d.kept (hb.block _ (by omega)), h.e.kept (hb.block _ (by omega)), h.l.trans (hb.mono (by omega)), Nat.le_trans hz hb.size⟩
theorem Sv.put (h : Sv w wy W ra rc na nc ax x v1) (v : Value) : Sv w (wy.setCell ⟨w.heap.size + 1 + 1 + 1 + 1, 1, none⟩ v) W ra rc na nc ax x v :=
  ⟨h.a.kept (heap_other (by omega)), h.b.kept (heap_other (by omega)), h.c.kept (heap_other (by omega)), h.d.kept (heap_other (by omega)), h.e.put 1 v, h.l.setCell (p := ⟨w.heap.size + 1 + 1 + 1 + 1, 1, none⟩) (by show w.heap.size ≤ w.heap.size + 1 + 1 + 1 + 1; omega) _, by rw [size_set]; exact h.z⟩
/-- So far: what grew, in the box, and behind an append. -/
structure Tg (w wy : World) (W : Wd) (ra : Option Addr) (rc : Nat) (na : Option Addr) (nc : Nat) (ax : Ax) (x : Ms) (a : Option Addr) (c : Nat) (ts : List Ms) : Prop where
  s : Sv w wy W ra rc na nc ax x (.slice a ts.length c)
  g : Gr msR 79 wy (w.heap.size + 1 + 1 + 1 + 1 + 1) (fun g => g < w.heap.size ∨ (w.heap.size + 1 + 1 + 1 + 1 + 1) ≤ g) (.slice a ts.length c) ts
theorem Tg.step {wX w3 : World} {a a2 : Option Addr} {c c2 : Nat} {ts ts2 : List Ms} (h : Tg w wX W ra rc na nc ax x a c ts) (hG : Gr msR 79 w3 (w.heap.size + 1 + 1 + 1 + 1 + 1) (fun g => g < w.heap.size ∨ (w.heap.size + 1 + 1 + 1 + 1 + 1) ≤ g) (.slice a2 ts2.length c2) ts2) (hg : wX.grownBy w3 (Value.ownBlock (.slice a ts.length c))) : Sv w w3 W ra rc na nc ax x (.slice a ts.length c) ∧ Tg w (w3.setCell ⟨w.heap.size + 1 + 1 + 1 + 1, 1, none⟩ (.slice a2 ts2.length c2)) W ra rc na nc ax x a2 c2 ts2 := by
  have hk := h.s.kept ((Below.refl _ _).grown hg h.s.z fun j hj => (h.g.own j hj).1)
  refine ⟨hk, hk.put _, hG.kept (fun g q => heap_other (by have := (hG.own g q).1; omega)) fun g q _ _ => ?_⟩
  have q : g < w.heap.size ∨ (w.heap.size + 1 + 1 + 1 + 1 + 1) ≤ g := q
  exact ⟨heap_other (by omega), q⟩
theorem Tg.below {wX w3 : World} {a : Option Addr} {c : Nat} {ts : List Ms} (h : Tg w wX W ra rc na nc ax x a c ts) (hb : Below wX.heap.size wX w3) : Tg w w3 W ra rc na nc ax x a c ts := ⟨h.s.kept (hb.mono h.s.z), h.g.below hb⟩
theorem Tg.first : Tg w (((((w.alloc (Obj.cells #[.slice ra W.R.length rc, .slice na W.net.length nc] 43)).alloc (Obj.cells #[.slice none 0 0, .slice none 0 0] 43)).alloc (Obj.cells #[.int .i64 0, .int .i64 0, .int .i64 0, .int .i64 0, .int .i64 0, .int .i64 0, .int .i64 0, .int .i64 0, .bool false, .slice none 0 0, .slice none 0 0] 79)).alloc (Obj.cells #[.int .i64 x.kind, .int .i64 x.grp, .int .i64 x.frm, .int .i64 x.to, .int .i64 x.term, .int .i64 x.at_, .int .i64 x.att, .int .i64 x.commit, .bool x.ok, .slice ax.ea x.ents.length ax.ec, .slice ax.da x.data.length ax.dc] 79)).alloc (Obj.cells #[.slice ra W.R.length rc, .slice none 0 0] 43)) W ra rc na nc ax x none 0 [] := ⟨Sv.first w W ra rc na nc ax x, Gr.nil _ _ _ _ _⟩
theorem Tg.off {wX : World} {a : Option Addr} {c : Nat} {ts : List Ms} (h : Tg w wX W ra rc na nc ax x a c ts) : ∀ g, g < w.heap.size → g < wX.heap.size → (g < w.heap.size ∨ (w.heap.size + 1 + 1 + 1 + 1 + 1) ≤ g) ∧ Value.ownBlock (.slice a ts.length c) ≠ some g := fun g hg _ => ⟨.inl hg, fun e => by have := (h.g.own g e).1; omega⟩
end
/-- One member, in memory. -/
theorem mbAt {w : World} {P : Nat → Prop} {a : Option Addr} {c : Nat} {l : List Mb} (h : RwV mbR w P a c l) {i : Nat} (hi : i < l.length) : ∃ b o s, a = some ⟨b, o, none⟩ ∧ MbV w P s (l.getD i zMb) ∧ w.cell? ⟨b, o + i * 16, none⟩ = some (.int .i64 (l.getD i zMb).id) ∧ w.cell? ⟨b, o + i * 16 + 1, none⟩ = some (.int .i64 (l.getD i zMb).n) ∧ w.cell? ⟨b, o + i * 16 + 2, none⟩ = some (.int .i64 (l.getD i zMb).term) ∧ w.cell? ⟨b, o + i * 16 + 3, none⟩ = some (.int .i64 (l.getD i zMb).vote) ∧ w.cell? ⟨b, o + i * 16 + 4, none⟩ = some (.int .i64 (l.getD i zMb).role) ∧ w.cell? ⟨b, o + i * 16 + 5, none⟩ = some (.int .i64 (l.getD i zMb).lead) ∧ w.cell? ⟨b, o + i * 16 + 6, none⟩ = some (.int .i64 (l.getD i zMb).b) ∧ w.cell? ⟨b, o + i * 16 + 7, none⟩ = some (.int .i64 (l.getD i zMb).bt) ∧ w.cell? ⟨b, o + i * 16 + 8, none⟩ = some (.slice s.ea (l.getD i zMb).es.length s.ec) ∧ w.cell? ⟨b, o + i * 16 + 9, none⟩ = some (.int .i64 (l.getD i zMb).commit) ∧ w.cell? ⟨b, o + i * 16 + 10, none⟩ = some (.slice s.sa (l.getD i zMb).snap.length s.sc) ∧ w.cell? ⟨b, o + i * 16 + 11, none⟩ = some (.slice s.ga (l.getD i zMb).granted.length s.gc) ∧ w.cell? ⟨b, o + i * 16 + 12, none⟩ = some (.slice s.xa (l.getD i zMb).next.length s.xc) ∧ w.cell? ⟨b, o + i * 16 + 13, none⟩ = some (.slice s.ma (l.getD i zMb).mtch.length s.mc) ∧ w.cell? ⟨b, o + i * 16 + 14, none⟩ = some (.int .i64 (l.getD i zMb).clock) ∧ w.cell? ⟨b, o + i * 16 + 15, none⟩ = some (.int .i64 (l.getD i zMb).wait) := by
  obtain ⟨b, o, us, ⟨q1, _⟩, q2, s, q3, q4⟩ := h.2.2.2 i hi
  have e : ∀ j, j < 16 → w.cell? ⟨b, o + i * 16 + j, none⟩ = us[j]? := q2
  rw [q3] at e
  exact ⟨b, o, s, q1, q4, e 0 (by decide), e 1 (by decide), e 2 (by decide), e 3 (by decide), e 4 (by decide), e 5 (by decide), e 6 (by decide), e 7 (by decide), e 8 (by decide), e 9 (by decide), e 10 (by decide), e 11 (by decide), e 12 (by decide), e 13 (by decide), e 14 (by decide), e 15 (by decide)⟩
end
end Go.Proofs.Ytfmfphfckaiejaa
