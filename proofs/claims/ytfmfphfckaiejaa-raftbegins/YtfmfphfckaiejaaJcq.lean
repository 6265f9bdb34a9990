/-
  The program's take: its contract.
-/
import Derived.Test.YtfmfphfckaiejaaJat
import Derived.Test.YtfmfphfckaiejaaJba
import Derived.Test.YtfmfphfckaiejaaJar
import Derived.Test.YtfmfphfckaiejaaJag
import Derived.BigRegion
import Derived.Test.YtfmfphfckaiejaaJau
import Derived.Test.YtfmfphfckaiejaaJav
import Derived.Test.YtfmfphfckaiejaaJcr
import Derived.Test.YtfmfphfckaiejaaJbp
namespace Go.Proofs.Ytfmfphfckaiejaa
section
open Go.RowKit
set_option linter.unusedVariables false


theorem TkO.of {w w1 w' : World} {B M : Nat} {v : Value} {ts : List Ms} {r : Mb × List Ms} (h : Dn B M v v w w1) (h2 : TkO w1 B M v ts r w') : TkO w B M v ts r w' := by
  obtain ⟨s', v', q1, q2⟩ := h2
  exact ⟨s', v', q1, h.trans q2⟩
end
section
open Go.RowKit
set_option linter.unusedVariables false
set_option linter.unusedSimpArgs false


/-- The result's box, ahead of its writing; the member at work lies in M. -/
structure RdyQ (w wx : World) (Q M : Nat) (s : Ad) (m : Mb) (a : Option Addr) (n c : Nat) (ts : List Ms) : Prop where
  k : Wk wx (Q + 1) M s m (.slice a n c) ts
  q : Cl16 wx Q (.int .i64 0) (.int .i64 0) (.int .i64 0) (.int .i64 0) (.int .i64 0) (.int .i64 0) (.int .i64 0) (.int .i64 0) (.slice none 0 0) (.int .i64 0) (.slice none 0 0) (.slice none 0 0) (.slice none 0 0) (.slice none 0 0) (.int .i64 0) (.int .i64 0)
  b : Below w.heap.size w wx
  l : w.heap.size ≤ Q
theorem RdyQ.of {w W wx : World} {Q M : Nat} {s : Ad} {m : Mb} {v0 : Value} {a : Option Addr} {n c : Nat} {ts : List Ms} (hb : Below w.heap.size w W) (hq : Cl16 W Q (.int .i64 0) (.int .i64 0) (.int .i64 0) (.int .i64 0) (.int .i64 0) (.int .i64 0) (.int .i64 0) (.int .i64 0) (.slice none 0 0) (.int .i64 0) (.slice none 0 0) (.slice none 0 0) (.slice none 0 0) (.slice none 0 0) (.int .i64 0) (.int .i64 0)) (hl : w.heap.size ≤ Q) (h : Wk wx (Q + 1) M s m (.slice a n c) ts) (hd : Below (Q + 1) W wx) : RdyQ w wx Q M s m a n c ts := ⟨h, hq.kept (hd.block _ (Nat.lt_succ_self _)), hb.trans (hd.mono (by omega)), hl⟩
theorem RdyQ.fin {w wx X : World} {Q M : Nat} {s : Ad} {m : Mb} {a : Option Addr} {n c : Nat} {ts : List Ms} {v0 v1 v2 v3 v4 v5 v6 v7 v8 v9 v10 v11 v12 v13 v14 v15 : Value} (h : RdyQ w wx Q M s m a n c ts) (hX : Cl16 X Q v0 v1 v2 v3 v4 v5 v6 v7 v8 v9 v10 v11 v12 v13 v14 v15) (ho : ∀ g, g ≠ Q → X.heap[g]? = wx.heap[g]?) (hb : Below w.heap.size w X) : Cl16 X.drew Q v0 v1 v2 v3 v4 v5 v6 v7 v8 v9 v10 v11 v12 v13 v14 v15 ∧ TkP (m, ts) w (.returned (.tuple #[mbA s m, .slice a n c])) X.drew := by
  refine ⟨hX.below (Below.refl _ _).drew, ?_⟩
  obtain ⟨e, q1, q2⟩ := h.k.done (wz := X.drew) (Q := Q) rfl (Nat.lt_succ_self _) ho
  subst e
  exact ⟨s, a, c, rfl, q1, q2, hb.drew⟩
/-- What stands of the boxes of Receive in a later world. -/
structure Rb (w wy : World) (s : Ad) (m : Mb) (ax : Ax) (x : Ms) : Prop where
  r : Rc wy w.heap.size s m
  x : Xc wy (w.heap.size + 1) ax x
  q : Cl16 wy (w.heap.size + 1 + 1) (.int .i64 0) (.int .i64 0) (.int .i64 0) (.int .i64 0) (.int .i64 0) (.int .i64 0) (.int .i64 0) (.int .i64 0) (.slice none 0 0) (.int .i64 0) (.slice none 0 0) (.slice none 0 0) (.slice none 0 0) (.slice none 0 0) (.int .i64 0) (.int .i64 0)
  b : Below w.heap.size w wy
theorem Rb.first (w : World) (s : Ad) (m : Mb) (ax : Ax) (x : Ms) : Rb w (((w.alloc (Obj.cells #[.int .i64 m.id, .int .i64 m.n, .int .i64 m.term, .int .i64 m.vote, .int .i64 m.role, .int .i64 m.lead, .int .i64 m.b, .int .i64 m.bt, .slice s.ea m.es.length s.ec, .int .i64 m.commit, .slice s.sa m.snap.length s.sc, .slice s.ga m.granted.length s.gc, .slice s.xa m.next.length s.xc, .slice s.ma m.mtch.length s.mc, .int .i64 m.clock, .int .i64 m.wait] 31)).alloc (Obj.cells #[.int .i64 x.kind, .int .i64 x.grp, .int .i64 x.frm, .int .i64 x.to, .int .i64 x.term, .int .i64 x.at_, .int .i64 x.att, .int .i64 x.commit, .bool x.ok, .slice ax.ea x.ents.length ax.ec, .slice ax.da x.data.length ax.dc] 79)).alloc (Obj.cells #[.int .i64 0, .int .i64 0, .int .i64 0, .int .i64 0, .int .i64 0, .int .i64 0, .int .i64 0, .int .i64 0, .slice none 0 0, .int .i64 0, .slice none 0 0, .slice none 0 0, .slice none 0 0, .slice none 0 0, .int .i64 0, .int .i64 0] 31)) s m ax x := by
  have k1 := Cl16.new w (.int .i64 m.id) (.int .i64 m.n) (.int .i64 m.term) (.int .i64 m.vote) (.int .i64 m.role) (.int .i64 m.lead) (.int .i64 m.b) (.int .i64 m.bt) (.slice s.ea m.es.length s.ec) (.int .i64 m.commit) (.slice s.sa m.snap.length s.sc) (.slice s.ga m.granted.length s.gc) (.slice s.xa m.next.length s.xc) (.slice s.ma m.mtch.length s.mc) (.int .i64 m.clock) (.int .i64 m.wait) 31
  have k2 := Cl11.new (w.alloc (Obj.cells #[.int .i64 m.id, .int .i64 m.n, .int .i64 m.term, .int .i64 m.vote, .int .i64 m.role, .int .i64 m.lead, .int .i64 m.b, .int .i64 m.bt, .slice s.ea m.es.length s.ec, .int .i64 m.commit, .slice s.sa m.snap.length s.sc, .slice s.ga m.granted.length s.gc, .slice s.xa m.next.length s.xc, .slice s.ma m.mtch.length s.mc, .int .i64 m.clock, .int .i64 m.wait] 31)) (.int .i64 x.kind) (.int .i64 x.grp) (.int .i64 x.frm) (.int .i64 x.to) (.int .i64 x.term) (.int .i64 x.at_) (.int .i64 x.att) (.int .i64 x.commit) (.bool x.ok) (.slice ax.ea x.ents.length ax.ec) (.slice ax.da x.data.length ax.dc) 79
  have k3 := Cl16.new ((w.alloc (Obj.cells #[.int .i64 m.id, .int .i64 m.n, .int .i64 m.term, .int .i64 m.vote, .int .i64 m.role, .int .i64 m.lead, .int .i64 m.b, .int .i64 m.bt, .slice s.ea m.es.length s.ec, .int .i64 m.commit, .slice s.sa m.snap.length s.sc, .slice s.ga m.granted.length s.gc, .slice s.xa m.next.length s.xc, .slice s.ma m.mtch.length s.mc, .int .i64 m.clock, .int .i64 m.wait] 31)).alloc (Obj.cells #[.int .i64 x.kind, .int .i64 x.grp, .int .i64 x.frm, .int .i64 x.to, .int .i64 x.term, .int .i64 x.at_, .int .i64 x.att, .int .i64 x.commit, .bool x.ok, .slice ax.ea x.ents.length ax.ec, .slice ax.da x.data.length ax.dc] 79)) (.int .i64 0) (.int .i64 0) (.int .i64 0) (.int .i64 0) (.int .i64 0) (.int .i64 0) (.int .i64 0) (.int .i64 0) (.slice none 0 0) (.int .i64 0) (.slice none 0 0) (.slice none 0 0) (.slice none 0 0) (.slice none 0 0) (.int .i64 0) (.int .i64 0) 31
  rw [size_alloc] at k2
  rw [two_size] at k3
  exact ⟨k1.below (below2 _ _ _), k2.below ((Below.refl _ _).alloc (Nat.le_refl _) _), k3, (below2 _ _ _).alloc (Nat.le_trans (le_alloc _ _) (le_alloc _ _)) _⟩
theorem Rb.kept {w wy wz : World} {s : Ad} {m : Mb} {ax : Ax} {x : Ms} (h : Rb w wy s m ax x) (hb : Below (w.heap.size + 1 + 1 + 1) wy wz) : Rb w wz s m ax x := ⟨h.r.kept (hb.block _ (by omega)), h.x.kept (hb.block _ (by omega)), h.q.kept (hb.block _ (by omega)), h.b.trans (hb.mono (by omega))⟩
end
section
open Go.RowKit
set_option linter.unusedVariables false
set_option linter.unusedSimpArgs false


set_option maxRecDepth 100000 in
set_option maxHeartbeats 2000000 in
theorem begin_k0 {n : Nat} (hn : n ≤ 7) : WdK 0 (beginW n) := by
  refine ⟨fun k hk => ?_, fun x hx => (by cases hx), Nat.zero_le _⟩
  have hl : (beginW n).R.length = n := by show ((List.range n).map _).length = n; simp
  have e : (beginW n).R.getD k zMb = { zMb with id := (k : Int) + 1, n := n, wait := 10 + ((k : Int) + 1) } := by
    show ((List.range n).map fun (k : Nat) => (newM ((k : Int) + 1) n).1).getD k zMb = _
    rw [List.getD_eq_getElem?_getD, List.getElem?_map, List.getElem?_range (by omega)]
    show (newM ((k : Int) + 1) n).1 = _
    unfold newM
    rw [if_pos ⟨by omega, by omega, by omega⟩]
  rw [e]
  have z : (0 : Int) ≤ 0 := by decide
  have z7 : (0 : Int) ≤ 7 := by decide
  exact ⟨by show (1 : Int) ≤ (k : Int) + 1; omega, by show (k : Int) + 1 ≤ n; omega, by show (n : Int) ≤ 7; omega, Int.le_refl _, z, Int.le_refl _, z7, Int.le_refl _, by show (0 : Int) ≤ 3; decide, Int.le_refl _, z7, Int.le_refl _, by show (0 : Int) + ((0 : Nat) : Int) ≤ 0; decide, Int.le_refl _, z, fun x hx => (by cases hx), Int.le_refl _, z, Nat.zero_le _, fun q => (by rcases q with q | q <;> cases q), Nat.zero_le _, fun q => (by cases q), Nat.zero_le _, Nat.zero_le _, fun i hi => absurd hi (Nat.not_lt_zero _), fun i hi => absurd hi (Nat.not_lt_zero _), Int.le_refl _, z, by show (0 : Int) ≤ 10 + ((k : Int) + 1); omega, by show (10 : Int) + ((k : Int) + 1) ≤ 20; omega⟩
end
end Go.Proofs.Ytfmfphfckaiejaa
