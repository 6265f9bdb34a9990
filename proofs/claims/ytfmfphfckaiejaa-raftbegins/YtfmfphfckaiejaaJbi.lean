/-
  Are two members the same: what it leans on.
-/
import Derived.Test.YtfmfphfckaiejaaJav
import Derived.Test.YtfmfphfckaiejaaJai
import Derived.Test.YtfmfphfckaiejaaJbh
namespace Go.Proofs.Ytfmfphfckaiejaa
open Go.RowKit
set_option linter.unusedVariables false
set_option linter.unusedSimpArgs false


/-- Are two members the same. -/
def eqMb (m m2 : Mb) : Bool := decide (m.id = m2.id ∧ m.n = m2.n ∧ m.term = m2.term ∧ m.vote = m2.vote ∧ m.role = m2.role ∧ m.lead = m2.lead ∧ m.commit = m2.commit ∧ m.clock = m2.clock ∧ m.wait = m2.wait) && (sameM m.b m.bt m.es m2.b m2.bt m2.es && (decide (m.snap = m2.snap) && (decide (m.granted = m2.granted) && (decide (m.next = m2.next) && decide (m.mtch = m2.mtch)))))
theorem eqMb_self (m : Mb) : eqMb m m = true := by unfold eqMb; simp [same_self]
theorem eqMb_iff {m m2 : Mb} : eqMb m m2 = true ↔ m = m2 := by
  refine ⟨fun h => ?_, fun h => by rw [h]; exact eqMb_self m2⟩
  unfold eqMb at h
  simp only [Bool.and_eq_true, decide_eq_true_eq, same_iff] at h
  obtain ⟨⟨h1, h2, h3, h4, h5, h6, h7, h8, h9⟩, ⟨h10, h11, h12⟩, h13, h14, h15, h16⟩ := h
  cases m; cases m2
  simp only at *
  subst_vars
  rfl
/-- The boxes of two members. -/
structure Sb (w wx : World) (s : Ad) (m : Mb) (s2 : Ad) (m2 : Mb) : Prop where
  p : Cl16 wx (w.heap.size) (.int .i64 m.id) (.int .i64 m.n) (.int .i64 m.term) (.int .i64 m.vote) (.int .i64 m.role) (.int .i64 m.lead) (.int .i64 m.b) (.int .i64 m.bt) (.slice s.ea m.es.length s.ec) (.int .i64 m.commit) (.slice s.sa m.snap.length s.sc) (.slice s.ga m.granted.length s.gc) (.slice s.xa m.next.length s.xc) (.slice s.ma m.mtch.length s.mc) (.int .i64 m.clock) (.int .i64 m.wait)
  q : Cl16 wx (w.heap.size + 1) (.int .i64 m2.id) (.int .i64 m2.n) (.int .i64 m2.term) (.int .i64 m2.vote) (.int .i64 m2.role) (.int .i64 m2.lead) (.int .i64 m2.b) (.int .i64 m2.bt) (.slice s2.ea m2.es.length s2.ec) (.int .i64 m2.commit) (.slice s2.sa m2.snap.length s2.sc) (.slice s2.ga m2.granted.length s2.gc) (.slice s2.xa m2.next.length s2.xc) (.slice s2.ma m2.mtch.length s2.mc) (.int .i64 m2.clock) (.int .i64 m2.wait)
  l : Below w.heap.size w wx
theorem Sb.below {w wx wy : World} {s s2 : Ad} {m m2 : Mb} (h : Sb w wx s m s2 m2) (hb : Below wx.heap.size wx wy) : Sb w wy s m s2 m2 := ⟨h.p.below hb, h.q.below hb, h.l.trans (hb.mono h.l.size)⟩
theorem Sb.first (w : World) (s : Ad) (m : Mb) (s2 : Ad) (m2 : Mb) : Sb w ((w.alloc (.cells #[.int .i64 m.id, .int .i64 m.n, .int .i64 m.term, .int .i64 m.vote, .int .i64 m.role, .int .i64 m.lead, .int .i64 m.b, .int .i64 m.bt, .slice s.ea m.es.length s.ec, .int .i64 m.commit, .slice s.sa m.snap.length s.sc, .slice s.ga m.granted.length s.gc, .slice s.xa m.next.length s.xc, .slice s.ma m.mtch.length s.mc, .int .i64 m.clock, .int .i64 m.wait] 31)).alloc (.cells #[.int .i64 m2.id, .int .i64 m2.n, .int .i64 m2.term, .int .i64 m2.vote, .int .i64 m2.role, .int .i64 m2.lead, .int .i64 m2.b, .int .i64 m2.bt, .slice s2.ea m2.es.length s2.ec, .int .i64 m2.commit, .slice s2.sa m2.snap.length s2.sc, .slice s2.ga m2.granted.length s2.gc, .slice s2.xa m2.next.length s2.xc, .slice s2.ma m2.mtch.length s2.mc, .int .i64 m2.clock, .int .i64 m2.wait] 31)) s m s2 m2 := by
  have k1 := Cl16.new w (.int .i64 m.id) (.int .i64 m.n) (.int .i64 m.term) (.int .i64 m.vote) (.int .i64 m.role) (.int .i64 m.lead) (.int .i64 m.b) (.int .i64 m.bt) (.slice s.ea m.es.length s.ec) (.int .i64 m.commit) (.slice s.sa m.snap.length s.sc) (.slice s.ga m.granted.length s.gc) (.slice s.xa m.next.length s.xc) (.slice s.ma m.mtch.length s.mc) (.int .i64 m.clock) (.int .i64 m.wait) 31
  have k2 := Cl16.new (w.alloc (.cells #[.int .i64 m.id, .int .i64 m.n, .int .i64 m.term, .int .i64 m.vote, .int .i64 m.role, .int .i64 m.lead, .int .i64 m.b, .int .i64 m.bt, .slice s.ea m.es.length s.ec, .int .i64 m.commit, .slice s.sa m.snap.length s.sc, .slice s.ga m.granted.length s.gc, .slice s.xa m.next.length s.xc, .slice s.ma m.mtch.length s.mc, .int .i64 m.clock, .int .i64 m.wait] 31)) (.int .i64 m2.id) (.int .i64 m2.n) (.int .i64 m2.term) (.int .i64 m2.vote) (.int .i64 m2.role) (.int .i64 m2.lead) (.int .i64 m2.b) (.int .i64 m2.bt) (.slice s2.ea m2.es.length s2.ec) (.int .i64 m2.commit) (.slice s2.sa m2.snap.length s2.sc) (.slice s2.ga m2.granted.length s2.gc) (.slice s2.xa m2.next.length s2.xc) (.slice s2.ma m2.mtch.length s2.mc) (.int .i64 m2.clock) (.int .i64 m2.wait) 31
  rw [size_alloc] at k2
  exact ⟨k1.below ((Below.refl _ _).alloc (Nat.le_refl _) _), k2, below2 _ _ _⟩
theorem LSame_any {w : World} {P Q : Nat → Prop} (b bt b' bt' : Int) {a a2 : Option Addr} {c c2 : Nat} {l m : List En} (hv : EnsV w P a c l) (hu : EnsV w Q a2 c2 m) : Calls Try.prog 38 #[.agg #[.int .i64 b, .int .i64 bt, .slice a l.length c], .agg #[.int .i64 b', .int .i64 bt', .slice a2 m.length c2]] w fun e w' => e = .returned (.bool (sameM b bt l b' bt' m)) ∧ Below w.heap.size w w' := by
  by_cases e1 : b = b' ∧ bt = bt'
  · obtain ⟨rfl, rfl⟩ := e1
    exact Same_eq _ _ b bt a a2 c c2 l m w hv hu
  · rw [show sameM b bt l b' bt' m = false by
      cases h : sameM b bt l b' bt' m with
      | false => rfl
      | true => exact absurd ⟨(same_iff.1 h).1, (same_iff.1 h).2.1⟩ e1]
    exact Same_ne b bt b' bt' a a2 c c2 _ _ w e1
abbrev smO0 : Oper := { dst := some 5, op := Op.load 31 (Operand.tmp 2), type := 31, pos := "raft.go:115", after := #[], guard := none }
abbrev smO1 : Oper := { dst := some 6, op := Op.call { callee := Callee.value (Operand.func 37), args := #[Operand.tmp 5], argTypes := #[31] }, type := 73, pos := "raft.go:115", after := #[{ on := 0, ground := Ground.data }], guard := none }
abbrev smO2 : Oper := { dst := some 7, op := Op.load 31 (Operand.tmp 3), type := 31, pos := "raft.go:115", after := #[], guard := none }
abbrev smO3 : Oper := { dst := some 8, op := Op.call { callee := Callee.value (Operand.func 37), args := #[Operand.tmp 7], argTypes := #[31] }, type := 73, pos := "raft.go:115", after := #[{ on := 2, ground := Ground.data }, { on := 1, ground := Ground.chain }], guard := none }
abbrev smO4 : Oper := { dst := some 9, op := Op.binOp BinOp.eql 73 (Operand.tmp 6) (Operand.tmp 8) 73, type := 4, pos := "raft.go:115", after := #[{ on := 1, ground := Ground.data }, { on := 3, ground := Ground.data }], guard := none }
abbrev smO5 : Oper := { dst := some 10, op := Op.move (Operand.tmp 9), type := 4, pos := "raft.go:115", after := #[{ on := 4, ground := Ground.data }, { on := 3, ground := Ground.chain }], guard := none }
abbrev smO6 : Oper := { dst := some 11, op := Op.fieldAddr 31 (Operand.tmp 2) 6, type := 0, pos := "raft.go:115", after := #[{ on := 5, ground := Ground.guard }], guard := some (5, true) }
abbrev smO7 : Oper := { dst := some 12, op := Op.load 24 (Operand.tmp 11), type := 24, pos := "raft.go:115", after := #[{ on := 6, ground := Ground.data }, { on := 5, ground := Ground.guard }], guard := some (5, true) }
abbrev smO8 : Oper := { dst := some 13, op := Op.fieldAddr 31 (Operand.tmp 3) 6, type := 0, pos := "raft.go:115", after := #[{ on := 5, ground := Ground.guard }], guard := some (5, true) }
abbrev smO9 : Oper := { dst := some 14, op := Op.load 24 (Operand.tmp 13), type := 24, pos := "raft.go:115", after := #[{ on := 8, ground := Ground.data }, { on := 5, ground := Ground.guard }], guard := some (5, true) }
abbrev smO10 : Oper := { dst := some 15, op := Op.call { callee := Callee.value (Operand.func 38), args := #[Operand.tmp 12, Operand.tmp 14], argTypes := #[24, 24] }, type := 4, pos := "raft.go:115", after := #[{ on := 7, ground := Ground.data }, { on := 9, ground := Ground.data }, { on := 5, ground := Ground.chain }, { on := 5, ground := Ground.guard }], guard := some (5, true) }
abbrev smO11 : Oper := { dst := some 16, op := Op.pick (Operand.tmp 10) (Operand.tmp 15) (Operand.const (Value.bool false)), type := 4, pos := "raft.go:115", after := #[{ on := 5, ground := Ground.data }, { on := 10, ground := Ground.data }], guard := none }
abbrev smO12 : Oper := { dst := some 17, op := Op.move (Operand.tmp 16), type := 4, pos := "raft.go:115", after := #[{ on := 11, ground := Ground.data }, { on := 10, ground := Ground.chain }], guard := none }
abbrev smO13 : Oper := { dst := some 18, op := Op.fieldAddr 31 (Operand.tmp 2) 8, type := 0, pos := "raft.go:115", after := #[{ on := 12, ground := Ground.guard }], guard := some (12, true) }
abbrev smO14 : Oper := { dst := some 19, op := Op.load 25 (Operand.tmp 18), type := 25, pos := "raft.go:115", after := #[{ on := 13, ground := Ground.data }, { on := 12, ground := Ground.guard }], guard := some (12, true) }
abbrev smO15 : Oper := { dst := some 20, op := Op.fieldAddr 31 (Operand.tmp 3) 8, type := 0, pos := "raft.go:115", after := #[{ on := 12, ground := Ground.guard }], guard := some (12, true) }
abbrev smO16 : Oper := { dst := some 21, op := Op.load 25 (Operand.tmp 20), type := 25, pos := "raft.go:115", after := #[{ on := 15, ground := Ground.data }, { on := 12, ground := Ground.guard }], guard := some (12, true) }
abbrev smO17 : Oper := { dst := some 22, op := Op.call { callee := Callee.value (Operand.func 39), args := #[Operand.tmp 19, Operand.tmp 21], argTypes := #[25, 25] }, type := 4, pos := "raft.go:115", after := #[{ on := 14, ground := Ground.data }, { on := 16, ground := Ground.data }, { on := 12, ground := Ground.chain }, { on := 12, ground := Ground.guard }], guard := some (12, true) }
abbrev smO18 : Oper := { dst := some 23, op := Op.pick (Operand.tmp 17) (Operand.tmp 22) (Operand.const (Value.bool false)), type := 4, pos := "raft.go:115", after := #[{ on := 12, ground := Ground.data }, { on := 17, ground := Ground.data }], guard := none }
abbrev smO19 : Oper := { dst := some 24, op := Op.move (Operand.tmp 23), type := 4, pos := "raft.go:115", after := #[{ on := 18, ground := Ground.data }, { on := 17, ground := Ground.chain }], guard := none }
abbrev smO20 : Oper := { dst := some 25, op := Op.fieldAddr 31 (Operand.tmp 2) 9, type := 0, pos := "raft.go:115", after := #[{ on := 19, ground := Ground.guard }], guard := some (19, true) }
abbrev smO21 : Oper := { dst := some 26, op := Op.load 28 (Operand.tmp 25), type := 28, pos := "raft.go:115", after := #[{ on := 20, ground := Ground.data }, { on := 19, ground := Ground.guard }], guard := some (19, true) }
abbrev smO22 : Oper := { dst := some 27, op := Op.fieldAddr 31 (Operand.tmp 3) 9, type := 0, pos := "raft.go:115", after := #[{ on := 19, ground := Ground.guard }], guard := some (19, true) }
abbrev smO23 : Oper := { dst := some 28, op := Op.load 28 (Operand.tmp 27), type := 28, pos := "raft.go:115", after := #[{ on := 22, ground := Ground.data }, { on := 19, ground := Ground.guard }], guard := some (19, true) }
abbrev smO24 : Oper := { dst := some 29, op := Op.call { callee := Callee.value (Operand.func 40), args := #[Operand.tmp 26, Operand.tmp 28], argTypes := #[28, 28] }, type := 4, pos := "raft.go:116", after := #[{ on := 21, ground := Ground.data }, { on := 23, ground := Ground.data }, { on := 19, ground := Ground.chain }, { on := 19, ground := Ground.guard }], guard := some (19, true) }
abbrev smO25 : Oper := { dst := some 30, op := Op.pick (Operand.tmp 24) (Operand.tmp 29) (Operand.const (Value.bool false)), type := 4, pos := "raft.go:115", after := #[{ on := 19, ground := Ground.data }, { on := 24, ground := Ground.data }], guard := none }
abbrev smO26 : Oper := { dst := some 31, op := Op.move (Operand.tmp 30), type := 4, pos := "raft.go:115", after := #[{ on := 25, ground := Ground.data }, { on := 24, ground := Ground.chain }], guard := none }
abbrev smO27 : Oper := { dst := some 32, op := Op.fieldAddr 31 (Operand.tmp 2) 10, type := 0, pos := "raft.go:115", after := #[{ on := 26, ground := Ground.guard }], guard := some (26, true) }
abbrev smO28 : Oper := { dst := some 33, op := Op.load 29 (Operand.tmp 32), type := 29, pos := "raft.go:115", after := #[{ on := 27, ground := Ground.data }, { on := 26, ground := Ground.guard }], guard := some (26, true) }
abbrev smO29 : Oper := { dst := some 34, op := Op.fieldAddr 31 (Operand.tmp 3) 10, type := 0, pos := "raft.go:115", after := #[{ on := 26, ground := Ground.guard }], guard := some (26, true) }
abbrev smO30 : Oper := { dst := some 35, op := Op.load 29 (Operand.tmp 34), type := 29, pos := "raft.go:115", after := #[{ on := 29, ground := Ground.data }, { on := 26, ground := Ground.guard }], guard := some (26, true) }
abbrev smO31 : Oper := { dst := some 36, op := Op.call { callee := Callee.value (Operand.func 41), args := #[Operand.tmp 33, Operand.tmp 35], argTypes := #[29, 29] }, type := 4, pos := "raft.go:116", after := #[{ on := 28, ground := Ground.data }, { on := 30, ground := Ground.data }, { on := 26, ground := Ground.chain }, { on := 26, ground := Ground.guard }], guard := some (26, true) }
abbrev smO32 : Oper := { dst := some 37, op := Op.pick (Operand.tmp 31) (Operand.tmp 36) (Operand.const (Value.bool false)), type := 4, pos := "raft.go:115", after := #[{ on := 26, ground := Ground.data }, { on := 31, ground := Ground.data }], guard := none }
abbrev smO33 : Oper := { dst := some 38, op := Op.move (Operand.tmp 37), type := 4, pos := "raft.go:115", after := #[{ on := 32, ground := Ground.data }, { on := 31, ground := Ground.chain }], guard := none }
abbrev smO34 : Oper := { dst := some 39, op := Op.fieldAddr 31 (Operand.tmp 2) 11, type := 0, pos := "raft.go:115", after := #[{ on := 33, ground := Ground.guard }], guard := some (33, true) }
abbrev smO35 : Oper := { dst := some 40, op := Op.load 29 (Operand.tmp 39), type := 29, pos := "raft.go:115", after := #[{ on := 34, ground := Ground.data }, { on := 33, ground := Ground.guard }], guard := some (33, true) }
abbrev smO36 : Oper := { dst := some 41, op := Op.fieldAddr 31 (Operand.tmp 3) 11, type := 0, pos := "raft.go:115", after := #[{ on := 33, ground := Ground.guard }], guard := some (33, true) }
abbrev smO37 : Oper := { dst := some 42, op := Op.load 29 (Operand.tmp 41), type := 29, pos := "raft.go:115", after := #[{ on := 36, ground := Ground.data }, { on := 33, ground := Ground.guard }], guard := some (33, true) }
abbrev smO38 : Oper := { dst := some 43, op := Op.call { callee := Callee.value (Operand.func 41), args := #[Operand.tmp 40, Operand.tmp 42], argTypes := #[29, 29] }, type := 4, pos := "raft.go:116", after := #[{ on := 35, ground := Ground.data }, { on := 37, ground := Ground.data }, { on := 33, ground := Ground.chain }, { on := 33, ground := Ground.guard }], guard := some (33, true) }
abbrev smO39 : Oper := { dst := some 44, op := Op.pick (Operand.tmp 38) (Operand.tmp 43) (Operand.const (Value.bool false)), type := 4, pos := "raft.go:115", after := #[{ on := 33, ground := Ground.data }, { on := 38, ground := Ground.data }], guard := none }
abbrev smO40 : Oper := { dst := some 4, op := Op.assign (Operand.tmp 44), type := 4, pos := "raft.go:115", after := #[{ on := 39, ground := Ground.data }, { on := 38, ground := Ground.chain }, { on := 0, ground := Ground.phase }, { on := 1, ground := Ground.phase }, { on := 2, ground := Ground.phase }, { on := 3, ground := Ground.phase }, { on := 4, ground := Ground.phase }, { on := 5, ground := Ground.phase }, { on := 6, ground := Ground.phase }, { on := 7, ground := Ground.phase }, { on := 8, ground := Ground.phase }, { on := 9, ground := Ground.phase }, { on := 10, ground := Ground.phase }, { on := 11, ground := Ground.phase }, { on := 12, ground := Ground.phase }, { on := 13, ground := Ground.phase }, { on := 14, ground := Ground.phase }, { on := 15, ground := Ground.phase }, { on := 16, ground := Ground.phase }, { on := 17, ground := Ground.phase }, { on := 18, ground := Ground.phase }, { on := 19, ground := Ground.phase }, { on := 20, ground := Ground.phase }, { on := 21, ground := Ground.phase }, { on := 22, ground := Ground.phase }, { on := 23, ground := Ground.phase }, { on := 24, ground := Ground.phase }, { on := 25, ground := Ground.phase }, { on := 26, ground := Ground.phase }, { on := 27, ground := Ground.phase }, { on := 28, ground := Ground.phase }, { on := 29, ground := Ground.phase }, { on := 30, ground := Ground.phase }, { on := 31, ground := Ground.phase }, { on := 32, ground := Ground.phase }, { on := 33, ground := Ground.phase }, { on := 34, ground := Ground.phase }, { on := 35, ground := Ground.phase }, { on := 36, ground := Ground.phase }, { on := 37, ground := Ground.phase }, { on := 38, ground := Ground.phase }, { on := 39, ground := Ground.phase }], guard := none }
end Go.Proofs.Ytfmfphfckaiejaa
