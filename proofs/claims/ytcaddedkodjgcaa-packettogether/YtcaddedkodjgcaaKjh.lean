/-
  The document's SameMsg and SameMsgs: contracts.
-/
import Derived.Test.YtcaddedkodjgcaaMsm
import Derived.Test.YtcaddedkodjgcaaSmd
namespace Go.Proofs.Ytcaddedkodjgcaa
section
open Go.RowKit
set_option linter.unusedVariables false
set_option linter.unusedSimpArgs false

theorem Ms.same {x y : Ms} : x = y ↔ x.kind = y.kind ∧ x.grp = y.grp ∧ x.frm = y.frm ∧ x.to = y.to ∧ x.term = y.term ∧ x.at_ = y.at_ ∧ x.att = y.att ∧ x.commit = y.commit ∧ x.ok = y.ok ∧ x.ents = y.ents ∧ x.data = y.data := by
  obtain ⟨a0, a1, a2, a3, a4, a5, a6, a7, a8, a9, a10⟩ := x
  obtain ⟨b0, b1, b2, b3, b4, b5, b6, b7, b8, b9, b10⟩ := y
  simp only [Ms.mk.injEq]
def eqMs (x y : Ms) : Bool := decide (x.kind = y.kind) && decide (x.grp = y.grp) && decide (x.frm = y.frm) && decide (x.to = y.to) && decide (x.term = y.term) && decide (x.at_ = y.at_) && decide (x.att = y.att) && decide (x.commit = y.commit) && decide (x.ok = y.ok) && decide (x.ents = y.ents) && decide (x.data = y.data)
theorem eqMs_iff {x y : Ms} : eqMs x y = true ↔ x = y := by
  rw [Ms.same]
  unfold eqMs
  simp only [Bool.and_eq_true, decide_eq_true_eq, and_assoc]
theorem eqMs_no {x y : Ms} (h : ¬ x = y) : eqMs x y = false := by
  cases e : eqMs x y with
  | false => rfl
  | true => exact absurd (eqMs_iff.1 e) h
/-- Both boxes. -/
theorem two_boxes (w : World) (ax ay : Ax) (x y : Ms) : Xc ((w.alloc (Obj.cells #[.int .i64 x.kind, .int .i64 x.grp, .int .i64 x.frm, .int .i64 x.to, .int .i64 x.term, .int .i64 x.at_, .int .i64 x.att, .int .i64 x.commit, .bool x.ok, .slice ax.ea x.ents.length ax.ec, .slice ax.da x.data.length ax.dc] 51)).alloc (Obj.cells #[.int .i64 y.kind, .int .i64 y.grp, .int .i64 y.frm, .int .i64 y.to, .int .i64 y.term, .int .i64 y.at_, .int .i64 y.att, .int .i64 y.commit, .bool y.ok, .slice ay.ea y.ents.length ay.ec, .slice ay.da y.data.length ay.dc] 51)) w.heap.size ax x ∧ Xc ((w.alloc (Obj.cells #[.int .i64 x.kind, .int .i64 x.grp, .int .i64 x.frm, .int .i64 x.to, .int .i64 x.term, .int .i64 x.at_, .int .i64 x.att, .int .i64 x.commit, .bool x.ok, .slice ax.ea x.ents.length ax.ec, .slice ax.da x.data.length ax.dc] 51)).alloc (Obj.cells #[.int .i64 y.kind, .int .i64 y.grp, .int .i64 y.frm, .int .i64 y.to, .int .i64 y.term, .int .i64 y.at_, .int .i64 y.att, .int .i64 y.commit, .bool y.ok, .slice ay.ea y.ents.length ay.ec, .slice ay.da y.data.length ay.dc] 51)) (w.heap.size + 1) ay y ∧ Below w.heap.size w ((w.alloc (Obj.cells #[.int .i64 x.kind, .int .i64 x.grp, .int .i64 x.frm, .int .i64 x.to, .int .i64 x.term, .int .i64 x.at_, .int .i64 x.att, .int .i64 x.commit, .bool x.ok, .slice ax.ea x.ents.length ax.ec, .slice ax.da x.data.length ax.dc] 51)).alloc (Obj.cells #[.int .i64 y.kind, .int .i64 y.grp, .int .i64 y.frm, .int .i64 y.to, .int .i64 y.term, .int .i64 y.at_, .int .i64 y.att, .int .i64 y.commit, .bool y.ok, .slice ay.ea y.ents.length ay.ec, .slice ay.da y.data.length ay.dc] 51)) := by
  refine ⟨?_, ?_, ?_⟩
  · exact (Cl11.new w _ _ _ _ _ _ _ _ _ _ _ _).below ((Below.refl _ _).alloc (Nat.le_refl _) _)
  · have := Cl11.new (w.alloc (Obj.cells #[.int .i64 x.kind, .int .i64 x.grp, .int .i64 x.frm, .int .i64 x.to, .int .i64 x.term, .int .i64 x.at_, .int .i64 x.att, .int .i64 x.commit, .bool x.ok, .slice ax.ea x.ents.length ax.ec, .slice ax.da x.data.length ax.dc] 51)) (.int .i64 y.kind) (.int .i64 y.grp) (.int .i64 y.frm) (.int .i64 y.to) (.int .i64 y.term) (.int .i64 y.at_) (.int .i64 y.att) (.int .i64 y.commit) (.bool y.ok) (.slice ay.ea y.ents.length ay.ec) (.slice ay.da y.data.length ay.dc) 51
    rw [size_alloc] at this
    exact this
  · exact ((Below.refl _ _).alloc (Nat.le_refl _) _).alloc (by rw [size_alloc]; omega) _

set_option maxRecDepth 100000 in
set_option maxHeartbeats 2000000 in
theorem SameMsg_c0 {w : World} {ax ay : Ax} {x y : Ms} {P Q : Nat → Prop} (hx : MsV w P ax x) (hy : MsV w Q ay y)  (f0 : ¬ x.kind = y.kind) : Calls Try.prog 51 #[msA ax x, msA ay y] w fun e w' => e = .returned (.bool (eqMs x y)) ∧ Below w.heap.size w w' := by
  rw [eqMs_no fun q => f0 (by rw [q])]
  have HS := two_boxes w ax ay x y
  have HL : Hid (Below w.heap.size w ((w.alloc (Obj.cells #[.int .i64 x.kind, .int .i64 x.grp, .int .i64 x.frm, .int .i64 x.to, .int .i64 x.term, .int .i64 x.at_, .int .i64 x.att, .int .i64 x.commit, .bool x.ok, .slice ax.ea x.ents.length ax.ec, .slice ax.da x.data.length ax.dc] 51)).alloc (Obj.cells #[.int .i64 y.kind, .int .i64 y.grp, .int .i64 y.frm, .int .i64 y.to, .int .i64 y.term, .int .i64 y.at_, .int .i64 y.att, .int .i64 y.commit, .bool y.ok, .slice ay.ea y.ents.length ay.ec, .slice ay.da y.data.length ay.dc] 51))) := HS.2.2
  obtain ⟨⟨p0, p1, p2, p3, p4, p5, p6, p7, p8, p9, p10, pf⟩, ⟨q0, q1, q2, q3, q4, q5, q6, q7, q8, q9, q10, qf⟩, _⟩ := id HS
  have hp := HS.1.lt
  have hq := HS.2.1.lt
  have x0 : (x.kind == y.kind) = false := beq_eq_false_iff_ne.2 f0
  have y0 : (x.kind != y.kind) = true := by rw [bne, x0]; rfl
  unfold msA
  clear hx hy HS  f0
  go_enter Try.func51, Try.ntmps51
  go_wp2
  go_ret
  exact ⟨rfl, HL.out⟩

set_option maxRecDepth 100000 in
set_option maxHeartbeats 2000000 in
theorem SameMsg_c1 {w : World} {ax ay : Ax} {x y : Ms} {P Q : Nat → Prop} (hx : MsV w P ax x) (hy : MsV w Q ay y) (e0 : x.kind = y.kind) (f1 : ¬ x.grp = y.grp) : Calls Try.prog 51 #[msA ax x, msA ay y] w fun e w' => e = .returned (.bool (eqMs x y)) ∧ Below w.heap.size w w' := by
  rw [eqMs_no fun q => f1 (by rw [q])]
  have HS := two_boxes w ax ay x y
  have HL : Hid (Below w.heap.size w ((w.alloc (Obj.cells #[.int .i64 x.kind, .int .i64 x.grp, .int .i64 x.frm, .int .i64 x.to, .int .i64 x.term, .int .i64 x.at_, .int .i64 x.att, .int .i64 x.commit, .bool x.ok, .slice ax.ea x.ents.length ax.ec, .slice ax.da x.data.length ax.dc] 51)).alloc (Obj.cells #[.int .i64 y.kind, .int .i64 y.grp, .int .i64 y.frm, .int .i64 y.to, .int .i64 y.term, .int .i64 y.at_, .int .i64 y.att, .int .i64 y.commit, .bool y.ok, .slice ay.ea y.ents.length ay.ec, .slice ay.da y.data.length ay.dc] 51))) := HS.2.2
  obtain ⟨⟨p0, p1, p2, p3, p4, p5, p6, p7, p8, p9, p10, pf⟩, ⟨q0, q1, q2, q3, q4, q5, q6, q7, q8, q9, q10, qf⟩, _⟩ := id HS
  have hp := HS.1.lt
  have hq := HS.2.1.lt
  have x0 : (x.kind == y.kind) = true := by simp [e0]
  have y0 : (x.kind != y.kind) = false := by simp [e0]
  have x1 : (x.grp == y.grp) = false := beq_eq_false_iff_ne.2 f1
  have y1 : (x.grp != y.grp) = true := by rw [bne, x1]; rfl
  unfold msA
  clear hx hy HS e0 f1
  go_enter Try.func51, Try.ntmps51
  go_wp2
  go_ret
  exact ⟨rfl, HL.out⟩

set_option maxRecDepth 100000 in
set_option maxHeartbeats 2000000 in
theorem SameMsg_c2 {w : World} {ax ay : Ax} {x y : Ms} {P Q : Nat → Prop} (hx : MsV w P ax x) (hy : MsV w Q ay y) (e0 : x.kind = y.kind) (e1 : x.grp = y.grp) (f2 : ¬ x.frm = y.frm) : Calls Try.prog 51 #[msA ax x, msA ay y] w fun e w' => e = .returned (.bool (eqMs x y)) ∧ Below w.heap.size w w' := by
  rw [eqMs_no fun q => f2 (by rw [q])]
  have HS := two_boxes w ax ay x y
  have HL : Hid (Below w.heap.size w ((w.alloc (Obj.cells #[.int .i64 x.kind, .int .i64 x.grp, .int .i64 x.frm, .int .i64 x.to, .int .i64 x.term, .int .i64 x.at_, .int .i64 x.att, .int .i64 x.commit, .bool x.ok, .slice ax.ea x.ents.length ax.ec, .slice ax.da x.data.length ax.dc] 51)).alloc (Obj.cells #[.int .i64 y.kind, .int .i64 y.grp, .int .i64 y.frm, .int .i64 y.to, .int .i64 y.term, .int .i64 y.at_, .int .i64 y.att, .int .i64 y.commit, .bool y.ok, .slice ay.ea y.ents.length ay.ec, .slice ay.da y.data.length ay.dc] 51))) := HS.2.2
  obtain ⟨⟨p0, p1, p2, p3, p4, p5, p6, p7, p8, p9, p10, pf⟩, ⟨q0, q1, q2, q3, q4, q5, q6, q7, q8, q9, q10, qf⟩, _⟩ := id HS
  have hp := HS.1.lt
  have hq := HS.2.1.lt
  have x0 : (x.kind == y.kind) = true := by simp [e0]
  have y0 : (x.kind != y.kind) = false := by simp [e0]
  have x1 : (x.grp == y.grp) = true := by simp [e1]
  have y1 : (x.grp != y.grp) = false := by simp [e1]
  have x2 : (x.frm == y.frm) = false := beq_eq_false_iff_ne.2 f2
  have y2 : (x.frm != y.frm) = true := by rw [bne, x2]; rfl
  unfold msA
  clear hx hy HS e0 e1 f2
  go_enter Try.func51, Try.ntmps51
  go_wp2
  go_ret
  exact ⟨rfl, HL.out⟩

set_option maxRecDepth 100000 in
set_option maxHeartbeats 2000000 in
theorem SameMsg_c3 {w : World} {ax ay : Ax} {x y : Ms} {P Q : Nat → Prop} (hx : MsV w P ax x) (hy : MsV w Q ay y) (e0 : x.kind = y.kind) (e1 : x.grp = y.grp) (e2 : x.frm = y.frm) (f3 : ¬ x.to = y.to) : Calls Try.prog 51 #[msA ax x, msA ay y] w fun e w' => e = .returned (.bool (eqMs x y)) ∧ Below w.heap.size w w' := by
  rw [eqMs_no fun q => f3 (by rw [q])]
  have HS := two_boxes w ax ay x y
  have HL : Hid (Below w.heap.size w ((w.alloc (Obj.cells #[.int .i64 x.kind, .int .i64 x.grp, .int .i64 x.frm, .int .i64 x.to, .int .i64 x.term, .int .i64 x.at_, .int .i64 x.att, .int .i64 x.commit, .bool x.ok, .slice ax.ea x.ents.length ax.ec, .slice ax.da x.data.length ax.dc] 51)).alloc (Obj.cells #[.int .i64 y.kind, .int .i64 y.grp, .int .i64 y.frm, .int .i64 y.to, .int .i64 y.term, .int .i64 y.at_, .int .i64 y.att, .int .i64 y.commit, .bool y.ok, .slice ay.ea y.ents.length ay.ec, .slice ay.da y.data.length ay.dc] 51))) := HS.2.2
  obtain ⟨⟨p0, p1, p2, p3, p4, p5, p6, p7, p8, p9, p10, pf⟩, ⟨q0, q1, q2, q3, q4, q5, q6, q7, q8, q9, q10, qf⟩, _⟩ := id HS
  have hp := HS.1.lt
  have hq := HS.2.1.lt
  have x0 : (x.kind == y.kind) = true := by simp [e0]
  have y0 : (x.kind != y.kind) = false := by simp [e0]
  have x1 : (x.grp == y.grp) = true := by simp [e1]
  have y1 : (x.grp != y.grp) = false := by simp [e1]
  have x2 : (x.frm == y.frm) = true := by simp [e2]
  have y2 : (x.frm != y.frm) = false := by simp [e2]
  have x3 : (x.to == y.to) = false := beq_eq_false_iff_ne.2 f3
  have y3 : (x.to != y.to) = true := by rw [bne, x3]; rfl
  unfold msA
  clear hx hy HS e0 e1 e2 f3
  go_enter Try.func51, Try.ntmps51
  go_wp2
  go_ret
  exact ⟨rfl, HL.out⟩

set_option maxRecDepth 100000 in
set_option maxHeartbeats 2000000 in
theorem SameMsg_c4 {w : World} {ax ay : Ax} {x y : Ms} {P Q : Nat → Prop} (hx : MsV w P ax x) (hy : MsV w Q ay y) (e0 : x.kind = y.kind) (e1 : x.grp = y.grp) (e2 : x.frm = y.frm) (e3 : x.to = y.to) (f4 : ¬ x.term = y.term) : Calls Try.prog 51 #[msA ax x, msA ay y] w fun e w' => e = .returned (.bool (eqMs x y)) ∧ Below w.heap.size w w' := by
  rw [eqMs_no fun q => f4 (by rw [q])]
  have HS := two_boxes w ax ay x y
  have HL : Hid (Below w.heap.size w ((w.alloc (Obj.cells #[.int .i64 x.kind, .int .i64 x.grp, .int .i64 x.frm, .int .i64 x.to, .int .i64 x.term, .int .i64 x.at_, .int .i64 x.att, .int .i64 x.commit, .bool x.ok, .slice ax.ea x.ents.length ax.ec, .slice ax.da x.data.length ax.dc] 51)).alloc (Obj.cells #[.int .i64 y.kind, .int .i64 y.grp, .int .i64 y.frm, .int .i64 y.to, .int .i64 y.term, .int .i64 y.at_, .int .i64 y.att, .int .i64 y.commit, .bool y.ok, .slice ay.ea y.ents.length ay.ec, .slice ay.da y.data.length ay.dc] 51))) := HS.2.2
  obtain ⟨⟨p0, p1, p2, p3, p4, p5, p6, p7, p8, p9, p10, pf⟩, ⟨q0, q1, q2, q3, q4, q5, q6, q7, q8, q9, q10, qf⟩, _⟩ := id HS
  have hp := HS.1.lt
  have hq := HS.2.1.lt
  have x0 : (x.kind == y.kind) = true := by simp [e0]
  have y0 : (x.kind != y.kind) = false := by simp [e0]
  have x1 : (x.grp == y.grp) = true := by simp [e1]
  have y1 : (x.grp != y.grp) = false := by simp [e1]
  have x2 : (x.frm == y.frm) = true := by simp [e2]
  have y2 : (x.frm != y.frm) = false := by simp [e2]
  have x3 : (x.to == y.to) = true := by simp [e3]
  have y3 : (x.to != y.to) = false := by simp [e3]
  have x4 : (x.term == y.term) = false := beq_eq_false_iff_ne.2 f4
  have y4 : (x.term != y.term) = true := by rw [bne, x4]; rfl
  unfold msA
  clear hx hy HS e0 e1 e2 e3 f4
  go_enter Try.func51, Try.ntmps51
  go_wp2
  go_ret
  exact ⟨rfl, HL.out⟩

set_option maxRecDepth 100000 in
set_option maxHeartbeats 2000000 in
theorem SameMsg_c5 {w : World} {ax ay : Ax} {x y : Ms} {P Q : Nat → Prop} (hx : MsV w P ax x) (hy : MsV w Q ay y) (e0 : x.kind = y.kind) (e1 : x.grp = y.grp) (e2 : x.frm = y.frm) (e3 : x.to = y.to) (e4 : x.term = y.term) (f5 : ¬ x.at_ = y.at_) : Calls Try.prog 51 #[msA ax x, msA ay y] w fun e w' => e = .returned (.bool (eqMs x y)) ∧ Below w.heap.size w w' := by
  rw [eqMs_no fun q => f5 (by rw [q])]
  have HS := two_boxes w ax ay x y
  have HL : Hid (Below w.heap.size w ((w.alloc (Obj.cells #[.int .i64 x.kind, .int .i64 x.grp, .int .i64 x.frm, .int .i64 x.to, .int .i64 x.term, .int .i64 x.at_, .int .i64 x.att, .int .i64 x.commit, .bool x.ok, .slice ax.ea x.ents.length ax.ec, .slice ax.da x.data.length ax.dc] 51)).alloc (Obj.cells #[.int .i64 y.kind, .int .i64 y.grp, .int .i64 y.frm, .int .i64 y.to, .int .i64 y.term, .int .i64 y.at_, .int .i64 y.att, .int .i64 y.commit, .bool y.ok, .slice ay.ea y.ents.length ay.ec, .slice ay.da y.data.length ay.dc] 51))) := HS.2.2
  obtain ⟨⟨p0, p1, p2, p3, p4, p5, p6, p7, p8, p9, p10, pf⟩, ⟨q0, q1, q2, q3, q4, q5, q6, q7, q8, q9, q10, qf⟩, _⟩ := id HS
  have hp := HS.1.lt
  have hq := HS.2.1.lt
  have x0 : (x.kind == y.kind) = true := by simp [e0]
  have y0 : (x.kind != y.kind) = false := by simp [e0]
  have x1 : (x.grp == y.grp) = true := by simp [e1]
  have y1 : (x.grp != y.grp) = false := by simp [e1]
  have x2 : (x.frm == y.frm) = true := by simp [e2]
  have y2 : (x.frm != y.frm) = false := by simp [e2]
  have x3 : (x.to == y.to) = true := by simp [e3]
  have y3 : (x.to != y.to) = false := by simp [e3]
  have x4 : (x.term == y.term) = true := by simp [e4]
  have y4 : (x.term != y.term) = false := by simp [e4]
  have x5 : (x.at_ == y.at_) = false := beq_eq_false_iff_ne.2 f5
  have y5 : (x.at_ != y.at_) = true := by rw [bne, x5]; rfl
  unfold msA
  clear hx hy HS e0 e1 e2 e3 e4 f5
  go_enter Try.func51, Try.ntmps51
  go_wp2
  go_ret
  exact ⟨rfl, HL.out⟩

set_option maxRecDepth 100000 in
set_option maxHeartbeats 2000000 in
theorem SameMsg_c6 {w : World} {ax ay : Ax} {x y : Ms} {P Q : Nat → Prop} (hx : MsV w P ax x) (hy : MsV w Q ay y) (e0 : x.kind = y.kind) (e1 : x.grp = y.grp) (e2 : x.frm = y.frm) (e3 : x.to = y.to) (e4 : x.term = y.term) (e5 : x.at_ = y.at_) (f6 : ¬ x.att = y.att) : Calls Try.prog 51 #[msA ax x, msA ay y] w fun e w' => e = .returned (.bool (eqMs x y)) ∧ Below w.heap.size w w' := by
  rw [eqMs_no fun q => f6 (by rw [q])]
  have HS := two_boxes w ax ay x y
  have HL : Hid (Below w.heap.size w ((w.alloc (Obj.cells #[.int .i64 x.kind, .int .i64 x.grp, .int .i64 x.frm, .int .i64 x.to, .int .i64 x.term, .int .i64 x.at_, .int .i64 x.att, .int .i64 x.commit, .bool x.ok, .slice ax.ea x.ents.length ax.ec, .slice ax.da x.data.length ax.dc] 51)).alloc (Obj.cells #[.int .i64 y.kind, .int .i64 y.grp, .int .i64 y.frm, .int .i64 y.to, .int .i64 y.term, .int .i64 y.at_, .int .i64 y.att, .int .i64 y.commit, .bool y.ok, .slice ay.ea y.ents.length ay.ec, .slice ay.da y.data.length ay.dc] 51))) := HS.2.2
  obtain ⟨⟨p0, p1, p2, p3, p4, p5, p6, p7, p8, p9, p10, pf⟩, ⟨q0, q1, q2, q3, q4, q5, q6, q7, q8, q9, q10, qf⟩, _⟩ := id HS
  have hp := HS.1.lt
  have hq := HS.2.1.lt
  have x0 : (x.kind == y.kind) = true := by simp [e0]
  have y0 : (x.kind != y.kind) = false := by simp [e0]
  have x1 : (x.grp == y.grp) = true := by simp [e1]
  have y1 : (x.grp != y.grp) = false := by simp [e1]
  have x2 : (x.frm == y.frm) = true := by simp [e2]
  have y2 : (x.frm != y.frm) = false := by simp [e2]
  have x3 : (x.to == y.to) = true := by simp [e3]
  have y3 : (x.to != y.to) = false := by simp [e3]
  have x4 : (x.term == y.term) = true := by simp [e4]
  have y4 : (x.term != y.term) = false := by simp [e4]
  have x5 : (x.at_ == y.at_) = true := by simp [e5]
  have y5 : (x.at_ != y.at_) = false := by simp [e5]
  have x6 : (x.att == y.att) = false := beq_eq_false_iff_ne.2 f6
  have y6 : (x.att != y.att) = true := by rw [bne, x6]; rfl
  unfold msA
  clear hx hy HS e0 e1 e2 e3 e4 e5 f6
  go_enter Try.func51, Try.ntmps51
  go_wp2
  go_ret
  exact ⟨rfl, HL.out⟩

set_option maxRecDepth 100000 in
set_option maxHeartbeats 2000000 in
theorem SameMsg_c7 {w : World} {ax ay : Ax} {x y : Ms} {P Q : Nat → Prop} (hx : MsV w P ax x) (hy : MsV w Q ay y) (e0 : x.kind = y.kind) (e1 : x.grp = y.grp) (e2 : x.frm = y.frm) (e3 : x.to = y.to) (e4 : x.term = y.term) (e5 : x.at_ = y.at_) (e6 : x.att = y.att) (f7 : ¬ x.commit = y.commit) : Calls Try.prog 51 #[msA ax x, msA ay y] w fun e w' => e = .returned (.bool (eqMs x y)) ∧ Below w.heap.size w w' := by
  rw [eqMs_no fun q => f7 (by rw [q])]
  have HS := two_boxes w ax ay x y
  have HL : Hid (Below w.heap.size w ((w.alloc (Obj.cells #[.int .i64 x.kind, .int .i64 x.grp, .int .i64 x.frm, .int .i64 x.to, .int .i64 x.term, .int .i64 x.at_, .int .i64 x.att, .int .i64 x.commit, .bool x.ok, .slice ax.ea x.ents.length ax.ec, .slice ax.da x.data.length ax.dc] 51)).alloc (Obj.cells #[.int .i64 y.kind, .int .i64 y.grp, .int .i64 y.frm, .int .i64 y.to, .int .i64 y.term, .int .i64 y.at_, .int .i64 y.att, .int .i64 y.commit, .bool y.ok, .slice ay.ea y.ents.length ay.ec, .slice ay.da y.data.length ay.dc] 51))) := HS.2.2
  obtain ⟨⟨p0, p1, p2, p3, p4, p5, p6, p7, p8, p9, p10, pf⟩, ⟨q0, q1, q2, q3, q4, q5, q6, q7, q8, q9, q10, qf⟩, _⟩ := id HS
  have hp := HS.1.lt
  have hq := HS.2.1.lt
  have x0 : (x.kind == y.kind) = true := by simp [e0]
  have y0 : (x.kind != y.kind) = false := by simp [e0]
  have x1 : (x.grp == y.grp) = true := by simp [e1]
  have y1 : (x.grp != y.grp) = false := by simp [e1]
  have x2 : (x.frm == y.frm) = true := by simp [e2]
  have y2 : (x.frm != y.frm) = false := by simp [e2]
  have x3 : (x.to == y.to) = true := by simp [e3]
  have y3 : (x.to != y.to) = false := by simp [e3]
  have x4 : (x.term == y.term) = true := by simp [e4]
  have y4 : (x.term != y.term) = false := by simp [e4]
  have x5 : (x.at_ == y.at_) = true := by simp [e5]
  have y5 : (x.at_ != y.at_) = false := by simp [e5]
  have x6 : (x.att == y.att) = true := by simp [e6]
  have y6 : (x.att != y.att) = false := by simp [e6]
  have x7 : (x.commit == y.commit) = false := beq_eq_false_iff_ne.2 f7
  have y7 : (x.commit != y.commit) = true := by rw [bne, x7]; rfl
  unfold msA
  clear hx hy HS e0 e1 e2 e3 e4 e5 e6 f7
  go_enter Try.func51, Try.ntmps51
  go_wp2
  go_ret
  exact ⟨rfl, HL.out⟩

set_option maxRecDepth 100000 in
set_option maxHeartbeats 2000000 in
theorem SameMsg_c8 {w : World} {ax ay : Ax} {x y : Ms} {P Q : Nat → Prop} (hx : MsV w P ax x) (hy : MsV w Q ay y) (e0 : x.kind = y.kind) (e1 : x.grp = y.grp) (e2 : x.frm = y.frm) (e3 : x.to = y.to) (e4 : x.term = y.term) (e5 : x.at_ = y.at_) (e6 : x.att = y.att) (e7 : x.commit = y.commit) (f8 : ¬ x.ok = y.ok) : Calls Try.prog 51 #[msA ax x, msA ay y] w fun e w' => e = .returned (.bool (eqMs x y)) ∧ Below w.heap.size w w' := by
  rw [eqMs_no fun q => f8 (by rw [q])]
  have HS := two_boxes w ax ay x y
  have HL : Hid (Below w.heap.size w ((w.alloc (Obj.cells #[.int .i64 x.kind, .int .i64 x.grp, .int .i64 x.frm, .int .i64 x.to, .int .i64 x.term, .int .i64 x.at_, .int .i64 x.att, .int .i64 x.commit, .bool x.ok, .slice ax.ea x.ents.length ax.ec, .slice ax.da x.data.length ax.dc] 51)).alloc (Obj.cells #[.int .i64 y.kind, .int .i64 y.grp, .int .i64 y.frm, .int .i64 y.to, .int .i64 y.term, .int .i64 y.at_, .int .i64 y.att, .int .i64 y.commit, .bool y.ok, .slice ay.ea y.ents.length ay.ec, .slice ay.da y.data.length ay.dc] 51))) := HS.2.2
  obtain ⟨⟨p0, p1, p2, p3, p4, p5, p6, p7, p8, p9, p10, pf⟩, ⟨q0, q1, q2, q3, q4, q5, q6, q7, q8, q9, q10, qf⟩, _⟩ := id HS
  have hp := HS.1.lt
  have hq := HS.2.1.lt
  have x0 : (x.kind == y.kind) = true := by simp [e0]
  have y0 : (x.kind != y.kind) = false := by simp [e0]
  have x1 : (x.grp == y.grp) = true := by simp [e1]
  have y1 : (x.grp != y.grp) = false := by simp [e1]
  have x2 : (x.frm == y.frm) = true := by simp [e2]
  have y2 : (x.frm != y.frm) = false := by simp [e2]
  have x3 : (x.to == y.to) = true := by simp [e3]
  have y3 : (x.to != y.to) = false := by simp [e3]
  have x4 : (x.term == y.term) = true := by simp [e4]
  have y4 : (x.term != y.term) = false := by simp [e4]
  have x5 : (x.at_ == y.at_) = true := by simp [e5]
  have y5 : (x.at_ != y.at_) = false := by simp [e5]
  have x6 : (x.att == y.att) = true := by simp [e6]
  have y6 : (x.att != y.att) = false := by simp [e6]
  have x7 : (x.commit == y.commit) = true := by simp [e7]
  have y7 : (x.commit != y.commit) = false := by simp [e7]
  have x8 : (x.ok == y.ok) = false := beq_eq_false_iff_ne.2 f8
  have y8 : (x.ok != y.ok) = true := by rw [bne, x8]; rfl
  unfold msA
  clear hx hy HS e0 e1 e2 e3 e4 e5 e6 e7 f8
  go_enter Try.func51, Try.ntmps51
  go_wp2
  go_ret
  exact ⟨rfl, HL.out⟩

set_option maxRecDepth 100000 in
set_option maxHeartbeats 2000000 in
theorem SameMsg_c9 {w : World} {ax ay : Ax} {x y : Ms} {P Q : Nat → Prop} (hx : MsV w P ax x) (hy : MsV w Q ay y) (e0 : x.kind = y.kind) (e1 : x.grp = y.grp) (e2 : x.frm = y.frm) (e3 : x.to = y.to) (e4 : x.term = y.term) (e5 : x.at_ = y.at_) (e6 : x.att = y.att) (e7 : x.commit = y.commit) (e8 : x.ok = y.ok)  : Calls Try.prog 51 #[msA ax x, msA ay y] w fun e w' => e = .returned (.bool (eqMs x y)) ∧ Below w.heap.size w w' := by
  have HS := two_boxes w ax ay x y
  have HL : Hid (Below w.heap.size w ((w.alloc (Obj.cells #[.int .i64 x.kind, .int .i64 x.grp, .int .i64 x.frm, .int .i64 x.to, .int .i64 x.term, .int .i64 x.at_, .int .i64 x.att, .int .i64 x.commit, .bool x.ok, .slice ax.ea x.ents.length ax.ec, .slice ax.da x.data.length ax.dc] 51)).alloc (Obj.cells #[.int .i64 y.kind, .int .i64 y.grp, .int .i64 y.frm, .int .i64 y.to, .int .i64 y.term, .int .i64 y.at_, .int .i64 y.att, .int .i64 y.commit, .bool y.ok, .slice ay.ea y.ents.length ay.ec, .slice ay.da y.data.length ay.dc] 51))) := HS.2.2
  obtain ⟨⟨p0, p1, p2, p3, p4, p5, p6, p7, p8, p9, p10, pf⟩, ⟨q0, q1, q2, q3, q4, q5, q6, q7, q8, q9, q10, qf⟩, _⟩ := id HS
  have hp := HS.1.lt
  have hq := HS.2.1.lt
  have x0 : (x.kind == y.kind) = true := by simp [e0]
  have y0 : (x.kind != y.kind) = false := by simp [e0]
  have x1 : (x.grp == y.grp) = true := by simp [e1]
  have y1 : (x.grp != y.grp) = false := by simp [e1]
  have x2 : (x.frm == y.frm) = true := by simp [e2]
  have y2 : (x.frm != y.frm) = false := by simp [e2]
  have x3 : (x.to == y.to) = true := by simp [e3]
  have y3 : (x.to != y.to) = false := by simp [e3]
  have x4 : (x.term == y.term) = true := by simp [e4]
  have y4 : (x.term != y.term) = false := by simp [e4]
  have x5 : (x.at_ == y.at_) = true := by simp [e5]
  have y5 : (x.at_ != y.at_) = false := by simp [e5]
  have x6 : (x.att == y.att) = true := by simp [e6]
  have y6 : (x.att != y.att) = false := by simp [e6]
  have x7 : (x.commit == y.commit) = true := by simp [e7]
  have y7 : (x.commit != y.commit) = false := by simp [e7]
  have x8 : (x.ok == y.ok) = true := by simp [e8]
  have y8 : (x.ok != y.ok) = false := by simp [e8]
  have HX : Hid (∀ wr, Below w.heap.size w wr → Calls Try.prog 59 #[.slice ax.ea x.ents.length ax.ec, .slice ay.ea y.ents.length ay.ec] wr fun e w' => e = .returned (.bool (decide (x.ents = y.ents))) ∧ Below wr.heap.size wr w') := fun wr q => Entries_any _ _ _ _ _ _ _ _ wr (hx.below q).e (hy.below q).e
  have HC : Hid (∀ wr, Below w.heap.size w wr → (convert 27 9 (.slice ax.da x.data.length ax.dc)).run Try.prog wr = .ok (.string (str x.data)) wr ∧ (convert 27 9 (.slice ay.da y.data.length ay.dc)).run Try.prog wr = .ok (.string (str y.data)) wr) := fun wr q => ⟨convert_str (hx.below q).d, convert_str (hy.below q).d⟩
  have HD := str_same x.data y.data
  have HY : Hid (decide (x.ents = y.ents) = false → eqMs x y = false) := fun q => eqMs_no fun e => by rw [e] at q; simp at q
  have HZ : Hid (decide (x.ents = y.ents) = true → eqMs x y = decide (x.data = y.data)) := fun q => by unfold eqMs; rw [q]; simp [e0, e1, e2, e3, e4, e5, e6, e7, e8]
  unfold msA
  clear hx hy HS e0 e1 e2 e3 e4 e5 e6 e7 e8 
  have HP : Hid (Xc ((w.alloc (Obj.cells #[.int .i64 x.kind, .int .i64 x.grp, .int .i64 x.frm, .int .i64 x.to, .int .i64 x.term, .int .i64 x.at_, .int .i64 x.att, .int .i64 x.commit, .bool x.ok, .slice ax.ea x.ents.length ax.ec, .slice ax.da x.data.length ax.dc] 51)).alloc (Obj.cells #[.int .i64 y.kind, .int .i64 y.grp, .int .i64 y.frm, .int .i64 y.to, .int .i64 y.term, .int .i64 y.at_, .int .i64 y.att, .int .i64 y.commit, .bool y.ok, .slice ay.ea y.ents.length ay.ec, .slice ay.da y.data.length ay.dc] 51)) w.heap.size ax x ∧ Xc ((w.alloc (Obj.cells #[.int .i64 x.kind, .int .i64 x.grp, .int .i64 x.frm, .int .i64 x.to, .int .i64 x.term, .int .i64 x.at_, .int .i64 x.att, .int .i64 x.commit, .bool x.ok, .slice ax.ea x.ents.length ax.ec, .slice ax.da x.data.length ax.dc] 51)).alloc (Obj.cells #[.int .i64 y.kind, .int .i64 y.grp, .int .i64 y.frm, .int .i64 y.to, .int .i64 y.term, .int .i64 y.at_, .int .i64 y.att, .int .i64 y.commit, .bool y.ok, .slice ay.ea y.ents.length ay.ec, .slice ay.da y.data.length ay.dc] 51)) (w.heap.size + 1) ay y) := ⟨⟨p0, p1, p2, p3, p4, p5, p6, p7, p8, p9, p10, pf⟩, ⟨q0, q1, q2, q3, q4, q5, q6, q7, q8, q9, q10, qf⟩⟩
  generalize eqMs x y = r at *
  generalize decide (x.ents = y.ents) = r1 at *
  generalize decide (x.data = y.data) = r2 at *
  generalize str x.data = s1 at *
  generalize str y.data = s2 at *
  cases r1
  all_goals (
    go_enter Try.func51, Try.ntmps51
    go_wp2_with (first
      | (go_at_call 59; refine (HX.out _ HL.out).mono ?_; rintro e w1 ⟨rfl, qB⟩; have HB1 : Hid (Below w.heap.size w w1) := HL.out.trans (qB.mono (by have := HL.out.size; omega)); have HP1 := And.intro (HP.out.1.kept (qB.block _ hp)) (HP.out.2.kept (qB.block _ hq)); obtain ⟨⟨p0, p1, p2, p3, p4, p5, p6, p7, p8, p9, p10, pf⟩, ⟨q0, q1, q2, q3, q4, q5, q6, q7, q8, q9, q10, qf⟩⟩ := id HP1; have hp1 := HP1.1.lt; have hq1 := HP1.2.lt; have c1 := (HC.out _ HB1.out).1; have c2 := (HC.out _ HB1.out).2; clear HP1; clear qB)
      | (simp only [c1, c2]))
    go_ret
    first
      | exact ⟨by rw [HY.out (by trivial)]; rfl, HB1.out⟩
      | exact ⟨by rw [HZ.out (by trivial)]; rfl, HB1.out⟩)

theorem SameMsg_any {w : World} {ax ay : Ax} {x y : Ms} {P Q : Nat → Prop} (hx : MsV w P ax x) (hy : MsV w Q ay y) : Calls Try.prog 51 #[msA ax x, msA ay y] w fun e w' => e = .returned (.bool (eqMs x y)) ∧ Below w.heap.size w w' := by
  by_cases e0 : x.kind = y.kind
  · by_cases e1 : x.grp = y.grp
    · by_cases e2 : x.frm = y.frm
      · by_cases e3 : x.to = y.to
        · by_cases e4 : x.term = y.term
          · by_cases e5 : x.at_ = y.at_
            · by_cases e6 : x.att = y.att
              · by_cases e7 : x.commit = y.commit
                · by_cases e8 : x.ok = y.ok
                  · exact SameMsg_c9 hx hy e0 e1 e2 e3 e4 e5 e6 e7 e8
                  · exact SameMsg_c8 hx hy e0 e1 e2 e3 e4 e5 e6 e7 e8
                · exact SameMsg_c7 hx hy e0 e1 e2 e3 e4 e5 e6 e7
              · exact SameMsg_c6 hx hy e0 e1 e2 e3 e4 e5 e6
            · exact SameMsg_c5 hx hy e0 e1 e2 e3 e4 e5
          · exact SameMsg_c4 hx hy e0 e1 e2 e3 e4
        · exact SameMsg_c3 hx hy e0 e1 e2 e3
      · exact SameMsg_c2 hx hy e0 e1 e2
    · exact SameMsg_c1 hx hy e0 e1
  · exact SameMsg_c0 hx hy e0
end
section
open Go.RowKit
set_option linter.unusedVariables false
set_option linter.unusedSimpArgs false


/-- Are messages the same? -/
def eqMss : List Ms → List Ms → Bool
  | [], [] => true
  | x :: l, y :: m => eqMs x y && eqMss l m
  | _, _ => false
theorem eqMss_iff : ∀ {l m : List Ms}, eqMss l m = true ↔ l = m
  | [], [] => by simp [eqMss]
  | [], _ :: _ => by simp [eqMss]
  | _ :: _, [] => by simp [eqMss]
  | x :: l, y :: m => by simp only [eqMss, Bool.and_eq_true, eqMs_iff, eqMss_iff, List.cons.injEq]
theorem eqMss_no {l m : List Ms} (h : ¬ l = m) : eqMss l m = false := by
  cases e : eqMss l m with
  | false => rfl
  | true => exact absurd (eqMss_iff.1 e) h
theorem msgs_no {l m : List Ms} {i : Nat} (h : eqMs (l.getD i zMs) (m.getD i zMs) = false) : eqMss l m = false := eqMss_no fun e => by subst e; rw [eqMs_iff.2 rfl] at h; cases h
theorem msgs_yes {l m : List Ms} (hl : l.length = m.length) (h : ∀ j, j < l.length → eqMs (l.getD j zMs) (m.getD j zMs) = true) : eqMss l m = true := eqMss_iff.2 (List.ext_getElem hl fun j h1 h2 => by
  have := eqMs_iff.1 (h j h1)
  rw [List.getD_eq_getElem?_getD, List.getD_eq_getElem?_getD, List.getElem?_eq_getElem h1, List.getElem?_eq_getElem h2] at this
  exact this)
/-- One of them: its cells. -/
theorem RwV.msg {w : World} {P : Nat → Prop} {a : Option Addr} {c : Nat} {l : List Ms} (h : RwV msR w P a c l) {i : Nat} (hi : i < l.length) : ∃ (b o : Nat) (ax : Ax), a = some ⟨b, o, none⟩ ∧ b < w.heap.size ∧ MsV w P ax (l.getD i zMs) ∧ w.cell? ⟨b, o + i * 11, none⟩ = some (.int .i64 (l.getD i zMs).kind) ∧ w.cell? ⟨b, o + i * 11 + 1, none⟩ = some (.int .i64 (l.getD i zMs).grp) ∧ w.cell? ⟨b, o + i * 11 + 2, none⟩ = some (.int .i64 (l.getD i zMs).frm) ∧ w.cell? ⟨b, o + i * 11 + 3, none⟩ = some (.int .i64 (l.getD i zMs).to) ∧ w.cell? ⟨b, o + i * 11 + 4, none⟩ = some (.int .i64 (l.getD i zMs).term) ∧ w.cell? ⟨b, o + i * 11 + 5, none⟩ = some (.int .i64 (l.getD i zMs).at_) ∧ w.cell? ⟨b, o + i * 11 + 6, none⟩ = some (.int .i64 (l.getD i zMs).att) ∧ w.cell? ⟨b, o + i * 11 + 7, none⟩ = some (.int .i64 (l.getD i zMs).commit) ∧ w.cell? ⟨b, o + i * 11 + 8, none⟩ = some (.bool (l.getD i zMs).ok) ∧ w.cell? ⟨b, o + i * 11 + 9, none⟩ = some (.slice ax.ea (l.getD i zMs).ents.length ax.ec) ∧ w.cell? ⟨b, o + i * 11 + 10, none⟩ = some (.slice ax.da (l.getD i zMs).data.length ax.dc) := by
  obtain ⟨b, o, us, ⟨q1, q2⟩, q3, ax, rfl, q5⟩ := h.2.2.2 i hi
  have hc : ∀ j u, (msCells ax (l.getD i zMs))[j]? = some u → w.cell? ⟨b, o + i * 11 + j, none⟩ = some u := fun j u hu => by
    have hj : j < 11 := by
      obtain ⟨z, _⟩ := List.getElem?_eq_some_iff.1 hu
      exact z
    exact (q3 j hj).trans hu
  exact ⟨b, o, ax, q1, World.block_lt_of_cell? _ _ (hc 0 _ rfl), q5, hc 0 _ rfl, hc 1 _ rfl, hc 2 _ rfl, hc 3 _ rfl, hc 4 _ rfl, hc 5 _ rfl, hc 6 _ rfl, hc 7 _ rfl, hc 8 _ rfl, hc 9 _ rfl, hc 10 _ rfl⟩
set_option maxRecDepth 100000 in
set_option maxHeartbeats 2000000 in
theorem SameMsgs_any (P Q : Nat → Prop) (a a2 : Option Addr) (c c2 : Nat) (l m : List Ms) (w : World) (hv : RwV msR w P a c l) (hu : RwV msR w Q a2 c2 m) : Calls Try.prog 37 #[.slice a l.length c, .slice a2 m.length c2] w fun e w' => e = .returned (.bool (eqMss l m)) ∧ Below w.heap.size w w' := by
  have h1 := hv.cap1
  have h2 := hv.cap2
  have h3 := hu.cap1
  have h4 := hu.cap2
  by_cases hl : l.length = m.length
  · have HY : Hid ((∀ j, j < l.length → eqMs (l.getD j zMs) (m.getD j zMs) = true) → eqMss l m = true) := fun q => msgs_yes hl q
    have HN : Hid (∀ i, eqMs (l.getD i zMs) (m.getD i zMs) = false → eqMss l m = false) := fun i q => msgs_no q
    have HC : Hid (∀ wr i, Below w.heap.size w wr → i < l.length → ∃ (g o g2 o2 : Nat) (ax ay : Ax), a = some ⟨g, o, none⟩ ∧ a2 = some ⟨g2, o2, none⟩ ∧ g < wr.heap.size ∧ g2 < wr.heap.size ∧ Hid (∀ we, Below wr.heap.size wr we → Calls Try.prog 51 #[.agg #[.int .i64 (l.getD i zMs).kind, .int .i64 (l.getD i zMs).grp, .int .i64 (l.getD i zMs).frm, .int .i64 (l.getD i zMs).to, .int .i64 (l.getD i zMs).term, .int .i64 (l.getD i zMs).at_, .int .i64 (l.getD i zMs).att, .int .i64 (l.getD i zMs).commit, .bool (l.getD i zMs).ok, .slice ax.ea (l.getD i zMs).ents.length ax.ec, .slice ax.da (l.getD i zMs).data.length ax.dc], .agg #[.int .i64 (m.getD i zMs).kind, .int .i64 (m.getD i zMs).grp, .int .i64 (m.getD i zMs).frm, .int .i64 (m.getD i zMs).to, .int .i64 (m.getD i zMs).term, .int .i64 (m.getD i zMs).at_, .int .i64 (m.getD i zMs).att, .int .i64 (m.getD i zMs).commit, .bool (m.getD i zMs).ok, .slice ay.ea (m.getD i zMs).ents.length ay.ec, .slice ay.da (m.getD i zMs).data.length ay.dc]] we fun e w' => e = .returned (.bool (eqMs (l.getD i zMs) (m.getD i zMs))) ∧ Below we.heap.size we w') ∧ (wr.cell? ⟨g, o + i * 11, none⟩ = some (.int .i64 (l.getD i zMs).kind) ∧ wr.cell? ⟨g, o + i * 11 + 1, none⟩ = some (.int .i64 (l.getD i zMs).grp) ∧ wr.cell? ⟨g, o + i * 11 + 2, none⟩ = some (.int .i64 (l.getD i zMs).frm) ∧ wr.cell? ⟨g, o + i * 11 + 3, none⟩ = some (.int .i64 (l.getD i zMs).to) ∧ wr.cell? ⟨g, o + i * 11 + 4, none⟩ = some (.int .i64 (l.getD i zMs).term) ∧ wr.cell? ⟨g, o + i * 11 + 5, none⟩ = some (.int .i64 (l.getD i zMs).at_) ∧ wr.cell? ⟨g, o + i * 11 + 6, none⟩ = some (.int .i64 (l.getD i zMs).att) ∧ wr.cell? ⟨g, o + i * 11 + 7, none⟩ = some (.int .i64 (l.getD i zMs).commit) ∧ wr.cell? ⟨g, o + i * 11 + 8, none⟩ = some (.bool (l.getD i zMs).ok) ∧ wr.cell? ⟨g, o + i * 11 + 9, none⟩ = some (.slice ax.ea (l.getD i zMs).ents.length ax.ec) ∧ wr.cell? ⟨g, o + i * 11 + 10, none⟩ = some (.slice ax.da (l.getD i zMs).data.length ax.dc)) ∧ (wr.cell? ⟨g2, o2 + i * 11, none⟩ = some (.int .i64 (m.getD i zMs).kind) ∧ wr.cell? ⟨g2, o2 + i * 11 + 1, none⟩ = some (.int .i64 (m.getD i zMs).grp) ∧ wr.cell? ⟨g2, o2 + i * 11 + 2, none⟩ = some (.int .i64 (m.getD i zMs).frm) ∧ wr.cell? ⟨g2, o2 + i * 11 + 3, none⟩ = some (.int .i64 (m.getD i zMs).to) ∧ wr.cell? ⟨g2, o2 + i * 11 + 4, none⟩ = some (.int .i64 (m.getD i zMs).term) ∧ wr.cell? ⟨g2, o2 + i * 11 + 5, none⟩ = some (.int .i64 (m.getD i zMs).at_) ∧ wr.cell? ⟨g2, o2 + i * 11 + 6, none⟩ = some (.int .i64 (m.getD i zMs).att) ∧ wr.cell? ⟨g2, o2 + i * 11 + 7, none⟩ = some (.int .i64 (m.getD i zMs).commit) ∧ wr.cell? ⟨g2, o2 + i * 11 + 8, none⟩ = some (.bool (m.getD i zMs).ok) ∧ wr.cell? ⟨g2, o2 + i * 11 + 9, none⟩ = some (.slice ay.ea (m.getD i zMs).ents.length ay.ec) ∧ wr.cell? ⟨g2, o2 + i * 11 + 10, none⟩ = some (.slice ay.da (m.getD i zMs).data.length ay.dc))) := fun wr i q hi => by
      obtain ⟨g, o, ax, q1, q2, q3, q4⟩ := (hv.below q).msg hi
      obtain ⟨g2, o2, ay, r1, r2, r3, r4⟩ := (hu.below q).msg (show i < m.length by omega)
      exact ⟨g, o, g2, o2, ax, ay, q1, r1, q2, r2, fun we qe => SameMsg_any (q3.below qe) (r3.below qe), q4, r4⟩
    rw [← hl] at h3 ⊢
    generalize eqMss l m = r at *
    generalize l.length = n at *
    clear hl hv hu
    go_enter Try.func37, Try.ntmps37
    go_wp2
    go_loopw [5] (fun x wr => ∃ (i : Nat), i ≤ n ∧ x = .int .i64 i ∧ Hid (Below w.heap.size w wr ∧ ∀ j, j < i → eqMs (l.getD j zMs) (m.getD j zMs) = true)) (fun x _ => n - (intOf x).toNat)
    case atStart => exact ⟨0, Nat.zero_le _, rfl, Below.refl _ _, fun j hj => absurd hj (Nat.not_lt_zero _)⟩
    case round =>
      obtain ⟨i, hi, rfl, HR⟩ := hrel
      by_cases hlt : i < n
      · obtain ⟨g, o, g2, o2, ax, ay, rfl, rfl, hg, hg2, HS, ⟨p0, p1, p2, p3, p4, p5, p6, p7, p8, p9, p10⟩, ⟨q0, q1, q2, q3, q4, q5, q6, q7, q8, q9, q10⟩⟩ := HC.out wr i HR.out.1 hlt
        have HF : Hid (eqMs (l.getD i zMs) (m.getD i zMs) = false → r = false) := fun q => HN.out i q
        have HG : Hid (eqMs (l.getD i zMs) (m.getD i zMs) = true → ∀ j, j < i + 1 → eqMs (l.getD j zMs) (m.getD j zMs) = true) := fun q j hj => by
          by_cases e : j = i
          · subst e; exact q
          · exact HR.out.2 j (by omega)
        have HB : Hid (Below w.heap.size w wr) := HR.out.1
        clear HC HN HR HY
        generalize eqMs (l.getD i zMs) (m.getD i zMs) = r1 at *
        generalize l.getD i zMs = x at *
        generalize m.getD i zMs = y at *
        have HW : Hid (∀ we, Below wr.heap.size wr we → (we.cell? ⟨g, o + i * 11, none⟩ = some (.int .i64 x.kind) ∧ we.cell? ⟨g, o + i * 11 + 1, none⟩ = some (.int .i64 x.grp) ∧ we.cell? ⟨g, o + i * 11 + 2, none⟩ = some (.int .i64 x.frm) ∧ we.cell? ⟨g, o + i * 11 + 3, none⟩ = some (.int .i64 x.to) ∧ we.cell? ⟨g, o + i * 11 + 4, none⟩ = some (.int .i64 x.term) ∧ we.cell? ⟨g, o + i * 11 + 5, none⟩ = some (.int .i64 x.at_) ∧ we.cell? ⟨g, o + i * 11 + 6, none⟩ = some (.int .i64 x.att) ∧ we.cell? ⟨g, o + i * 11 + 7, none⟩ = some (.int .i64 x.commit) ∧ we.cell? ⟨g, o + i * 11 + 8, none⟩ = some (.bool x.ok) ∧ we.cell? ⟨g, o + i * 11 + 9, none⟩ = some (.slice ax.ea x.ents.length ax.ec) ∧ we.cell? ⟨g, o + i * 11 + 10, none⟩ = some (.slice ax.da x.data.length ax.dc)) ∧ (we.cell? ⟨g2, o2 + i * 11, none⟩ = some (.int .i64 y.kind) ∧ we.cell? ⟨g2, o2 + i * 11 + 1, none⟩ = some (.int .i64 y.grp) ∧ we.cell? ⟨g2, o2 + i * 11 + 2, none⟩ = some (.int .i64 y.frm) ∧ we.cell? ⟨g2, o2 + i * 11 + 3, none⟩ = some (.int .i64 y.to) ∧ we.cell? ⟨g2, o2 + i * 11 + 4, none⟩ = some (.int .i64 y.term) ∧ we.cell? ⟨g2, o2 + i * 11 + 5, none⟩ = some (.int .i64 y.at_) ∧ we.cell? ⟨g2, o2 + i * 11 + 6, none⟩ = some (.int .i64 y.att) ∧ we.cell? ⟨g2, o2 + i * 11 + 7, none⟩ = some (.int .i64 y.commit) ∧ we.cell? ⟨g2, o2 + i * 11 + 8, none⟩ = some (.bool y.ok) ∧ we.cell? ⟨g2, o2 + i * 11 + 9, none⟩ = some (.slice ay.ea y.ents.length ay.ec) ∧ we.cell? ⟨g2, o2 + i * 11 + 10, none⟩ = some (.slice ay.da y.data.length ay.dc))) := fun we q => ⟨⟨(cell_kept (q.block g hg) _).trans p0, (cell_kept (q.block g hg) _).trans p1, (cell_kept (q.block g hg) _).trans p2, (cell_kept (q.block g hg) _).trans p3, (cell_kept (q.block g hg) _).trans p4, (cell_kept (q.block g hg) _).trans p5, (cell_kept (q.block g hg) _).trans p6, (cell_kept (q.block g hg) _).trans p7, (cell_kept (q.block g hg) _).trans p8, (cell_kept (q.block g hg) _).trans p9, (cell_kept (q.block g hg) _).trans p10⟩, ⟨(cell_kept (q.block g2 hg2) _).trans q0, (cell_kept (q.block g2 hg2) _).trans q1, (cell_kept (q.block g2 hg2) _).trans q2, (cell_kept (q.block g2 hg2) _).trans q3, (cell_kept (q.block g2 hg2) _).trans q4, (cell_kept (q.block g2 hg2) _).trans q5, (cell_kept (q.block g2 hg2) _).trans q6, (cell_kept (q.block g2 hg2) _).trans q7, (cell_kept (q.block g2 hg2) _).trans q8, (cell_kept (q.block g2 hg2) _).trans q9, (cell_kept (q.block g2 hg2) _).trans q10⟩⟩
        go_wp2
        go_region_held3 (fun w' => (w'.cell? ⟨g, o + i * 11, none⟩ = some (.int .i64 x.kind) ∧ w'.cell? ⟨g, o + i * 11 + 1, none⟩ = some (.int .i64 x.grp) ∧ w'.cell? ⟨g, o + i * 11 + 2, none⟩ = some (.int .i64 x.frm) ∧ w'.cell? ⟨g, o + i * 11 + 3, none⟩ = some (.int .i64 x.to) ∧ w'.cell? ⟨g, o + i * 11 + 4, none⟩ = some (.int .i64 x.term) ∧ w'.cell? ⟨g, o + i * 11 + 5, none⟩ = some (.int .i64 x.at_) ∧ w'.cell? ⟨g, o + i * 11 + 6, none⟩ = some (.int .i64 x.att) ∧ w'.cell? ⟨g, o + i * 11 + 7, none⟩ = some (.int .i64 x.commit) ∧ w'.cell? ⟨g, o + i * 11 + 8, none⟩ = some (.bool x.ok) ∧ w'.cell? ⟨g, o + i * 11 + 9, none⟩ = some (.slice ax.ea x.ents.length ax.ec) ∧ w'.cell? ⟨g, o + i * 11 + 10, none⟩ = some (.slice ax.da x.data.length ax.dc)) ∧ (w'.cell? ⟨g2, o2 + i * 11, none⟩ = some (.int .i64 y.kind) ∧ w'.cell? ⟨g2, o2 + i * 11 + 1, none⟩ = some (.int .i64 y.grp) ∧ w'.cell? ⟨g2, o2 + i * 11 + 2, none⟩ = some (.int .i64 y.frm) ∧ w'.cell? ⟨g2, o2 + i * 11 + 3, none⟩ = some (.int .i64 y.to) ∧ w'.cell? ⟨g2, o2 + i * 11 + 4, none⟩ = some (.int .i64 y.term) ∧ w'.cell? ⟨g2, o2 + i * 11 + 5, none⟩ = some (.int .i64 y.at_) ∧ w'.cell? ⟨g2, o2 + i * 11 + 6, none⟩ = some (.int .i64 y.att) ∧ w'.cell? ⟨g2, o2 + i * 11 + 7, none⟩ = some (.int .i64 y.commit) ∧ w'.cell? ⟨g2, o2 + i * 11 + 8, none⟩ = some (.bool y.ok) ∧ w'.cell? ⟨g2, o2 + i * 11 + 9, none⟩ = some (.slice ay.ea y.ents.length ay.ec) ∧ w'.cell? ⟨g2, o2 + i * 11 + 10, none⟩ = some (.slice ay.da y.data.length ay.dc))) (go_keep) (first
          | (go_at_call 51; refine (HS.out _ (by first | exact (Below.refl _ _).drew | exact below_drewN (Below.refl _ _) _ | exact Below.refl _ _)).mono ?_; rintro e w1 ⟨rfl, qB⟩; have HV : Hid (Below wr.heap.size wr w1) := (Below.refl _ _).drew.trans qB; obtain ⟨⟨k0, k1, k2, k3, k4, k5, k6, k7, k8, k9, k10⟩, ⟨j0, j1, j2, j3, j4, j5, j6, j7, j8, j9, j10⟩⟩ := HW.out _ HV.out; clear qB))
        clear p0 p1 p2 p3 p4 p5 p6 p7 p8 p9 p10 q0 q1 q2 q3 q4 q5 q6 q7 q8 q9 q10 k0 k1 k2 k3 k4 k5 k6 k7 k8 k9 k10 j0 j1 j2 j3 j4 j5 j6 j7 j8 j9 j10 HW HS
        cases r1
        · go_wp2
          go_ret
          exact ⟨by rw [HF.out (by trivial)]; rfl, HB.out.trans (HV.out.mono HB.out.size)⟩
        · go_wp2
          go_roundw
          case rel => exact ⟨i + 1, by omega, by go_num, HB.out.trans (HV.out.mono HB.out.size), HG.out (by trivial)⟩
          case measure => simp [intOf]; omega
      · have HT : Hid (r = true) := HY.out fun j hj => HR.out.2 j (by omega)
        have HB : Hid (Below w.heap.size w wr) := HR.out.1
        clear HC HN HR HY
        go_wp2
        go_ret
        exact ⟨by rw [HT.out]; rfl, HB.out⟩
  · rw [eqMss_no fun e => hl (by rw [e])]
    have hl1 : ((l.length : Int) == m.length) = false := beq_eq_false_iff_ne.2 (by omega)
    have hl2 : ((l.length : Int) != m.length) = true := by rw [bne, hl1]; rfl
    generalize l.length = n at *
    generalize m.length = n2 at *
    clear hv hu
    go_enter Try.func37, Try.ntmps37
    go_wp2
    go_ret
    exact ⟨rfl, Below.refl _ _⟩
end
end Go.Proofs.Ytcaddedkodjgcaa
