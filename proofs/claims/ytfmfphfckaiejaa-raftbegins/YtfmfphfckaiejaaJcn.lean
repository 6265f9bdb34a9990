/-
  The document's Same of members, case by case.
-/
import Derived.Test.YtfmfphfckaiejaaJbi
import Derived.Test.YtfmfphfckaiejaaJbc
namespace Go.Proofs.Ytfmfphfckaiejaa
section
open Go.RowKit
set_option linter.unusedVariables false
set_option linter.unusedSimpArgs false


set_option maxRecDepth 100000 in
set_option maxHeartbeats 2000000 in
theorem RSame_c0 {w : World} {s s2 : Ad} {m m2 : Mb} (hm : MbV w (fun _ => True) s m) (hm2 : MbV w (fun _ => True) s2 m2)  (f0 : ¬ m.id = m2.id) : Calls Try.prog 13 #[mbA s m, mbA s2 m2] w fun e w' => e = .returned (.bool (eqMb m m2)) ∧ Below w.heap.size w w' := by
  have HE : Hid (eqMb m m2 = false) := by
    show _ = _
    cases h : eqMb m m2 with
    | false => rfl
    | true =>
      have h2 := eqMb_iff.1 h
      subst h2
      exact absurd rfl f0
  have HS00 : Hid (Sb w ((w.alloc (.cells #[.int .i64 m.id, .int .i64 m.n, .int .i64 m.term, .int .i64 m.vote, .int .i64 m.role, .int .i64 m.lead, .int .i64 m.b, .int .i64 m.bt, .slice s.ea m.es.length s.ec, .int .i64 m.commit, .slice s.sa m.snap.length s.sc, .slice s.ga m.granted.length s.gc, .slice s.xa m.next.length s.xc, .slice s.ma m.mtch.length s.mc, .int .i64 m.clock, .int .i64 m.wait] 31)).alloc (.cells #[.int .i64 m2.id, .int .i64 m2.n, .int .i64 m2.term, .int .i64 m2.vote, .int .i64 m2.role, .int .i64 m2.lead, .int .i64 m2.b, .int .i64 m2.bt, .slice s2.ea m2.es.length s2.ec, .int .i64 m2.commit, .slice s2.sa m2.snap.length s2.sc, .slice s2.ga m2.granted.length s2.gc, .slice s2.xa m2.next.length s2.xc, .slice s2.ma m2.mtch.length s2.mc, .int .i64 m2.clock, .int .i64 m2.wait] 31)) s m s2 m2) := Sb.first w s m s2 m2
  have x0 : (m.id == m2.id) = false := beq_eq_false_iff_ne.2 f0
  have y0 : (m.id != m2.id) = true := by rw [bne, x0]; rfl
  rw [HE.out]
  clear hm hm2 HE  f0
  unfold mbA
  obtain ⟨p0, p1, p2, p3, p4, p5, p6, p7, p8, p9, p10, p11, p12, p13, p14, p15, pf⟩ := HS00.out.p
  obtain ⟨q0, q1, q2, q3, q4, q5, q6, q7, q8, q9, q10, q11, q12, q13, q14, q15, qf⟩ := HS00.out.q
  have hp0 : w.heap.size < ((w.alloc (.cells #[.int .i64 m.id, .int .i64 m.n, .int .i64 m.term, .int .i64 m.vote, .int .i64 m.role, .int .i64 m.lead, .int .i64 m.b, .int .i64 m.bt, .slice s.ea m.es.length s.ec, .int .i64 m.commit, .slice s.sa m.snap.length s.sc, .slice s.ga m.granted.length s.gc, .slice s.xa m.next.length s.xc, .slice s.ma m.mtch.length s.mc, .int .i64 m.clock, .int .i64 m.wait] 31)).alloc (.cells #[.int .i64 m2.id, .int .i64 m2.n, .int .i64 m2.term, .int .i64 m2.vote, .int .i64 m2.role, .int .i64 m2.lead, .int .i64 m2.b, .int .i64 m2.bt, .slice s2.ea m2.es.length s2.ec, .int .i64 m2.commit, .slice s2.sa m2.snap.length s2.sc, .slice s2.ga m2.granted.length s2.gc, .slice s2.xa m2.next.length s2.xc, .slice s2.ma m2.mtch.length s2.mc, .int .i64 m2.clock, .int .i64 m2.wait] 31)).heap.size := HS00.out.p.lt
  have hq0 : w.heap.size + 1 < ((w.alloc (.cells #[.int .i64 m.id, .int .i64 m.n, .int .i64 m.term, .int .i64 m.vote, .int .i64 m.role, .int .i64 m.lead, .int .i64 m.b, .int .i64 m.bt, .slice s.ea m.es.length s.ec, .int .i64 m.commit, .slice s.sa m.snap.length s.sc, .slice s.ga m.granted.length s.gc, .slice s.xa m.next.length s.xc, .slice s.ma m.mtch.length s.mc, .int .i64 m.clock, .int .i64 m.wait] 31)).alloc (.cells #[.int .i64 m2.id, .int .i64 m2.n, .int .i64 m2.term, .int .i64 m2.vote, .int .i64 m2.role, .int .i64 m2.lead, .int .i64 m2.b, .int .i64 m2.bt, .slice s2.ea m2.es.length s2.ec, .int .i64 m2.commit, .slice s2.sa m2.snap.length s2.sc, .slice s2.ga m2.granted.length s2.gc, .slice s2.xa m2.next.length s2.xc, .slice s2.ma m2.mtch.length s2.mc, .int .i64 m2.clock, .int .i64 m2.wait] 31)).heap.size := HS00.out.q.lt
  go_enter Try.func13, Try.ntmps13
  go_wp2
  go_ret
  exact ⟨rfl, HS00.out.l⟩
set_option maxRecDepth 100000 in
set_option maxHeartbeats 2000000 in
theorem RSame_c1 {w : World} {s s2 : Ad} {m m2 : Mb} (hm : MbV w (fun _ => True) s m) (hm2 : MbV w (fun _ => True) s2 m2) (e0 : m.id = m2.id) (f1 : ¬ m.n = m2.n) : Calls Try.prog 13 #[mbA s m, mbA s2 m2] w fun e w' => e = .returned (.bool (eqMb m m2)) ∧ Below w.heap.size w w' := by
  have HE : Hid (eqMb m m2 = false) := by
    show _ = _
    cases h : eqMb m m2 with
    | false => rfl
    | true =>
      have h2 := eqMb_iff.1 h
      subst h2
      exact absurd rfl f1
  have HS00 : Hid (Sb w ((w.alloc (.cells #[.int .i64 m.id, .int .i64 m.n, .int .i64 m.term, .int .i64 m.vote, .int .i64 m.role, .int .i64 m.lead, .int .i64 m.b, .int .i64 m.bt, .slice s.ea m.es.length s.ec, .int .i64 m.commit, .slice s.sa m.snap.length s.sc, .slice s.ga m.granted.length s.gc, .slice s.xa m.next.length s.xc, .slice s.ma m.mtch.length s.mc, .int .i64 m.clock, .int .i64 m.wait] 31)).alloc (.cells #[.int .i64 m2.id, .int .i64 m2.n, .int .i64 m2.term, .int .i64 m2.vote, .int .i64 m2.role, .int .i64 m2.lead, .int .i64 m2.b, .int .i64 m2.bt, .slice s2.ea m2.es.length s2.ec, .int .i64 m2.commit, .slice s2.sa m2.snap.length s2.sc, .slice s2.ga m2.granted.length s2.gc, .slice s2.xa m2.next.length s2.xc, .slice s2.ma m2.mtch.length s2.mc, .int .i64 m2.clock, .int .i64 m2.wait] 31)) s m s2 m2) := Sb.first w s m s2 m2
  have x0 : (m.id == m2.id) = true := by simp [e0]
  have y0 : (m.id != m2.id) = false := by simp [e0]
  have x1 : (m.n == m2.n) = false := beq_eq_false_iff_ne.2 f1
  have y1 : (m.n != m2.n) = true := by rw [bne, x1]; rfl
  rw [HE.out]
  clear hm hm2 HE e0 f1
  unfold mbA
  obtain ⟨p0, p1, p2, p3, p4, p5, p6, p7, p8, p9, p10, p11, p12, p13, p14, p15, pf⟩ := HS00.out.p
  obtain ⟨q0, q1, q2, q3, q4, q5, q6, q7, q8, q9, q10, q11, q12, q13, q14, q15, qf⟩ := HS00.out.q
  have hp0 : w.heap.size < ((w.alloc (.cells #[.int .i64 m.id, .int .i64 m.n, .int .i64 m.term, .int .i64 m.vote, .int .i64 m.role, .int .i64 m.lead, .int .i64 m.b, .int .i64 m.bt, .slice s.ea m.es.length s.ec, .int .i64 m.commit, .slice s.sa m.snap.length s.sc, .slice s.ga m.granted.length s.gc, .slice s.xa m.next.length s.xc, .slice s.ma m.mtch.length s.mc, .int .i64 m.clock, .int .i64 m.wait] 31)).alloc (.cells #[.int .i64 m2.id, .int .i64 m2.n, .int .i64 m2.term, .int .i64 m2.vote, .int .i64 m2.role, .int .i64 m2.lead, .int .i64 m2.b, .int .i64 m2.bt, .slice s2.ea m2.es.length s2.ec, .int .i64 m2.commit, .slice s2.sa m2.snap.length s2.sc, .slice s2.ga m2.granted.length s2.gc, .slice s2.xa m2.next.length s2.xc, .slice s2.ma m2.mtch.length s2.mc, .int .i64 m2.clock, .int .i64 m2.wait] 31)).heap.size := HS00.out.p.lt
  have hq0 : w.heap.size + 1 < ((w.alloc (.cells #[.int .i64 m.id, .int .i64 m.n, .int .i64 m.term, .int .i64 m.vote, .int .i64 m.role, .int .i64 m.lead, .int .i64 m.b, .int .i64 m.bt, .slice s.ea m.es.length s.ec, .int .i64 m.commit, .slice s.sa m.snap.length s.sc, .slice s.ga m.granted.length s.gc, .slice s.xa m.next.length s.xc, .slice s.ma m.mtch.length s.mc, .int .i64 m.clock, .int .i64 m.wait] 31)).alloc (.cells #[.int .i64 m2.id, .int .i64 m2.n, .int .i64 m2.term, .int .i64 m2.vote, .int .i64 m2.role, .int .i64 m2.lead, .int .i64 m2.b, .int .i64 m2.bt, .slice s2.ea m2.es.length s2.ec, .int .i64 m2.commit, .slice s2.sa m2.snap.length s2.sc, .slice s2.ga m2.granted.length s2.gc, .slice s2.xa m2.next.length s2.xc, .slice s2.ma m2.mtch.length s2.mc, .int .i64 m2.clock, .int .i64 m2.wait] 31)).heap.size := HS00.out.q.lt
  go_enter Try.func13, Try.ntmps13
  go_wp2
  go_ret
  exact ⟨rfl, HS00.out.l⟩
set_option maxRecDepth 100000 in
set_option maxHeartbeats 2000000 in
theorem RSame_c2 {w : World} {s s2 : Ad} {m m2 : Mb} (hm : MbV w (fun _ => True) s m) (hm2 : MbV w (fun _ => True) s2 m2) (e0 : m.id = m2.id) (e1 : m.n = m2.n) (f2 : ¬ m.term = m2.term) : Calls Try.prog 13 #[mbA s m, mbA s2 m2] w fun e w' => e = .returned (.bool (eqMb m m2)) ∧ Below w.heap.size w w' := by
  have HE : Hid (eqMb m m2 = false) := by
    show _ = _
    cases h : eqMb m m2 with
    | false => rfl
    | true =>
      have h2 := eqMb_iff.1 h
      subst h2
      exact absurd rfl f2
  have HS00 : Hid (Sb w ((w.alloc (.cells #[.int .i64 m.id, .int .i64 m.n, .int .i64 m.term, .int .i64 m.vote, .int .i64 m.role, .int .i64 m.lead, .int .i64 m.b, .int .i64 m.bt, .slice s.ea m.es.length s.ec, .int .i64 m.commit, .slice s.sa m.snap.length s.sc, .slice s.ga m.granted.length s.gc, .slice s.xa m.next.length s.xc, .slice s.ma m.mtch.length s.mc, .int .i64 m.clock, .int .i64 m.wait] 31)).alloc (.cells #[.int .i64 m2.id, .int .i64 m2.n, .int .i64 m2.term, .int .i64 m2.vote, .int .i64 m2.role, .int .i64 m2.lead, .int .i64 m2.b, .int .i64 m2.bt, .slice s2.ea m2.es.length s2.ec, .int .i64 m2.commit, .slice s2.sa m2.snap.length s2.sc, .slice s2.ga m2.granted.length s2.gc, .slice s2.xa m2.next.length s2.xc, .slice s2.ma m2.mtch.length s2.mc, .int .i64 m2.clock, .int .i64 m2.wait] 31)) s m s2 m2) := Sb.first w s m s2 m2
  have x0 : (m.id == m2.id) = true := by simp [e0]
  have y0 : (m.id != m2.id) = false := by simp [e0]
  have x1 : (m.n == m2.n) = true := by simp [e1]
  have y1 : (m.n != m2.n) = false := by simp [e1]
  have x2 : (m.term == m2.term) = false := beq_eq_false_iff_ne.2 f2
  have y2 : (m.term != m2.term) = true := by rw [bne, x2]; rfl
  rw [HE.out]
  clear hm hm2 HE e0 e1 f2
  unfold mbA
  obtain ⟨p0, p1, p2, p3, p4, p5, p6, p7, p8, p9, p10, p11, p12, p13, p14, p15, pf⟩ := HS00.out.p
  obtain ⟨q0, q1, q2, q3, q4, q5, q6, q7, q8, q9, q10, q11, q12, q13, q14, q15, qf⟩ := HS00.out.q
  have hp0 : w.heap.size < ((w.alloc (.cells #[.int .i64 m.id, .int .i64 m.n, .int .i64 m.term, .int .i64 m.vote, .int .i64 m.role, .int .i64 m.lead, .int .i64 m.b, .int .i64 m.bt, .slice s.ea m.es.length s.ec, .int .i64 m.commit, .slice s.sa m.snap.length s.sc, .slice s.ga m.granted.length s.gc, .slice s.xa m.next.length s.xc, .slice s.ma m.mtch.length s.mc, .int .i64 m.clock, .int .i64 m.wait] 31)).alloc (.cells #[.int .i64 m2.id, .int .i64 m2.n, .int .i64 m2.term, .int .i64 m2.vote, .int .i64 m2.role, .int .i64 m2.lead, .int .i64 m2.b, .int .i64 m2.bt, .slice s2.ea m2.es.length s2.ec, .int .i64 m2.commit, .slice s2.sa m2.snap.length s2.sc, .slice s2.ga m2.granted.length s2.gc, .slice s2.xa m2.next.length s2.xc, .slice s2.ma m2.mtch.length s2.mc, .int .i64 m2.clock, .int .i64 m2.wait] 31)).heap.size := HS00.out.p.lt
  have hq0 : w.heap.size + 1 < ((w.alloc (.cells #[.int .i64 m.id, .int .i64 m.n, .int .i64 m.term, .int .i64 m.vote, .int .i64 m.role, .int .i64 m.lead, .int .i64 m.b, .int .i64 m.bt, .slice s.ea m.es.length s.ec, .int .i64 m.commit, .slice s.sa m.snap.length s.sc, .slice s.ga m.granted.length s.gc, .slice s.xa m.next.length s.xc, .slice s.ma m.mtch.length s.mc, .int .i64 m.clock, .int .i64 m.wait] 31)).alloc (.cells #[.int .i64 m2.id, .int .i64 m2.n, .int .i64 m2.term, .int .i64 m2.vote, .int .i64 m2.role, .int .i64 m2.lead, .int .i64 m2.b, .int .i64 m2.bt, .slice s2.ea m2.es.length s2.ec, .int .i64 m2.commit, .slice s2.sa m2.snap.length s2.sc, .slice s2.ga m2.granted.length s2.gc, .slice s2.xa m2.next.length s2.xc, .slice s2.ma m2.mtch.length s2.mc, .int .i64 m2.clock, .int .i64 m2.wait] 31)).heap.size := HS00.out.q.lt
  go_enter Try.func13, Try.ntmps13
  go_wp2
  go_ret
  exact ⟨rfl, HS00.out.l⟩
set_option maxRecDepth 100000 in
set_option maxHeartbeats 2000000 in
theorem RSame_c3 {w : World} {s s2 : Ad} {m m2 : Mb} (hm : MbV w (fun _ => True) s m) (hm2 : MbV w (fun _ => True) s2 m2) (e0 : m.id = m2.id) (e1 : m.n = m2.n) (e2 : m.term = m2.term) (f3 : ¬ m.vote = m2.vote) : Calls Try.prog 13 #[mbA s m, mbA s2 m2] w fun e w' => e = .returned (.bool (eqMb m m2)) ∧ Below w.heap.size w w' := by
  have HE : Hid (eqMb m m2 = false) := by
    show _ = _
    cases h : eqMb m m2 with
    | false => rfl
    | true =>
      have h2 := eqMb_iff.1 h
      subst h2
      exact absurd rfl f3
  have HS00 : Hid (Sb w ((w.alloc (.cells #[.int .i64 m.id, .int .i64 m.n, .int .i64 m.term, .int .i64 m.vote, .int .i64 m.role, .int .i64 m.lead, .int .i64 m.b, .int .i64 m.bt, .slice s.ea m.es.length s.ec, .int .i64 m.commit, .slice s.sa m.snap.length s.sc, .slice s.ga m.granted.length s.gc, .slice s.xa m.next.length s.xc, .slice s.ma m.mtch.length s.mc, .int .i64 m.clock, .int .i64 m.wait] 31)).alloc (.cells #[.int .i64 m2.id, .int .i64 m2.n, .int .i64 m2.term, .int .i64 m2.vote, .int .i64 m2.role, .int .i64 m2.lead, .int .i64 m2.b, .int .i64 m2.bt, .slice s2.ea m2.es.length s2.ec, .int .i64 m2.commit, .slice s2.sa m2.snap.length s2.sc, .slice s2.ga m2.granted.length s2.gc, .slice s2.xa m2.next.length s2.xc, .slice s2.ma m2.mtch.length s2.mc, .int .i64 m2.clock, .int .i64 m2.wait] 31)) s m s2 m2) := Sb.first w s m s2 m2
  have x0 : (m.id == m2.id) = true := by simp [e0]
  have y0 : (m.id != m2.id) = false := by simp [e0]
  have x1 : (m.n == m2.n) = true := by simp [e1]
  have y1 : (m.n != m2.n) = false := by simp [e1]
  have x2 : (m.term == m2.term) = true := by simp [e2]
  have y2 : (m.term != m2.term) = false := by simp [e2]
  have x3 : (m.vote == m2.vote) = false := beq_eq_false_iff_ne.2 f3
  have y3 : (m.vote != m2.vote) = true := by rw [bne, x3]; rfl
  rw [HE.out]
  clear hm hm2 HE e0 e1 e2 f3
  unfold mbA
  obtain ⟨p0, p1, p2, p3, p4, p5, p6, p7, p8, p9, p10, p11, p12, p13, p14, p15, pf⟩ := HS00.out.p
  obtain ⟨q0, q1, q2, q3, q4, q5, q6, q7, q8, q9, q10, q11, q12, q13, q14, q15, qf⟩ := HS00.out.q
  have hp0 : w.heap.size < ((w.alloc (.cells #[.int .i64 m.id, .int .i64 m.n, .int .i64 m.term, .int .i64 m.vote, .int .i64 m.role, .int .i64 m.lead, .int .i64 m.b, .int .i64 m.bt, .slice s.ea m.es.length s.ec, .int .i64 m.commit, .slice s.sa m.snap.length s.sc, .slice s.ga m.granted.length s.gc, .slice s.xa m.next.length s.xc, .slice s.ma m.mtch.length s.mc, .int .i64 m.clock, .int .i64 m.wait] 31)).alloc (.cells #[.int .i64 m2.id, .int .i64 m2.n, .int .i64 m2.term, .int .i64 m2.vote, .int .i64 m2.role, .int .i64 m2.lead, .int .i64 m2.b, .int .i64 m2.bt, .slice s2.ea m2.es.length s2.ec, .int .i64 m2.commit, .slice s2.sa m2.snap.length s2.sc, .slice s2.ga m2.granted.length s2.gc, .slice s2.xa m2.next.length s2.xc, .slice s2.ma m2.mtch.length s2.mc, .int .i64 m2.clock, .int .i64 m2.wait] 31)).heap.size := HS00.out.p.lt
  have hq0 : w.heap.size + 1 < ((w.alloc (.cells #[.int .i64 m.id, .int .i64 m.n, .int .i64 m.term, .int .i64 m.vote, .int .i64 m.role, .int .i64 m.lead, .int .i64 m.b, .int .i64 m.bt, .slice s.ea m.es.length s.ec, .int .i64 m.commit, .slice s.sa m.snap.length s.sc, .slice s.ga m.granted.length s.gc, .slice s.xa m.next.length s.xc, .slice s.ma m.mtch.length s.mc, .int .i64 m.clock, .int .i64 m.wait] 31)).alloc (.cells #[.int .i64 m2.id, .int .i64 m2.n, .int .i64 m2.term, .int .i64 m2.vote, .int .i64 m2.role, .int .i64 m2.lead, .int .i64 m2.b, .int .i64 m2.bt, .slice s2.ea m2.es.length s2.ec, .int .i64 m2.commit, .slice s2.sa m2.snap.length s2.sc, .slice s2.ga m2.granted.length s2.gc, .slice s2.xa m2.next.length s2.xc, .slice s2.ma m2.mtch.length s2.mc, .int .i64 m2.clock, .int .i64 m2.wait] 31)).heap.size := HS00.out.q.lt
  go_enter Try.func13, Try.ntmps13
  go_wp2
  go_ret
  exact ⟨rfl, HS00.out.l⟩
set_option maxRecDepth 100000 in
set_option maxHeartbeats 2000000 in
theorem RSame_c4 {w : World} {s s2 : Ad} {m m2 : Mb} (hm : MbV w (fun _ => True) s m) (hm2 : MbV w (fun _ => True) s2 m2) (e0 : m.id = m2.id) (e1 : m.n = m2.n) (e2 : m.term = m2.term) (e3 : m.vote = m2.vote) (f4 : ¬ m.role = m2.role) : Calls Try.prog 13 #[mbA s m, mbA s2 m2] w fun e w' => e = .returned (.bool (eqMb m m2)) ∧ Below w.heap.size w w' := by
  have HE : Hid (eqMb m m2 = false) := by
    show _ = _
    cases h : eqMb m m2 with
    | false => rfl
    | true =>
      have h2 := eqMb_iff.1 h
      subst h2
      exact absurd rfl f4
  have HS00 : Hid (Sb w ((w.alloc (.cells #[.int .i64 m.id, .int .i64 m.n, .int .i64 m.term, .int .i64 m.vote, .int .i64 m.role, .int .i64 m.lead, .int .i64 m.b, .int .i64 m.bt, .slice s.ea m.es.length s.ec, .int .i64 m.commit, .slice s.sa m.snap.length s.sc, .slice s.ga m.granted.length s.gc, .slice s.xa m.next.length s.xc, .slice s.ma m.mtch.length s.mc, .int .i64 m.clock, .int .i64 m.wait] 31)).alloc (.cells #[.int .i64 m2.id, .int .i64 m2.n, .int .i64 m2.term, .int .i64 m2.vote, .int .i64 m2.role, .int .i64 m2.lead, .int .i64 m2.b, .int .i64 m2.bt, .slice s2.ea m2.es.length s2.ec, .int .i64 m2.commit, .slice s2.sa m2.snap.length s2.sc, .slice s2.ga m2.granted.length s2.gc, .slice s2.xa m2.next.length s2.xc, .slice s2.ma m2.mtch.length s2.mc, .int .i64 m2.clock, .int .i64 m2.wait] 31)) s m s2 m2) := Sb.first w s m s2 m2
  have x0 : (m.id == m2.id) = true := by simp [e0]
  have y0 : (m.id != m2.id) = false := by simp [e0]
  have x1 : (m.n == m2.n) = true := by simp [e1]
  have y1 : (m.n != m2.n) = false := by simp [e1]
  have x2 : (m.term == m2.term) = true := by simp [e2]
  have y2 : (m.term != m2.term) = false := by simp [e2]
  have x3 : (m.vote == m2.vote) = true := by simp [e3]
  have y3 : (m.vote != m2.vote) = false := by simp [e3]
  have x4 : (m.role == m2.role) = false := beq_eq_false_iff_ne.2 f4
  have y4 : (m.role != m2.role) = true := by rw [bne, x4]; rfl
  rw [HE.out]
  clear hm hm2 HE e0 e1 e2 e3 f4
  unfold mbA
  obtain ⟨p0, p1, p2, p3, p4, p5, p6, p7, p8, p9, p10, p11, p12, p13, p14, p15, pf⟩ := HS00.out.p
  obtain ⟨q0, q1, q2, q3, q4, q5, q6, q7, q8, q9, q10, q11, q12, q13, q14, q15, qf⟩ := HS00.out.q
  have hp0 : w.heap.size < ((w.alloc (.cells #[.int .i64 m.id, .int .i64 m.n, .int .i64 m.term, .int .i64 m.vote, .int .i64 m.role, .int .i64 m.lead, .int .i64 m.b, .int .i64 m.bt, .slice s.ea m.es.length s.ec, .int .i64 m.commit, .slice s.sa m.snap.length s.sc, .slice s.ga m.granted.length s.gc, .slice s.xa m.next.length s.xc, .slice s.ma m.mtch.length s.mc, .int .i64 m.clock, .int .i64 m.wait] 31)).alloc (.cells #[.int .i64 m2.id, .int .i64 m2.n, .int .i64 m2.term, .int .i64 m2.vote, .int .i64 m2.role, .int .i64 m2.lead, .int .i64 m2.b, .int .i64 m2.bt, .slice s2.ea m2.es.length s2.ec, .int .i64 m2.commit, .slice s2.sa m2.snap.length s2.sc, .slice s2.ga m2.granted.length s2.gc, .slice s2.xa m2.next.length s2.xc, .slice s2.ma m2.mtch.length s2.mc, .int .i64 m2.clock, .int .i64 m2.wait] 31)).heap.size := HS00.out.p.lt
  have hq0 : w.heap.size + 1 < ((w.alloc (.cells #[.int .i64 m.id, .int .i64 m.n, .int .i64 m.term, .int .i64 m.vote, .int .i64 m.role, .int .i64 m.lead, .int .i64 m.b, .int .i64 m.bt, .slice s.ea m.es.length s.ec, .int .i64 m.commit, .slice s.sa m.snap.length s.sc, .slice s.ga m.granted.length s.gc, .slice s.xa m.next.length s.xc, .slice s.ma m.mtch.length s.mc, .int .i64 m.clock, .int .i64 m.wait] 31)).alloc (.cells #[.int .i64 m2.id, .int .i64 m2.n, .int .i64 m2.term, .int .i64 m2.vote, .int .i64 m2.role, .int .i64 m2.lead, .int .i64 m2.b, .int .i64 m2.bt, .slice s2.ea m2.es.length s2.ec, .int .i64 m2.commit, .slice s2.sa m2.snap.length s2.sc, .slice s2.ga m2.granted.length s2.gc, .slice s2.xa m2.next.length s2.xc, .slice s2.ma m2.mtch.length s2.mc, .int .i64 m2.clock, .int .i64 m2.wait] 31)).heap.size := HS00.out.q.lt
  go_enter Try.func13, Try.ntmps13
  go_wp2
  go_ret
  exact ⟨rfl, HS00.out.l⟩
end
section
open Go.RowKit
set_option linter.unusedVariables false
set_option linter.unusedSimpArgs false


set_option maxRecDepth 100000 in
set_option maxHeartbeats 2000000 in
theorem RSame_c5 {w : World} {s s2 : Ad} {m m2 : Mb} (hm : MbV w (fun _ => True) s m) (hm2 : MbV w (fun _ => True) s2 m2) (e0 : m.id = m2.id) (e1 : m.n = m2.n) (e2 : m.term = m2.term) (e3 : m.vote = m2.vote) (e4 : m.role = m2.role) (f5 : ¬ m.lead = m2.lead) : Calls Try.prog 13 #[mbA s m, mbA s2 m2] w fun e w' => e = .returned (.bool (eqMb m m2)) ∧ Below w.heap.size w w' := by
  have HE : Hid (eqMb m m2 = false) := by
    show _ = _
    cases h : eqMb m m2 with
    | false => rfl
    | true =>
      have h2 := eqMb_iff.1 h
      subst h2
      exact absurd rfl f5
  have HS00 : Hid (Sb w ((w.alloc (.cells #[.int .i64 m.id, .int .i64 m.n, .int .i64 m.term, .int .i64 m.vote, .int .i64 m.role, .int .i64 m.lead, .int .i64 m.b, .int .i64 m.bt, .slice s.ea m.es.length s.ec, .int .i64 m.commit, .slice s.sa m.snap.length s.sc, .slice s.ga m.granted.length s.gc, .slice s.xa m.next.length s.xc, .slice s.ma m.mtch.length s.mc, .int .i64 m.clock, .int .i64 m.wait] 31)).alloc (.cells #[.int .i64 m2.id, .int .i64 m2.n, .int .i64 m2.term, .int .i64 m2.vote, .int .i64 m2.role, .int .i64 m2.lead, .int .i64 m2.b, .int .i64 m2.bt, .slice s2.ea m2.es.length s2.ec, .int .i64 m2.commit, .slice s2.sa m2.snap.length s2.sc, .slice s2.ga m2.granted.length s2.gc, .slice s2.xa m2.next.length s2.xc, .slice s2.ma m2.mtch.length s2.mc, .int .i64 m2.clock, .int .i64 m2.wait] 31)) s m s2 m2) := Sb.first w s m s2 m2
  have x0 : (m.id == m2.id) = true := by simp [e0]
  have y0 : (m.id != m2.id) = false := by simp [e0]
  have x1 : (m.n == m2.n) = true := by simp [e1]
  have y1 : (m.n != m2.n) = false := by simp [e1]
  have x2 : (m.term == m2.term) = true := by simp [e2]
  have y2 : (m.term != m2.term) = false := by simp [e2]
  have x3 : (m.vote == m2.vote) = true := by simp [e3]
  have y3 : (m.vote != m2.vote) = false := by simp [e3]
  have x4 : (m.role == m2.role) = true := by simp [e4]
  have y4 : (m.role != m2.role) = false := by simp [e4]
  have x5 : (m.lead == m2.lead) = false := beq_eq_false_iff_ne.2 f5
  have y5 : (m.lead != m2.lead) = true := by rw [bne, x5]; rfl
  rw [HE.out]
  clear hm hm2 HE e0 e1 e2 e3 e4 f5
  unfold mbA
  obtain ⟨p0, p1, p2, p3, p4, p5, p6, p7, p8, p9, p10, p11, p12, p13, p14, p15, pf⟩ := HS00.out.p
  obtain ⟨q0, q1, q2, q3, q4, q5, q6, q7, q8, q9, q10, q11, q12, q13, q14, q15, qf⟩ := HS00.out.q
  have hp0 : w.heap.size < ((w.alloc (.cells #[.int .i64 m.id, .int .i64 m.n, .int .i64 m.term, .int .i64 m.vote, .int .i64 m.role, .int .i64 m.lead, .int .i64 m.b, .int .i64 m.bt, .slice s.ea m.es.length s.ec, .int .i64 m.commit, .slice s.sa m.snap.length s.sc, .slice s.ga m.granted.length s.gc, .slice s.xa m.next.length s.xc, .slice s.ma m.mtch.length s.mc, .int .i64 m.clock, .int .i64 m.wait] 31)).alloc (.cells #[.int .i64 m2.id, .int .i64 m2.n, .int .i64 m2.term, .int .i64 m2.vote, .int .i64 m2.role, .int .i64 m2.lead, .int .i64 m2.b, .int .i64 m2.bt, .slice s2.ea m2.es.length s2.ec, .int .i64 m2.commit, .slice s2.sa m2.snap.length s2.sc, .slice s2.ga m2.granted.length s2.gc, .slice s2.xa m2.next.length s2.xc, .slice s2.ma m2.mtch.length s2.mc, .int .i64 m2.clock, .int .i64 m2.wait] 31)).heap.size := HS00.out.p.lt
  have hq0 : w.heap.size + 1 < ((w.alloc (.cells #[.int .i64 m.id, .int .i64 m.n, .int .i64 m.term, .int .i64 m.vote, .int .i64 m.role, .int .i64 m.lead, .int .i64 m.b, .int .i64 m.bt, .slice s.ea m.es.length s.ec, .int .i64 m.commit, .slice s.sa m.snap.length s.sc, .slice s.ga m.granted.length s.gc, .slice s.xa m.next.length s.xc, .slice s.ma m.mtch.length s.mc, .int .i64 m.clock, .int .i64 m.wait] 31)).alloc (.cells #[.int .i64 m2.id, .int .i64 m2.n, .int .i64 m2.term, .int .i64 m2.vote, .int .i64 m2.role, .int .i64 m2.lead, .int .i64 m2.b, .int .i64 m2.bt, .slice s2.ea m2.es.length s2.ec, .int .i64 m2.commit, .slice s2.sa m2.snap.length s2.sc, .slice s2.ga m2.granted.length s2.gc, .slice s2.xa m2.next.length s2.xc, .slice s2.ma m2.mtch.length s2.mc, .int .i64 m2.clock, .int .i64 m2.wait] 31)).heap.size := HS00.out.q.lt
  go_enter Try.func13, Try.ntmps13
  go_wp2
  go_ret
  exact ⟨rfl, HS00.out.l⟩
set_option maxRecDepth 100000 in
set_option maxHeartbeats 2000000 in
theorem RSame_c6 {w : World} {s s2 : Ad} {m m2 : Mb} (hm : MbV w (fun _ => True) s m) (hm2 : MbV w (fun _ => True) s2 m2) (e0 : m.id = m2.id) (e1 : m.n = m2.n) (e2 : m.term = m2.term) (e3 : m.vote = m2.vote) (e4 : m.role = m2.role) (e5 : m.lead = m2.lead) (f6 : ¬ m.commit = m2.commit) : Calls Try.prog 13 #[mbA s m, mbA s2 m2] w fun e w' => e = .returned (.bool (eqMb m m2)) ∧ Below w.heap.size w w' := by
  have HE : Hid (eqMb m m2 = false) := by
    show _ = _
    cases h : eqMb m m2 with
    | false => rfl
    | true =>
      have h2 := eqMb_iff.1 h
      subst h2
      exact absurd rfl f6
  have HS00 : Hid (Sb w ((w.alloc (.cells #[.int .i64 m.id, .int .i64 m.n, .int .i64 m.term, .int .i64 m.vote, .int .i64 m.role, .int .i64 m.lead, .int .i64 m.b, .int .i64 m.bt, .slice s.ea m.es.length s.ec, .int .i64 m.commit, .slice s.sa m.snap.length s.sc, .slice s.ga m.granted.length s.gc, .slice s.xa m.next.length s.xc, .slice s.ma m.mtch.length s.mc, .int .i64 m.clock, .int .i64 m.wait] 31)).alloc (.cells #[.int .i64 m2.id, .int .i64 m2.n, .int .i64 m2.term, .int .i64 m2.vote, .int .i64 m2.role, .int .i64 m2.lead, .int .i64 m2.b, .int .i64 m2.bt, .slice s2.ea m2.es.length s2.ec, .int .i64 m2.commit, .slice s2.sa m2.snap.length s2.sc, .slice s2.ga m2.granted.length s2.gc, .slice s2.xa m2.next.length s2.xc, .slice s2.ma m2.mtch.length s2.mc, .int .i64 m2.clock, .int .i64 m2.wait] 31)) s m s2 m2) := Sb.first w s m s2 m2
  have x0 : (m.id == m2.id) = true := by simp [e0]
  have y0 : (m.id != m2.id) = false := by simp [e0]
  have x1 : (m.n == m2.n) = true := by simp [e1]
  have y1 : (m.n != m2.n) = false := by simp [e1]
  have x2 : (m.term == m2.term) = true := by simp [e2]
  have y2 : (m.term != m2.term) = false := by simp [e2]
  have x3 : (m.vote == m2.vote) = true := by simp [e3]
  have y3 : (m.vote != m2.vote) = false := by simp [e3]
  have x4 : (m.role == m2.role) = true := by simp [e4]
  have y4 : (m.role != m2.role) = false := by simp [e4]
  have x5 : (m.lead == m2.lead) = true := by simp [e5]
  have y5 : (m.lead != m2.lead) = false := by simp [e5]
  have x6 : (m.commit == m2.commit) = false := beq_eq_false_iff_ne.2 f6
  have y6 : (m.commit != m2.commit) = true := by rw [bne, x6]; rfl
  rw [HE.out]
  clear hm hm2 HE e0 e1 e2 e3 e4 e5 f6
  unfold mbA
  obtain ⟨p0, p1, p2, p3, p4, p5, p6, p7, p8, p9, p10, p11, p12, p13, p14, p15, pf⟩ := HS00.out.p
  obtain ⟨q0, q1, q2, q3, q4, q5, q6, q7, q8, q9, q10, q11, q12, q13, q14, q15, qf⟩ := HS00.out.q
  have hp0 : w.heap.size < ((w.alloc (.cells #[.int .i64 m.id, .int .i64 m.n, .int .i64 m.term, .int .i64 m.vote, .int .i64 m.role, .int .i64 m.lead, .int .i64 m.b, .int .i64 m.bt, .slice s.ea m.es.length s.ec, .int .i64 m.commit, .slice s.sa m.snap.length s.sc, .slice s.ga m.granted.length s.gc, .slice s.xa m.next.length s.xc, .slice s.ma m.mtch.length s.mc, .int .i64 m.clock, .int .i64 m.wait] 31)).alloc (.cells #[.int .i64 m2.id, .int .i64 m2.n, .int .i64 m2.term, .int .i64 m2.vote, .int .i64 m2.role, .int .i64 m2.lead, .int .i64 m2.b, .int .i64 m2.bt, .slice s2.ea m2.es.length s2.ec, .int .i64 m2.commit, .slice s2.sa m2.snap.length s2.sc, .slice s2.ga m2.granted.length s2.gc, .slice s2.xa m2.next.length s2.xc, .slice s2.ma m2.mtch.length s2.mc, .int .i64 m2.clock, .int .i64 m2.wait] 31)).heap.size := HS00.out.p.lt
  have hq0 : w.heap.size + 1 < ((w.alloc (.cells #[.int .i64 m.id, .int .i64 m.n, .int .i64 m.term, .int .i64 m.vote, .int .i64 m.role, .int .i64 m.lead, .int .i64 m.b, .int .i64 m.bt, .slice s.ea m.es.length s.ec, .int .i64 m.commit, .slice s.sa m.snap.length s.sc, .slice s.ga m.granted.length s.gc, .slice s.xa m.next.length s.xc, .slice s.ma m.mtch.length s.mc, .int .i64 m.clock, .int .i64 m.wait] 31)).alloc (.cells #[.int .i64 m2.id, .int .i64 m2.n, .int .i64 m2.term, .int .i64 m2.vote, .int .i64 m2.role, .int .i64 m2.lead, .int .i64 m2.b, .int .i64 m2.bt, .slice s2.ea m2.es.length s2.ec, .int .i64 m2.commit, .slice s2.sa m2.snap.length s2.sc, .slice s2.ga m2.granted.length s2.gc, .slice s2.xa m2.next.length s2.xc, .slice s2.ma m2.mtch.length s2.mc, .int .i64 m2.clock, .int .i64 m2.wait] 31)).heap.size := HS00.out.q.lt
  go_enter Try.func13, Try.ntmps13
  go_wp2
  go_ret
  exact ⟨rfl, HS00.out.l⟩
set_option maxRecDepth 100000 in
set_option maxHeartbeats 2000000 in
theorem RSame_c7 {w : World} {s s2 : Ad} {m m2 : Mb} (hm : MbV w (fun _ => True) s m) (hm2 : MbV w (fun _ => True) s2 m2) (e0 : m.id = m2.id) (e1 : m.n = m2.n) (e2 : m.term = m2.term) (e3 : m.vote = m2.vote) (e4 : m.role = m2.role) (e5 : m.lead = m2.lead) (e6 : m.commit = m2.commit) (f7 : ¬ m.clock = m2.clock) : Calls Try.prog 13 #[mbA s m, mbA s2 m2] w fun e w' => e = .returned (.bool (eqMb m m2)) ∧ Below w.heap.size w w' := by
  have HE : Hid (eqMb m m2 = false) := by
    show _ = _
    cases h : eqMb m m2 with
    | false => rfl
    | true =>
      have h2 := eqMb_iff.1 h
      subst h2
      exact absurd rfl f7
  have HS00 : Hid (Sb w ((w.alloc (.cells #[.int .i64 m.id, .int .i64 m.n, .int .i64 m.term, .int .i64 m.vote, .int .i64 m.role, .int .i64 m.lead, .int .i64 m.b, .int .i64 m.bt, .slice s.ea m.es.length s.ec, .int .i64 m.commit, .slice s.sa m.snap.length s.sc, .slice s.ga m.granted.length s.gc, .slice s.xa m.next.length s.xc, .slice s.ma m.mtch.length s.mc, .int .i64 m.clock, .int .i64 m.wait] 31)).alloc (.cells #[.int .i64 m2.id, .int .i64 m2.n, .int .i64 m2.term, .int .i64 m2.vote, .int .i64 m2.role, .int .i64 m2.lead, .int .i64 m2.b, .int .i64 m2.bt, .slice s2.ea m2.es.length s2.ec, .int .i64 m2.commit, .slice s2.sa m2.snap.length s2.sc, .slice s2.ga m2.granted.length s2.gc, .slice s2.xa m2.next.length s2.xc, .slice s2.ma m2.mtch.length s2.mc, .int .i64 m2.clock, .int .i64 m2.wait] 31)) s m s2 m2) := Sb.first w s m s2 m2
  have x0 : (m.id == m2.id) = true := by simp [e0]
  have y0 : (m.id != m2.id) = false := by simp [e0]
  have x1 : (m.n == m2.n) = true := by simp [e1]
  have y1 : (m.n != m2.n) = false := by simp [e1]
  have x2 : (m.term == m2.term) = true := by simp [e2]
  have y2 : (m.term != m2.term) = false := by simp [e2]
  have x3 : (m.vote == m2.vote) = true := by simp [e3]
  have y3 : (m.vote != m2.vote) = false := by simp [e3]
  have x4 : (m.role == m2.role) = true := by simp [e4]
  have y4 : (m.role != m2.role) = false := by simp [e4]
  have x5 : (m.lead == m2.lead) = true := by simp [e5]
  have y5 : (m.lead != m2.lead) = false := by simp [e5]
  have x6 : (m.commit == m2.commit) = true := by simp [e6]
  have y6 : (m.commit != m2.commit) = false := by simp [e6]
  have x7 : (m.clock == m2.clock) = false := beq_eq_false_iff_ne.2 f7
  have y7 : (m.clock != m2.clock) = true := by rw [bne, x7]; rfl
  rw [HE.out]
  clear hm hm2 HE e0 e1 e2 e3 e4 e5 e6 f7
  unfold mbA
  obtain ⟨p0, p1, p2, p3, p4, p5, p6, p7, p8, p9, p10, p11, p12, p13, p14, p15, pf⟩ := HS00.out.p
  obtain ⟨q0, q1, q2, q3, q4, q5, q6, q7, q8, q9, q10, q11, q12, q13, q14, q15, qf⟩ := HS00.out.q
  have hp0 : w.heap.size < ((w.alloc (.cells #[.int .i64 m.id, .int .i64 m.n, .int .i64 m.term, .int .i64 m.vote, .int .i64 m.role, .int .i64 m.lead, .int .i64 m.b, .int .i64 m.bt, .slice s.ea m.es.length s.ec, .int .i64 m.commit, .slice s.sa m.snap.length s.sc, .slice s.ga m.granted.length s.gc, .slice s.xa m.next.length s.xc, .slice s.ma m.mtch.length s.mc, .int .i64 m.clock, .int .i64 m.wait] 31)).alloc (.cells #[.int .i64 m2.id, .int .i64 m2.n, .int .i64 m2.term, .int .i64 m2.vote, .int .i64 m2.role, .int .i64 m2.lead, .int .i64 m2.b, .int .i64 m2.bt, .slice s2.ea m2.es.length s2.ec, .int .i64 m2.commit, .slice s2.sa m2.snap.length s2.sc, .slice s2.ga m2.granted.length s2.gc, .slice s2.xa m2.next.length s2.xc, .slice s2.ma m2.mtch.length s2.mc, .int .i64 m2.clock, .int .i64 m2.wait] 31)).heap.size := HS00.out.p.lt
  have hq0 : w.heap.size + 1 < ((w.alloc (.cells #[.int .i64 m.id, .int .i64 m.n, .int .i64 m.term, .int .i64 m.vote, .int .i64 m.role, .int .i64 m.lead, .int .i64 m.b, .int .i64 m.bt, .slice s.ea m.es.length s.ec, .int .i64 m.commit, .slice s.sa m.snap.length s.sc, .slice s.ga m.granted.length s.gc, .slice s.xa m.next.length s.xc, .slice s.ma m.mtch.length s.mc, .int .i64 m.clock, .int .i64 m.wait] 31)).alloc (.cells #[.int .i64 m2.id, .int .i64 m2.n, .int .i64 m2.term, .int .i64 m2.vote, .int .i64 m2.role, .int .i64 m2.lead, .int .i64 m2.b, .int .i64 m2.bt, .slice s2.ea m2.es.length s2.ec, .int .i64 m2.commit, .slice s2.sa m2.snap.length s2.sc, .slice s2.ga m2.granted.length s2.gc, .slice s2.xa m2.next.length s2.xc, .slice s2.ma m2.mtch.length s2.mc, .int .i64 m2.clock, .int .i64 m2.wait] 31)).heap.size := HS00.out.q.lt
  go_enter Try.func13, Try.ntmps13
  go_wp2
  go_ret
  exact ⟨rfl, HS00.out.l⟩
set_option maxRecDepth 100000 in
set_option maxHeartbeats 2000000 in
theorem RSame_c8 {w : World} {s s2 : Ad} {m m2 : Mb} (hm : MbV w (fun _ => True) s m) (hm2 : MbV w (fun _ => True) s2 m2) (e0 : m.id = m2.id) (e1 : m.n = m2.n) (e2 : m.term = m2.term) (e3 : m.vote = m2.vote) (e4 : m.role = m2.role) (e5 : m.lead = m2.lead) (e6 : m.commit = m2.commit) (e7 : m.clock = m2.clock) (f8 : ¬ m.wait = m2.wait) : Calls Try.prog 13 #[mbA s m, mbA s2 m2] w fun e w' => e = .returned (.bool (eqMb m m2)) ∧ Below w.heap.size w w' := by
  have HE : Hid (eqMb m m2 = false) := by
    show _ = _
    cases h : eqMb m m2 with
    | false => rfl
    | true =>
      have h2 := eqMb_iff.1 h
      subst h2
      exact absurd rfl f8
  have HS00 : Hid (Sb w ((w.alloc (.cells #[.int .i64 m.id, .int .i64 m.n, .int .i64 m.term, .int .i64 m.vote, .int .i64 m.role, .int .i64 m.lead, .int .i64 m.b, .int .i64 m.bt, .slice s.ea m.es.length s.ec, .int .i64 m.commit, .slice s.sa m.snap.length s.sc, .slice s.ga m.granted.length s.gc, .slice s.xa m.next.length s.xc, .slice s.ma m.mtch.length s.mc, .int .i64 m.clock, .int .i64 m.wait] 31)).alloc (.cells #[.int .i64 m2.id, .int .i64 m2.n, .int .i64 m2.term, .int .i64 m2.vote, .int .i64 m2.role, .int .i64 m2.lead, .int .i64 m2.b, .int .i64 m2.bt, .slice s2.ea m2.es.length s2.ec, .int .i64 m2.commit, .slice s2.sa m2.snap.length s2.sc, .slice s2.ga m2.granted.length s2.gc, .slice s2.xa m2.next.length s2.xc, .slice s2.ma m2.mtch.length s2.mc, .int .i64 m2.clock, .int .i64 m2.wait] 31)) s m s2 m2) := Sb.first w s m s2 m2
  have x0 : (m.id == m2.id) = true := by simp [e0]
  have y0 : (m.id != m2.id) = false := by simp [e0]
  have x1 : (m.n == m2.n) = true := by simp [e1]
  have y1 : (m.n != m2.n) = false := by simp [e1]
  have x2 : (m.term == m2.term) = true := by simp [e2]
  have y2 : (m.term != m2.term) = false := by simp [e2]
  have x3 : (m.vote == m2.vote) = true := by simp [e3]
  have y3 : (m.vote != m2.vote) = false := by simp [e3]
  have x4 : (m.role == m2.role) = true := by simp [e4]
  have y4 : (m.role != m2.role) = false := by simp [e4]
  have x5 : (m.lead == m2.lead) = true := by simp [e5]
  have y5 : (m.lead != m2.lead) = false := by simp [e5]
  have x6 : (m.commit == m2.commit) = true := by simp [e6]
  have y6 : (m.commit != m2.commit) = false := by simp [e6]
  have x7 : (m.clock == m2.clock) = true := by simp [e7]
  have y7 : (m.clock != m2.clock) = false := by simp [e7]
  have x8 : (m.wait == m2.wait) = false := beq_eq_false_iff_ne.2 f8
  have y8 : (m.wait != m2.wait) = true := by rw [bne, x8]; rfl
  rw [HE.out]
  clear hm hm2 HE e0 e1 e2 e3 e4 e5 e6 e7 f8
  unfold mbA
  obtain ⟨p0, p1, p2, p3, p4, p5, p6, p7, p8, p9, p10, p11, p12, p13, p14, p15, pf⟩ := HS00.out.p
  obtain ⟨q0, q1, q2, q3, q4, q5, q6, q7, q8, q9, q10, q11, q12, q13, q14, q15, qf⟩ := HS00.out.q
  have hp0 : w.heap.size < ((w.alloc (.cells #[.int .i64 m.id, .int .i64 m.n, .int .i64 m.term, .int .i64 m.vote, .int .i64 m.role, .int .i64 m.lead, .int .i64 m.b, .int .i64 m.bt, .slice s.ea m.es.length s.ec, .int .i64 m.commit, .slice s.sa m.snap.length s.sc, .slice s.ga m.granted.length s.gc, .slice s.xa m.next.length s.xc, .slice s.ma m.mtch.length s.mc, .int .i64 m.clock, .int .i64 m.wait] 31)).alloc (.cells #[.int .i64 m2.id, .int .i64 m2.n, .int .i64 m2.term, .int .i64 m2.vote, .int .i64 m2.role, .int .i64 m2.lead, .int .i64 m2.b, .int .i64 m2.bt, .slice s2.ea m2.es.length s2.ec, .int .i64 m2.commit, .slice s2.sa m2.snap.length s2.sc, .slice s2.ga m2.granted.length s2.gc, .slice s2.xa m2.next.length s2.xc, .slice s2.ma m2.mtch.length s2.mc, .int .i64 m2.clock, .int .i64 m2.wait] 31)).heap.size := HS00.out.p.lt
  have hq0 : w.heap.size + 1 < ((w.alloc (.cells #[.int .i64 m.id, .int .i64 m.n, .int .i64 m.term, .int .i64 m.vote, .int .i64 m.role, .int .i64 m.lead, .int .i64 m.b, .int .i64 m.bt, .slice s.ea m.es.length s.ec, .int .i64 m.commit, .slice s.sa m.snap.length s.sc, .slice s.ga m.granted.length s.gc, .slice s.xa m.next.length s.xc, .slice s.ma m.mtch.length s.mc, .int .i64 m.clock, .int .i64 m.wait] 31)).alloc (.cells #[.int .i64 m2.id, .int .i64 m2.n, .int .i64 m2.term, .int .i64 m2.vote, .int .i64 m2.role, .int .i64 m2.lead, .int .i64 m2.b, .int .i64 m2.bt, .slice s2.ea m2.es.length s2.ec, .int .i64 m2.commit, .slice s2.sa m2.snap.length s2.sc, .slice s2.ga m2.granted.length s2.gc, .slice s2.xa m2.next.length s2.xc, .slice s2.ma m2.mtch.length s2.mc, .int .i64 m2.clock, .int .i64 m2.wait] 31)).heap.size := HS00.out.q.lt
  go_enter Try.func13, Try.ntmps13
  go_wp2
  go_ret
  exact ⟨rfl, HS00.out.l⟩
set_option maxRecDepth 100000 in
set_option maxHeartbeats 2000000 in
theorem RSame_c9 {w : World} {s s2 : Ad} {m m2 : Mb} (hm : MbV w (fun _ => True) s m) (hm2 : MbV w (fun _ => True) s2 m2) (e0 : m.id = m2.id) (e1 : m.n = m2.n) (e2 : m.term = m2.term) (e3 : m.vote = m2.vote) (e4 : m.role = m2.role) (e5 : m.lead = m2.lead) (e6 : m.commit = m2.commit) (e7 : m.clock = m2.clock) (e8 : m.wait = m2.wait) (f9 : ¬ m.snap = m2.snap) : Calls Try.prog 13 #[mbA s m, mbA s2 m2] w fun e w' => e = .returned (.bool (eqMb m m2)) ∧ Below w.heap.size w w' := by
  have HE : Hid (eqMb m m2 = false) := by
    show _ = _
    cases h : eqMb m m2 with
    | false => rfl
    | true =>
      have h2 := eqMb_iff.1 h
      subst h2
      exact absurd rfl f9
  have HS00 : Hid (Sb w ((w.alloc (.cells #[.int .i64 m.id, .int .i64 m.n, .int .i64 m.term, .int .i64 m.vote, .int .i64 m.role, .int .i64 m.lead, .int .i64 m.b, .int .i64 m.bt, .slice s.ea m.es.length s.ec, .int .i64 m.commit, .slice s.sa m.snap.length s.sc, .slice s.ga m.granted.length s.gc, .slice s.xa m.next.length s.xc, .slice s.ma m.mtch.length s.mc, .int .i64 m.clock, .int .i64 m.wait] 31)).alloc (.cells #[.int .i64 m2.id, .int .i64 m2.n, .int .i64 m2.term, .int .i64 m2.vote, .int .i64 m2.role, .int .i64 m2.lead, .int .i64 m2.b, .int .i64 m2.bt, .slice s2.ea m2.es.length s2.ec, .int .i64 m2.commit, .slice s2.sa m2.snap.length s2.sc, .slice s2.ga m2.granted.length s2.gc, .slice s2.xa m2.next.length s2.xc, .slice s2.ma m2.mtch.length s2.mc, .int .i64 m2.clock, .int .i64 m2.wait] 31)) s m s2 m2) := Sb.first w s m s2 m2
  have x0 : (m.id == m2.id) = true := by simp [e0]
  have y0 : (m.id != m2.id) = false := by simp [e0]
  have x1 : (m.n == m2.n) = true := by simp [e1]
  have y1 : (m.n != m2.n) = false := by simp [e1]
  have x2 : (m.term == m2.term) = true := by simp [e2]
  have y2 : (m.term != m2.term) = false := by simp [e2]
  have x3 : (m.vote == m2.vote) = true := by simp [e3]
  have y3 : (m.vote != m2.vote) = false := by simp [e3]
  have x4 : (m.role == m2.role) = true := by simp [e4]
  have y4 : (m.role != m2.role) = false := by simp [e4]
  have x5 : (m.lead == m2.lead) = true := by simp [e5]
  have y5 : (m.lead != m2.lead) = false := by simp [e5]
  have x6 : (m.commit == m2.commit) = true := by simp [e6]
  have y6 : (m.commit != m2.commit) = false := by simp [e6]
  have x7 : (m.clock == m2.clock) = true := by simp [e7]
  have y7 : (m.clock != m2.clock) = false := by simp [e7]
  have x8 : (m.wait == m2.wait) = true := by simp [e8]
  have y8 : (m.wait != m2.wait) = false := by simp [e8]
  have HB2 : Below w.heap.size w ((w.alloc (.cells #[.int .i64 m.id, .int .i64 m.n, .int .i64 m.term, .int .i64 m.vote, .int .i64 m.role, .int .i64 m.lead, .int .i64 m.b, .int .i64 m.bt, .slice s.ea m.es.length s.ec, .int .i64 m.commit, .slice s.sa m.snap.length s.sc, .slice s.ga m.granted.length s.gc, .slice s.xa m.next.length s.xc, .slice s.ma m.mtch.length s.mc, .int .i64 m.clock, .int .i64 m.wait] 31)).alloc (.cells #[.int .i64 m2.id, .int .i64 m2.n, .int .i64 m2.term, .int .i64 m2.vote, .int .i64 m2.role, .int .i64 m2.lead, .int .i64 m2.b, .int .i64 m2.bt, .slice s2.ea m2.es.length s2.ec, .int .i64 m2.commit, .slice s2.sa m2.snap.length s2.sc, .slice s2.ga m2.granted.length s2.gc, .slice s2.xa m2.next.length s2.xc, .slice s2.ma m2.mtch.length s2.mc, .int .i64 m2.clock, .int .i64 m2.wait] 31)) := below2 _ _ _
  have c1 := convert_str (hm.sn.below HB2)
  have c3 := convert_str (hm2.sn.below HB2)
  have z1 := str_same m.snap m2.snap
  rw [show decide (m.snap = m2.snap) = false by exact decide_eq_false f9] at z1
  clear HB2
  rw [HE.out]
  clear hm hm2 HE e0 e1 e2 e3 e4 e5 e6 e7 e8 f9
  unfold mbA
  obtain ⟨p0, p1, p2, p3, p4, p5, p6, p7, p8, p9, p10, p11, p12, p13, p14, p15, pf⟩ := HS00.out.p
  obtain ⟨q0, q1, q2, q3, q4, q5, q6, q7, q8, q9, q10, q11, q12, q13, q14, q15, qf⟩ := HS00.out.q
  have hp0 : w.heap.size < ((w.alloc (.cells #[.int .i64 m.id, .int .i64 m.n, .int .i64 m.term, .int .i64 m.vote, .int .i64 m.role, .int .i64 m.lead, .int .i64 m.b, .int .i64 m.bt, .slice s.ea m.es.length s.ec, .int .i64 m.commit, .slice s.sa m.snap.length s.sc, .slice s.ga m.granted.length s.gc, .slice s.xa m.next.length s.xc, .slice s.ma m.mtch.length s.mc, .int .i64 m.clock, .int .i64 m.wait] 31)).alloc (.cells #[.int .i64 m2.id, .int .i64 m2.n, .int .i64 m2.term, .int .i64 m2.vote, .int .i64 m2.role, .int .i64 m2.lead, .int .i64 m2.b, .int .i64 m2.bt, .slice s2.ea m2.es.length s2.ec, .int .i64 m2.commit, .slice s2.sa m2.snap.length s2.sc, .slice s2.ga m2.granted.length s2.gc, .slice s2.xa m2.next.length s2.xc, .slice s2.ma m2.mtch.length s2.mc, .int .i64 m2.clock, .int .i64 m2.wait] 31)).heap.size := HS00.out.p.lt
  have hq0 : w.heap.size + 1 < ((w.alloc (.cells #[.int .i64 m.id, .int .i64 m.n, .int .i64 m.term, .int .i64 m.vote, .int .i64 m.role, .int .i64 m.lead, .int .i64 m.b, .int .i64 m.bt, .slice s.ea m.es.length s.ec, .int .i64 m.commit, .slice s.sa m.snap.length s.sc, .slice s.ga m.granted.length s.gc, .slice s.xa m.next.length s.xc, .slice s.ma m.mtch.length s.mc, .int .i64 m.clock, .int .i64 m.wait] 31)).alloc (.cells #[.int .i64 m2.id, .int .i64 m2.n, .int .i64 m2.term, .int .i64 m2.vote, .int .i64 m2.role, .int .i64 m2.lead, .int .i64 m2.b, .int .i64 m2.bt, .slice s2.ea m2.es.length s2.ec, .int .i64 m2.commit, .slice s2.sa m2.snap.length s2.sc, .slice s2.ga m2.granted.length s2.gc, .slice s2.xa m2.next.length s2.xc, .slice s2.ma m2.mtch.length s2.mc, .int .i64 m2.clock, .int .i64 m2.wait] 31)).heap.size := HS00.out.q.lt
  generalize str m.snap = st1 at *
  generalize str m2.snap = st2 at *
  go_enter Try.func13, Try.ntmps13
  go_wp2_with (first
    | (simp only [c1, c3]))
  go_ret
  exact ⟨rfl, HS00.out.l⟩
end
section
open Go.RowKit
set_option linter.unusedVariables false
set_option linter.unusedSimpArgs false


set_option maxRecDepth 100000 in
set_option maxHeartbeats 2000000 in
theorem RSame_c10 {w : World} {s s2 : Ad} {m m2 : Mb} (hm : MbV w (fun _ => True) s m) (hm2 : MbV w (fun _ => True) s2 m2) (e0 : m.id = m2.id) (e1 : m.n = m2.n) (e2 : m.term = m2.term) (e3 : m.vote = m2.vote) (e4 : m.role = m2.role) (e5 : m.lead = m2.lead) (e6 : m.commit = m2.commit) (e7 : m.clock = m2.clock) (e8 : m.wait = m2.wait) (e9 : m.snap = m2.snap) (f10 : ¬ sameM m.b m.bt m.es m2.b m2.bt m2.es = true) : Calls Try.prog 13 #[mbA s m, mbA s2 m2] w fun e w' => e = .returned (.bool (eqMb m m2)) ∧ Below w.heap.size w w' := by
  have HE : Hid (eqMb m m2 = false) := by
    show _ = _
    cases h : eqMb m m2 with
    | false => rfl
    | true =>
      have h2 := eqMb_iff.1 h
      subst h2
      exact absurd (same_self _ _ _) f10
  have HS00 : Hid (Sb w ((w.alloc (.cells #[.int .i64 m.id, .int .i64 m.n, .int .i64 m.term, .int .i64 m.vote, .int .i64 m.role, .int .i64 m.lead, .int .i64 m.b, .int .i64 m.bt, .slice s.ea m.es.length s.ec, .int .i64 m.commit, .slice s.sa m.snap.length s.sc, .slice s.ga m.granted.length s.gc, .slice s.xa m.next.length s.xc, .slice s.ma m.mtch.length s.mc, .int .i64 m.clock, .int .i64 m.wait] 31)).alloc (.cells #[.int .i64 m2.id, .int .i64 m2.n, .int .i64 m2.term, .int .i64 m2.vote, .int .i64 m2.role, .int .i64 m2.lead, .int .i64 m2.b, .int .i64 m2.bt, .slice s2.ea m2.es.length s2.ec, .int .i64 m2.commit, .slice s2.sa m2.snap.length s2.sc, .slice s2.ga m2.granted.length s2.gc, .slice s2.xa m2.next.length s2.xc, .slice s2.ma m2.mtch.length s2.mc, .int .i64 m2.clock, .int .i64 m2.wait] 31)) s m s2 m2) := Sb.first w s m s2 m2
  have x0 : (m.id == m2.id) = true := by simp [e0]
  have y0 : (m.id != m2.id) = false := by simp [e0]
  have x1 : (m.n == m2.n) = true := by simp [e1]
  have y1 : (m.n != m2.n) = false := by simp [e1]
  have x2 : (m.term == m2.term) = true := by simp [e2]
  have y2 : (m.term != m2.term) = false := by simp [e2]
  have x3 : (m.vote == m2.vote) = true := by simp [e3]
  have y3 : (m.vote != m2.vote) = false := by simp [e3]
  have x4 : (m.role == m2.role) = true := by simp [e4]
  have y4 : (m.role != m2.role) = false := by simp [e4]
  have x5 : (m.lead == m2.lead) = true := by simp [e5]
  have y5 : (m.lead != m2.lead) = false := by simp [e5]
  have x6 : (m.commit == m2.commit) = true := by simp [e6]
  have y6 : (m.commit != m2.commit) = false := by simp [e6]
  have x7 : (m.clock == m2.clock) = true := by simp [e7]
  have y7 : (m.clock != m2.clock) = false := by simp [e7]
  have x8 : (m.wait == m2.wait) = true := by simp [e8]
  have y8 : (m.wait != m2.wait) = false := by simp [e8]
  have HB2 : Below w.heap.size w ((w.alloc (.cells #[.int .i64 m.id, .int .i64 m.n, .int .i64 m.term, .int .i64 m.vote, .int .i64 m.role, .int .i64 m.lead, .int .i64 m.b, .int .i64 m.bt, .slice s.ea m.es.length s.ec, .int .i64 m.commit, .slice s.sa m.snap.length s.sc, .slice s.ga m.granted.length s.gc, .slice s.xa m.next.length s.xc, .slice s.ma m.mtch.length s.mc, .int .i64 m.clock, .int .i64 m.wait] 31)).alloc (.cells #[.int .i64 m2.id, .int .i64 m2.n, .int .i64 m2.term, .int .i64 m2.vote, .int .i64 m2.role, .int .i64 m2.lead, .int .i64 m2.b, .int .i64 m2.bt, .slice s2.ea m2.es.length s2.ec, .int .i64 m2.commit, .slice s2.sa m2.snap.length s2.sc, .slice s2.ga m2.granted.length s2.gc, .slice s2.xa m2.next.length s2.xc, .slice s2.ma m2.mtch.length s2.mc, .int .i64 m2.clock, .int .i64 m2.wait] 31)) := below2 _ _ _
  have c1 := convert_str (hm.sn.below HB2)
  have c3 := convert_str (hm2.sn.below HB2)
  have z1 := str_same m.snap m2.snap
  rw [show decide (m.snap = m2.snap) = true by exact decide_eq_true e9] at z1
  clear HB2
  have HLs : Hid (∀ wx, Below w.heap.size w wx → Calls Try.prog 34 #[.agg #[.int .i64 m.b, .int .i64 m.bt, .slice s.ea m.es.length s.ec], .agg #[.int .i64 m2.b, .int .i64 m2.bt, .slice s2.ea m2.es.length s2.ec]] wx fun e w' => e = .returned (.bool false) ∧ Below wx.heap.size wx w') := fun wx q => by
    have h := RSame_any _ _ m.b m.bt m2.b m2.bt s.ea s2.ea s.ec s2.ec m.es m2.es wx (hm.e.below q) (hm2.e.below q)
    rw [show sameM m.b m.bt m.es m2.b m2.bt m2.es = false by simpa using f10] at h
    exact h
  rw [HE.out]
  clear hm hm2 HE e0 e1 e2 e3 e4 e5 e6 e7 e8 e9 f10
  unfold mbA
  obtain ⟨p0, p1, p2, p3, p4, p5, p6, p7, p8, p9, p10, p11, p12, p13, p14, p15, pf⟩ := HS00.out.p
  obtain ⟨q0, q1, q2, q3, q4, q5, q6, q7, q8, q9, q10, q11, q12, q13, q14, q15, qf⟩ := HS00.out.q
  have hp0 : w.heap.size < ((w.alloc (.cells #[.int .i64 m.id, .int .i64 m.n, .int .i64 m.term, .int .i64 m.vote, .int .i64 m.role, .int .i64 m.lead, .int .i64 m.b, .int .i64 m.bt, .slice s.ea m.es.length s.ec, .int .i64 m.commit, .slice s.sa m.snap.length s.sc, .slice s.ga m.granted.length s.gc, .slice s.xa m.next.length s.xc, .slice s.ma m.mtch.length s.mc, .int .i64 m.clock, .int .i64 m.wait] 31)).alloc (.cells #[.int .i64 m2.id, .int .i64 m2.n, .int .i64 m2.term, .int .i64 m2.vote, .int .i64 m2.role, .int .i64 m2.lead, .int .i64 m2.b, .int .i64 m2.bt, .slice s2.ea m2.es.length s2.ec, .int .i64 m2.commit, .slice s2.sa m2.snap.length s2.sc, .slice s2.ga m2.granted.length s2.gc, .slice s2.xa m2.next.length s2.xc, .slice s2.ma m2.mtch.length s2.mc, .int .i64 m2.clock, .int .i64 m2.wait] 31)).heap.size := HS00.out.p.lt
  have hq0 : w.heap.size + 1 < ((w.alloc (.cells #[.int .i64 m.id, .int .i64 m.n, .int .i64 m.term, .int .i64 m.vote, .int .i64 m.role, .int .i64 m.lead, .int .i64 m.b, .int .i64 m.bt, .slice s.ea m.es.length s.ec, .int .i64 m.commit, .slice s.sa m.snap.length s.sc, .slice s.ga m.granted.length s.gc, .slice s.xa m.next.length s.xc, .slice s.ma m.mtch.length s.mc, .int .i64 m.clock, .int .i64 m.wait] 31)).alloc (.cells #[.int .i64 m2.id, .int .i64 m2.n, .int .i64 m2.term, .int .i64 m2.vote, .int .i64 m2.role, .int .i64 m2.lead, .int .i64 m2.b, .int .i64 m2.bt, .slice s2.ea m2.es.length s2.ec, .int .i64 m2.commit, .slice s2.sa m2.snap.length s2.sc, .slice s2.ga m2.granted.length s2.gc, .slice s2.xa m2.next.length s2.xc, .slice s2.ma m2.mtch.length s2.mc, .int .i64 m2.clock, .int .i64 m2.wait] 31)).heap.size := HS00.out.q.lt
  generalize str m.snap = st1 at *
  generalize str m2.snap = st2 at *
  go_enter Try.func13, Try.ntmps13
  go_wp2_with (first
    | (go_at_call 34; refine (HLs.out _ HS00.out.l).mono ?_; rintro e w1 ⟨rfl, qB⟩; have HSw1 : Hid (Sb w w1 s m s2 m2) := HS00.out.below qB; obtain ⟨p0, p1, p2, p3, p4, p5, p6, p7, p8, p9, p10, p11, p12, p13, p14, p15, pf⟩ := HSw1.out.p; obtain ⟨q0, q1, q2, q3, q4, q5, q6, q7, q8, q9, q10, q11, q12, q13, q14, q15, qf⟩ := HSw1.out.q; have hpw1 : w.heap.size < w1.heap.size := HSw1.out.p.lt; have hqw1 : w.heap.size + 1 < w1.heap.size := HSw1.out.q.lt; clear qB)
    | (simp only [c1, c3]))
  go_ret
  exact ⟨rfl, HSw1.out.l⟩
set_option maxRecDepth 100000 in
set_option maxHeartbeats 2000000 in
theorem RSame_c11 {w : World} {s s2 : Ad} {m m2 : Mb} (hm : MbV w (fun _ => True) s m) (hm2 : MbV w (fun _ => True) s2 m2) (e0 : m.id = m2.id) (e1 : m.n = m2.n) (e2 : m.term = m2.term) (e3 : m.vote = m2.vote) (e4 : m.role = m2.role) (e5 : m.lead = m2.lead) (e6 : m.commit = m2.commit) (e7 : m.clock = m2.clock) (e8 : m.wait = m2.wait) (e9 : m.snap = m2.snap) (e10 : sameM m.b m.bt m.es m2.b m2.bt m2.es = true) (f11 : ¬ m.granted = m2.granted) : Calls Try.prog 13 #[mbA s m, mbA s2 m2] w fun e w' => e = .returned (.bool (eqMb m m2)) ∧ Below w.heap.size w w' := by
  have HE : Hid (eqMb m m2 = false) := by
    show _ = _
    cases h : eqMb m m2 with
    | false => rfl
    | true =>
      have h2 := eqMb_iff.1 h
      subst h2
      exact absurd rfl f11
  have HS00 : Hid (Sb w ((w.alloc (.cells #[.int .i64 m.id, .int .i64 m.n, .int .i64 m.term, .int .i64 m.vote, .int .i64 m.role, .int .i64 m.lead, .int .i64 m.b, .int .i64 m.bt, .slice s.ea m.es.length s.ec, .int .i64 m.commit, .slice s.sa m.snap.length s.sc, .slice s.ga m.granted.length s.gc, .slice s.xa m.next.length s.xc, .slice s.ma m.mtch.length s.mc, .int .i64 m.clock, .int .i64 m.wait] 31)).alloc (.cells #[.int .i64 m2.id, .int .i64 m2.n, .int .i64 m2.term, .int .i64 m2.vote, .int .i64 m2.role, .int .i64 m2.lead, .int .i64 m2.b, .int .i64 m2.bt, .slice s2.ea m2.es.length s2.ec, .int .i64 m2.commit, .slice s2.sa m2.snap.length s2.sc, .slice s2.ga m2.granted.length s2.gc, .slice s2.xa m2.next.length s2.xc, .slice s2.ma m2.mtch.length s2.mc, .int .i64 m2.clock, .int .i64 m2.wait] 31)) s m s2 m2) := Sb.first w s m s2 m2
  have x0 : (m.id == m2.id) = true := by simp [e0]
  have y0 : (m.id != m2.id) = false := by simp [e0]
  have x1 : (m.n == m2.n) = true := by simp [e1]
  have y1 : (m.n != m2.n) = false := by simp [e1]
  have x2 : (m.term == m2.term) = true := by simp [e2]
  have y2 : (m.term != m2.term) = false := by simp [e2]
  have x3 : (m.vote == m2.vote) = true := by simp [e3]
  have y3 : (m.vote != m2.vote) = false := by simp [e3]
  have x4 : (m.role == m2.role) = true := by simp [e4]
  have y4 : (m.role != m2.role) = false := by simp [e4]
  have x5 : (m.lead == m2.lead) = true := by simp [e5]
  have y5 : (m.lead != m2.lead) = false := by simp [e5]
  have x6 : (m.commit == m2.commit) = true := by simp [e6]
  have y6 : (m.commit != m2.commit) = false := by simp [e6]
  have x7 : (m.clock == m2.clock) = true := by simp [e7]
  have y7 : (m.clock != m2.clock) = false := by simp [e7]
  have x8 : (m.wait == m2.wait) = true := by simp [e8]
  have y8 : (m.wait != m2.wait) = false := by simp [e8]
  have HB2 : Below w.heap.size w ((w.alloc (.cells #[.int .i64 m.id, .int .i64 m.n, .int .i64 m.term, .int .i64 m.vote, .int .i64 m.role, .int .i64 m.lead, .int .i64 m.b, .int .i64 m.bt, .slice s.ea m.es.length s.ec, .int .i64 m.commit, .slice s.sa m.snap.length s.sc, .slice s.ga m.granted.length s.gc, .slice s.xa m.next.length s.xc, .slice s.ma m.mtch.length s.mc, .int .i64 m.clock, .int .i64 m.wait] 31)).alloc (.cells #[.int .i64 m2.id, .int .i64 m2.n, .int .i64 m2.term, .int .i64 m2.vote, .int .i64 m2.role, .int .i64 m2.lead, .int .i64 m2.b, .int .i64 m2.bt, .slice s2.ea m2.es.length s2.ec, .int .i64 m2.commit, .slice s2.sa m2.snap.length s2.sc, .slice s2.ga m2.granted.length s2.gc, .slice s2.xa m2.next.length s2.xc, .slice s2.ma m2.mtch.length s2.mc, .int .i64 m2.clock, .int .i64 m2.wait] 31)) := below2 _ _ _
  have c1 := convert_str (hm.sn.below HB2)
  have c3 := convert_str (hm2.sn.below HB2)
  have z1 := str_same m.snap m2.snap
  rw [show decide (m.snap = m2.snap) = true by exact decide_eq_true e9] at z1
  clear HB2
  have HLs : Hid (∀ wx, Below w.heap.size w wx → Calls Try.prog 34 #[.agg #[.int .i64 m.b, .int .i64 m.bt, .slice s.ea m.es.length s.ec], .agg #[.int .i64 m2.b, .int .i64 m2.bt, .slice s2.ea m2.es.length s2.ec]] wx fun e w' => e = .returned (.bool true) ∧ Below wx.heap.size wx w') := fun wx q => by
    have h := RSame_any _ _ m.b m.bt m2.b m2.bt s.ea s2.ea s.ec s2.ec m.es m2.es wx (hm.e.below q) (hm2.e.below q)
    rw [show sameM m.b m.bt m.es m2.b m2.bt m2.es = true by exact e10] at h
    exact h
  have HC11 : Hid (∀ wx, Below w.heap.size w wx → Calls Try.prog 35 #[.slice s.ga m.granted.length s.gc, .slice s2.ga m2.granted.length s2.gc] wx fun e w' => e = .returned (.bool false) ∧ Below wx.heap.size wx w') := fun wx q => by
    have h := RBools_any (hm.g.below q) (hm2.g.below q)
    rw [show decide (m.granted = m2.granted) = false by exact decide_eq_false f11] at h
    exact h
  rw [HE.out]
  clear hm hm2 HE e0 e1 e2 e3 e4 e5 e6 e7 e8 e9 e10 f11
  unfold mbA
  obtain ⟨p0, p1, p2, p3, p4, p5, p6, p7, p8, p9, p10, p11, p12, p13, p14, p15, pf⟩ := HS00.out.p
  obtain ⟨q0, q1, q2, q3, q4, q5, q6, q7, q8, q9, q10, q11, q12, q13, q14, q15, qf⟩ := HS00.out.q
  have hp0 : w.heap.size < ((w.alloc (.cells #[.int .i64 m.id, .int .i64 m.n, .int .i64 m.term, .int .i64 m.vote, .int .i64 m.role, .int .i64 m.lead, .int .i64 m.b, .int .i64 m.bt, .slice s.ea m.es.length s.ec, .int .i64 m.commit, .slice s.sa m.snap.length s.sc, .slice s.ga m.granted.length s.gc, .slice s.xa m.next.length s.xc, .slice s.ma m.mtch.length s.mc, .int .i64 m.clock, .int .i64 m.wait] 31)).alloc (.cells #[.int .i64 m2.id, .int .i64 m2.n, .int .i64 m2.term, .int .i64 m2.vote, .int .i64 m2.role, .int .i64 m2.lead, .int .i64 m2.b, .int .i64 m2.bt, .slice s2.ea m2.es.length s2.ec, .int .i64 m2.commit, .slice s2.sa m2.snap.length s2.sc, .slice s2.ga m2.granted.length s2.gc, .slice s2.xa m2.next.length s2.xc, .slice s2.ma m2.mtch.length s2.mc, .int .i64 m2.clock, .int .i64 m2.wait] 31)).heap.size := HS00.out.p.lt
  have hq0 : w.heap.size + 1 < ((w.alloc (.cells #[.int .i64 m.id, .int .i64 m.n, .int .i64 m.term, .int .i64 m.vote, .int .i64 m.role, .int .i64 m.lead, .int .i64 m.b, .int .i64 m.bt, .slice s.ea m.es.length s.ec, .int .i64 m.commit, .slice s.sa m.snap.length s.sc, .slice s.ga m.granted.length s.gc, .slice s.xa m.next.length s.xc, .slice s.ma m.mtch.length s.mc, .int .i64 m.clock, .int .i64 m.wait] 31)).alloc (.cells #[.int .i64 m2.id, .int .i64 m2.n, .int .i64 m2.term, .int .i64 m2.vote, .int .i64 m2.role, .int .i64 m2.lead, .int .i64 m2.b, .int .i64 m2.bt, .slice s2.ea m2.es.length s2.ec, .int .i64 m2.commit, .slice s2.sa m2.snap.length s2.sc, .slice s2.ga m2.granted.length s2.gc, .slice s2.xa m2.next.length s2.xc, .slice s2.ma m2.mtch.length s2.mc, .int .i64 m2.clock, .int .i64 m2.wait] 31)).heap.size := HS00.out.q.lt
  generalize str m.snap = st1 at *
  generalize str m2.snap = st2 at *
  go_enter Try.func13, Try.ntmps13
  go_wp2_with (first
    | (go_at_call 34; refine (HLs.out _ HS00.out.l).mono ?_; rintro e w1 ⟨rfl, qB⟩; have HSw1 : Hid (Sb w w1 s m s2 m2) := HS00.out.below qB; obtain ⟨p0, p1, p2, p3, p4, p5, p6, p7, p8, p9, p10, p11, p12, p13, p14, p15, pf⟩ := HSw1.out.p; obtain ⟨q0, q1, q2, q3, q4, q5, q6, q7, q8, q9, q10, q11, q12, q13, q14, q15, qf⟩ := HSw1.out.q; have hpw1 : w.heap.size < w1.heap.size := HSw1.out.p.lt; have hqw1 : w.heap.size + 1 < w1.heap.size := HSw1.out.q.lt; clear qB)
    | (go_at_call 35; refine (HC11.out _ HSw1.out.l).mono ?_; rintro e w2 ⟨rfl, qB⟩; have HSw2 : Hid (Sb w w2 s m s2 m2) := HSw1.out.below qB; obtain ⟨p0, p1, p2, p3, p4, p5, p6, p7, p8, p9, p10, p11, p12, p13, p14, p15, pf⟩ := HSw2.out.p; obtain ⟨q0, q1, q2, q3, q4, q5, q6, q7, q8, q9, q10, q11, q12, q13, q14, q15, qf⟩ := HSw2.out.q; have hpw2 : w.heap.size < w2.heap.size := HSw2.out.p.lt; have hqw2 : w.heap.size + 1 < w2.heap.size := HSw2.out.q.lt; clear qB)
    | (simp only [c1, c3]))
  go_ret
  exact ⟨rfl, HSw2.out.l⟩
set_option maxRecDepth 100000 in
set_option maxHeartbeats 2000000 in
theorem RSame_c12 {w : World} {s s2 : Ad} {m m2 : Mb} (hm : MbV w (fun _ => True) s m) (hm2 : MbV w (fun _ => True) s2 m2) (e0 : m.id = m2.id) (e1 : m.n = m2.n) (e2 : m.term = m2.term) (e3 : m.vote = m2.vote) (e4 : m.role = m2.role) (e5 : m.lead = m2.lead) (e6 : m.commit = m2.commit) (e7 : m.clock = m2.clock) (e8 : m.wait = m2.wait) (e9 : m.snap = m2.snap) (e10 : sameM m.b m.bt m.es m2.b m2.bt m2.es = true) (e11 : m.granted = m2.granted) (f12 : ¬ m.next = m2.next) : Calls Try.prog 13 #[mbA s m, mbA s2 m2] w fun e w' => e = .returned (.bool (eqMb m m2)) ∧ Below w.heap.size w w' := by
  have HE : Hid (eqMb m m2 = false) := by
    show _ = _
    cases h : eqMb m m2 with
    | false => rfl
    | true =>
      have h2 := eqMb_iff.1 h
      subst h2
      exact absurd rfl f12
  have HS00 : Hid (Sb w ((w.alloc (.cells #[.int .i64 m.id, .int .i64 m.n, .int .i64 m.term, .int .i64 m.vote, .int .i64 m.role, .int .i64 m.lead, .int .i64 m.b, .int .i64 m.bt, .slice s.ea m.es.length s.ec, .int .i64 m.commit, .slice s.sa m.snap.length s.sc, .slice s.ga m.granted.length s.gc, .slice s.xa m.next.length s.xc, .slice s.ma m.mtch.length s.mc, .int .i64 m.clock, .int .i64 m.wait] 31)).alloc (.cells #[.int .i64 m2.id, .int .i64 m2.n, .int .i64 m2.term, .int .i64 m2.vote, .int .i64 m2.role, .int .i64 m2.lead, .int .i64 m2.b, .int .i64 m2.bt, .slice s2.ea m2.es.length s2.ec, .int .i64 m2.commit, .slice s2.sa m2.snap.length s2.sc, .slice s2.ga m2.granted.length s2.gc, .slice s2.xa m2.next.length s2.xc, .slice s2.ma m2.mtch.length s2.mc, .int .i64 m2.clock, .int .i64 m2.wait] 31)) s m s2 m2) := Sb.first w s m s2 m2
  have x0 : (m.id == m2.id) = true := by simp [e0]
  have y0 : (m.id != m2.id) = false := by simp [e0]
  have x1 : (m.n == m2.n) = true := by simp [e1]
  have y1 : (m.n != m2.n) = false := by simp [e1]
  have x2 : (m.term == m2.term) = true := by simp [e2]
  have y2 : (m.term != m2.term) = false := by simp [e2]
  have x3 : (m.vote == m2.vote) = true := by simp [e3]
  have y3 : (m.vote != m2.vote) = false := by simp [e3]
  have x4 : (m.role == m2.role) = true := by simp [e4]
  have y4 : (m.role != m2.role) = false := by simp [e4]
  have x5 : (m.lead == m2.lead) = true := by simp [e5]
  have y5 : (m.lead != m2.lead) = false := by simp [e5]
  have x6 : (m.commit == m2.commit) = true := by simp [e6]
  have y6 : (m.commit != m2.commit) = false := by simp [e6]
  have x7 : (m.clock == m2.clock) = true := by simp [e7]
  have y7 : (m.clock != m2.clock) = false := by simp [e7]
  have x8 : (m.wait == m2.wait) = true := by simp [e8]
  have y8 : (m.wait != m2.wait) = false := by simp [e8]
  have HB2 : Below w.heap.size w ((w.alloc (.cells #[.int .i64 m.id, .int .i64 m.n, .int .i64 m.term, .int .i64 m.vote, .int .i64 m.role, .int .i64 m.lead, .int .i64 m.b, .int .i64 m.bt, .slice s.ea m.es.length s.ec, .int .i64 m.commit, .slice s.sa m.snap.length s.sc, .slice s.ga m.granted.length s.gc, .slice s.xa m.next.length s.xc, .slice s.ma m.mtch.length s.mc, .int .i64 m.clock, .int .i64 m.wait] 31)).alloc (.cells #[.int .i64 m2.id, .int .i64 m2.n, .int .i64 m2.term, .int .i64 m2.vote, .int .i64 m2.role, .int .i64 m2.lead, .int .i64 m2.b, .int .i64 m2.bt, .slice s2.ea m2.es.length s2.ec, .int .i64 m2.commit, .slice s2.sa m2.snap.length s2.sc, .slice s2.ga m2.granted.length s2.gc, .slice s2.xa m2.next.length s2.xc, .slice s2.ma m2.mtch.length s2.mc, .int .i64 m2.clock, .int .i64 m2.wait] 31)) := below2 _ _ _
  have c1 := convert_str (hm.sn.below HB2)
  have c3 := convert_str (hm2.sn.below HB2)
  have z1 := str_same m.snap m2.snap
  rw [show decide (m.snap = m2.snap) = true by exact decide_eq_true e9] at z1
  clear HB2
  have HLs : Hid (∀ wx, Below w.heap.size w wx → Calls Try.prog 34 #[.agg #[.int .i64 m.b, .int .i64 m.bt, .slice s.ea m.es.length s.ec], .agg #[.int .i64 m2.b, .int .i64 m2.bt, .slice s2.ea m2.es.length s2.ec]] wx fun e w' => e = .returned (.bool true) ∧ Below wx.heap.size wx w') := fun wx q => by
    have h := RSame_any _ _ m.b m.bt m2.b m2.bt s.ea s2.ea s.ec s2.ec m.es m2.es wx (hm.e.below q) (hm2.e.below q)
    rw [show sameM m.b m.bt m.es m2.b m2.bt m2.es = true by exact e10] at h
    exact h
  have HC11 : Hid (∀ wx, Below w.heap.size w wx → Calls Try.prog 35 #[.slice s.ga m.granted.length s.gc, .slice s2.ga m2.granted.length s2.gc] wx fun e w' => e = .returned (.bool true) ∧ Below wx.heap.size wx w') := fun wx q => by
    have h := RBools_any (hm.g.below q) (hm2.g.below q)
    rw [show decide (m.granted = m2.granted) = true by exact decide_eq_true e11] at h
    exact h
  have HC12 : Hid (∀ wx, Below w.heap.size w wx → Calls Try.prog 36 #[.slice s.xa m.next.length s.xc, .slice s2.xa m2.next.length s2.xc] wx fun e w' => e = .returned (.bool false) ∧ Below wx.heap.size wx w') := fun wx q => by
    have h := RInts_any (hm.x.below q) (hm2.x.below q)
    rw [show decide (m.next = m2.next) = false by exact decide_eq_false f12] at h
    exact h
  rw [HE.out]
  clear hm hm2 HE e0 e1 e2 e3 e4 e5 e6 e7 e8 e9 e10 e11 f12
  unfold mbA
  obtain ⟨p0, p1, p2, p3, p4, p5, p6, p7, p8, p9, p10, p11, p12, p13, p14, p15, pf⟩ := HS00.out.p
  obtain ⟨q0, q1, q2, q3, q4, q5, q6, q7, q8, q9, q10, q11, q12, q13, q14, q15, qf⟩ := HS00.out.q
  have hp0 : w.heap.size < ((w.alloc (.cells #[.int .i64 m.id, .int .i64 m.n, .int .i64 m.term, .int .i64 m.vote, .int .i64 m.role, .int .i64 m.lead, .int .i64 m.b, .int .i64 m.bt, .slice s.ea m.es.length s.ec, .int .i64 m.commit, .slice s.sa m.snap.length s.sc, .slice s.ga m.granted.length s.gc, .slice s.xa m.next.length s.xc, .slice s.ma m.mtch.length s.mc, .int .i64 m.clock, .int .i64 m.wait] 31)).alloc (.cells #[.int .i64 m2.id, .int .i64 m2.n, .int .i64 m2.term, .int .i64 m2.vote, .int .i64 m2.role, .int .i64 m2.lead, .int .i64 m2.b, .int .i64 m2.bt, .slice s2.ea m2.es.length s2.ec, .int .i64 m2.commit, .slice s2.sa m2.snap.length s2.sc, .slice s2.ga m2.granted.length s2.gc, .slice s2.xa m2.next.length s2.xc, .slice s2.ma m2.mtch.length s2.mc, .int .i64 m2.clock, .int .i64 m2.wait] 31)).heap.size := HS00.out.p.lt
  have hq0 : w.heap.size + 1 < ((w.alloc (.cells #[.int .i64 m.id, .int .i64 m.n, .int .i64 m.term, .int .i64 m.vote, .int .i64 m.role, .int .i64 m.lead, .int .i64 m.b, .int .i64 m.bt, .slice s.ea m.es.length s.ec, .int .i64 m.commit, .slice s.sa m.snap.length s.sc, .slice s.ga m.granted.length s.gc, .slice s.xa m.next.length s.xc, .slice s.ma m.mtch.length s.mc, .int .i64 m.clock, .int .i64 m.wait] 31)).alloc (.cells #[.int .i64 m2.id, .int .i64 m2.n, .int .i64 m2.term, .int .i64 m2.vote, .int .i64 m2.role, .int .i64 m2.lead, .int .i64 m2.b, .int .i64 m2.bt, .slice s2.ea m2.es.length s2.ec, .int .i64 m2.commit, .slice s2.sa m2.snap.length s2.sc, .slice s2.ga m2.granted.length s2.gc, .slice s2.xa m2.next.length s2.xc, .slice s2.ma m2.mtch.length s2.mc, .int .i64 m2.clock, .int .i64 m2.wait] 31)).heap.size := HS00.out.q.lt
  generalize str m.snap = st1 at *
  generalize str m2.snap = st2 at *
  go_enter Try.func13, Try.ntmps13
  go_wp2_with (first
    | (go_at_call 34; refine (HLs.out _ HS00.out.l).mono ?_; rintro e w1 ⟨rfl, qB⟩; have HSw1 : Hid (Sb w w1 s m s2 m2) := HS00.out.below qB; obtain ⟨p0, p1, p2, p3, p4, p5, p6, p7, p8, p9, p10, p11, p12, p13, p14, p15, pf⟩ := HSw1.out.p; obtain ⟨q0, q1, q2, q3, q4, q5, q6, q7, q8, q9, q10, q11, q12, q13, q14, q15, qf⟩ := HSw1.out.q; have hpw1 : w.heap.size < w1.heap.size := HSw1.out.p.lt; have hqw1 : w.heap.size + 1 < w1.heap.size := HSw1.out.q.lt; clear qB)
    | (go_at_call 35; refine (HC11.out _ HSw1.out.l).mono ?_; rintro e w2 ⟨rfl, qB⟩; have HSw2 : Hid (Sb w w2 s m s2 m2) := HSw1.out.below qB; obtain ⟨p0, p1, p2, p3, p4, p5, p6, p7, p8, p9, p10, p11, p12, p13, p14, p15, pf⟩ := HSw2.out.p; obtain ⟨q0, q1, q2, q3, q4, q5, q6, q7, q8, q9, q10, q11, q12, q13, q14, q15, qf⟩ := HSw2.out.q; have hpw2 : w.heap.size < w2.heap.size := HSw2.out.p.lt; have hqw2 : w.heap.size + 1 < w2.heap.size := HSw2.out.q.lt; clear qB)
    | (go_at_call 36; refine (HC12.out _ HSw2.out.l).mono ?_; rintro e w3 ⟨rfl, qB⟩; have HSw3 : Hid (Sb w w3 s m s2 m2) := HSw2.out.below qB; obtain ⟨p0, p1, p2, p3, p4, p5, p6, p7, p8, p9, p10, p11, p12, p13, p14, p15, pf⟩ := HSw3.out.p; obtain ⟨q0, q1, q2, q3, q4, q5, q6, q7, q8, q9, q10, q11, q12, q13, q14, q15, qf⟩ := HSw3.out.q; have hpw3 : w.heap.size < w3.heap.size := HSw3.out.p.lt; have hqw3 : w.heap.size + 1 < w3.heap.size := HSw3.out.q.lt; have HD3 : Hid True := trivial; clear qB)
    | (simp only [c1, c3]))
  go_ret
  exact ⟨rfl, HSw3.out.l⟩
end
section
open Go.RowKit
set_option linter.unusedVariables false
set_option linter.unusedSimpArgs false


set_option maxRecDepth 100000 in
set_option maxHeartbeats 2000000 in
theorem RSame_c13 {w : World} {s s2 : Ad} {m m2 : Mb} (hm : MbV w (fun _ => True) s m) (hm2 : MbV w (fun _ => True) s2 m2) (e0 : m.id = m2.id) (e1 : m.n = m2.n) (e2 : m.term = m2.term) (e3 : m.vote = m2.vote) (e4 : m.role = m2.role) (e5 : m.lead = m2.lead) (e6 : m.commit = m2.commit) (e7 : m.clock = m2.clock) (e8 : m.wait = m2.wait) (e9 : m.snap = m2.snap) (e10 : sameM m.b m.bt m.es m2.b m2.bt m2.es = true) (e11 : m.granted = m2.granted) (e12 : m.next = m2.next) (f13 : ¬ m.mtch = m2.mtch) : Calls Try.prog 13 #[mbA s m, mbA s2 m2] w fun e w' => e = .returned (.bool (eqMb m m2)) ∧ Below w.heap.size w w' := by
  have HE : Hid (eqMb m m2 = false) := by
    show _ = _
    cases h : eqMb m m2 with
    | false => rfl
    | true =>
      have h2 := eqMb_iff.1 h
      subst h2
      exact absurd rfl f13
  have HS00 : Hid (Sb w ((w.alloc (.cells #[.int .i64 m.id, .int .i64 m.n, .int .i64 m.term, .int .i64 m.vote, .int .i64 m.role, .int .i64 m.lead, .int .i64 m.b, .int .i64 m.bt, .slice s.ea m.es.length s.ec, .int .i64 m.commit, .slice s.sa m.snap.length s.sc, .slice s.ga m.granted.length s.gc, .slice s.xa m.next.length s.xc, .slice s.ma m.mtch.length s.mc, .int .i64 m.clock, .int .i64 m.wait] 31)).alloc (.cells #[.int .i64 m2.id, .int .i64 m2.n, .int .i64 m2.term, .int .i64 m2.vote, .int .i64 m2.role, .int .i64 m2.lead, .int .i64 m2.b, .int .i64 m2.bt, .slice s2.ea m2.es.length s2.ec, .int .i64 m2.commit, .slice s2.sa m2.snap.length s2.sc, .slice s2.ga m2.granted.length s2.gc, .slice s2.xa m2.next.length s2.xc, .slice s2.ma m2.mtch.length s2.mc, .int .i64 m2.clock, .int .i64 m2.wait] 31)) s m s2 m2) := Sb.first w s m s2 m2
  have x0 : (m.id == m2.id) = true := by simp [e0]
  have y0 : (m.id != m2.id) = false := by simp [e0]
  have x1 : (m.n == m2.n) = true := by simp [e1]
  have y1 : (m.n != m2.n) = false := by simp [e1]
  have x2 : (m.term == m2.term) = true := by simp [e2]
  have y2 : (m.term != m2.term) = false := by simp [e2]
  have x3 : (m.vote == m2.vote) = true := by simp [e3]
  have y3 : (m.vote != m2.vote) = false := by simp [e3]
  have x4 : (m.role == m2.role) = true := by simp [e4]
  have y4 : (m.role != m2.role) = false := by simp [e4]
  have x5 : (m.lead == m2.lead) = true := by simp [e5]
  have y5 : (m.lead != m2.lead) = false := by simp [e5]
  have x6 : (m.commit == m2.commit) = true := by simp [e6]
  have y6 : (m.commit != m2.commit) = false := by simp [e6]
  have x7 : (m.clock == m2.clock) = true := by simp [e7]
  have y7 : (m.clock != m2.clock) = false := by simp [e7]
  have x8 : (m.wait == m2.wait) = true := by simp [e8]
  have y8 : (m.wait != m2.wait) = false := by simp [e8]
  have HB2 : Below w.heap.size w ((w.alloc (.cells #[.int .i64 m.id, .int .i64 m.n, .int .i64 m.term, .int .i64 m.vote, .int .i64 m.role, .int .i64 m.lead, .int .i64 m.b, .int .i64 m.bt, .slice s.ea m.es.length s.ec, .int .i64 m.commit, .slice s.sa m.snap.length s.sc, .slice s.ga m.granted.length s.gc, .slice s.xa m.next.length s.xc, .slice s.ma m.mtch.length s.mc, .int .i64 m.clock, .int .i64 m.wait] 31)).alloc (.cells #[.int .i64 m2.id, .int .i64 m2.n, .int .i64 m2.term, .int .i64 m2.vote, .int .i64 m2.role, .int .i64 m2.lead, .int .i64 m2.b, .int .i64 m2.bt, .slice s2.ea m2.es.length s2.ec, .int .i64 m2.commit, .slice s2.sa m2.snap.length s2.sc, .slice s2.ga m2.granted.length s2.gc, .slice s2.xa m2.next.length s2.xc, .slice s2.ma m2.mtch.length s2.mc, .int .i64 m2.clock, .int .i64 m2.wait] 31)) := below2 _ _ _
  have c1 := convert_str (hm.sn.below HB2)
  have c3 := convert_str (hm2.sn.below HB2)
  have z1 := str_same m.snap m2.snap
  rw [show decide (m.snap = m2.snap) = true by exact decide_eq_true e9] at z1
  clear HB2
  have HLs : Hid (∀ wx, Below w.heap.size w wx → Calls Try.prog 34 #[.agg #[.int .i64 m.b, .int .i64 m.bt, .slice s.ea m.es.length s.ec], .agg #[.int .i64 m2.b, .int .i64 m2.bt, .slice s2.ea m2.es.length s2.ec]] wx fun e w' => e = .returned (.bool true) ∧ Below wx.heap.size wx w') := fun wx q => by
    have h := RSame_any _ _ m.b m.bt m2.b m2.bt s.ea s2.ea s.ec s2.ec m.es m2.es wx (hm.e.below q) (hm2.e.below q)
    rw [show sameM m.b m.bt m.es m2.b m2.bt m2.es = true by exact e10] at h
    exact h
  have HC11 : Hid (∀ wx, Below w.heap.size w wx → Calls Try.prog 35 #[.slice s.ga m.granted.length s.gc, .slice s2.ga m2.granted.length s2.gc] wx fun e w' => e = .returned (.bool true) ∧ Below wx.heap.size wx w') := fun wx q => by
    have h := RBools_any (hm.g.below q) (hm2.g.below q)
    rw [show decide (m.granted = m2.granted) = true by exact decide_eq_true e11] at h
    exact h
  have HC12 : Hid (∀ wx, Below w.heap.size w wx → Calls Try.prog 36 #[.slice s.xa m.next.length s.xc, .slice s2.xa m2.next.length s2.xc] wx fun e w' => e = .returned (.bool true) ∧ Below wx.heap.size wx w') := fun wx q => by
    have h := RInts_any (hm.x.below q) (hm2.x.below q)
    rw [show decide (m.next = m2.next) = true by exact decide_eq_true e12] at h
    exact h
  have HC13 : Hid (∀ wx, Below w.heap.size w wx → Calls Try.prog 36 #[.slice s.ma m.mtch.length s.mc, .slice s2.ma m2.mtch.length s2.mc] wx fun e w' => e = .returned (.bool false) ∧ Below wx.heap.size wx w') := fun wx q => by
    have h := RInts_any (hm.t.below q) (hm2.t.below q)
    rw [show decide (m.mtch = m2.mtch) = false by exact decide_eq_false f13] at h
    exact h
  rw [HE.out]
  clear hm hm2 HE e0 e1 e2 e3 e4 e5 e6 e7 e8 e9 e10 e11 e12 f13
  unfold mbA
  obtain ⟨p0, p1, p2, p3, p4, p5, p6, p7, p8, p9, p10, p11, p12, p13, p14, p15, pf⟩ := HS00.out.p
  obtain ⟨q0, q1, q2, q3, q4, q5, q6, q7, q8, q9, q10, q11, q12, q13, q14, q15, qf⟩ := HS00.out.q
  have hp0 : w.heap.size < ((w.alloc (.cells #[.int .i64 m.id, .int .i64 m.n, .int .i64 m.term, .int .i64 m.vote, .int .i64 m.role, .int .i64 m.lead, .int .i64 m.b, .int .i64 m.bt, .slice s.ea m.es.length s.ec, .int .i64 m.commit, .slice s.sa m.snap.length s.sc, .slice s.ga m.granted.length s.gc, .slice s.xa m.next.length s.xc, .slice s.ma m.mtch.length s.mc, .int .i64 m.clock, .int .i64 m.wait] 31)).alloc (.cells #[.int .i64 m2.id, .int .i64 m2.n, .int .i64 m2.term, .int .i64 m2.vote, .int .i64 m2.role, .int .i64 m2.lead, .int .i64 m2.b, .int .i64 m2.bt, .slice s2.ea m2.es.length s2.ec, .int .i64 m2.commit, .slice s2.sa m2.snap.length s2.sc, .slice s2.ga m2.granted.length s2.gc, .slice s2.xa m2.next.length s2.xc, .slice s2.ma m2.mtch.length s2.mc, .int .i64 m2.clock, .int .i64 m2.wait] 31)).heap.size := HS00.out.p.lt
  have hq0 : w.heap.size + 1 < ((w.alloc (.cells #[.int .i64 m.id, .int .i64 m.n, .int .i64 m.term, .int .i64 m.vote, .int .i64 m.role, .int .i64 m.lead, .int .i64 m.b, .int .i64 m.bt, .slice s.ea m.es.length s.ec, .int .i64 m.commit, .slice s.sa m.snap.length s.sc, .slice s.ga m.granted.length s.gc, .slice s.xa m.next.length s.xc, .slice s.ma m.mtch.length s.mc, .int .i64 m.clock, .int .i64 m.wait] 31)).alloc (.cells #[.int .i64 m2.id, .int .i64 m2.n, .int .i64 m2.term, .int .i64 m2.vote, .int .i64 m2.role, .int .i64 m2.lead, .int .i64 m2.b, .int .i64 m2.bt, .slice s2.ea m2.es.length s2.ec, .int .i64 m2.commit, .slice s2.sa m2.snap.length s2.sc, .slice s2.ga m2.granted.length s2.gc, .slice s2.xa m2.next.length s2.xc, .slice s2.ma m2.mtch.length s2.mc, .int .i64 m2.clock, .int .i64 m2.wait] 31)).heap.size := HS00.out.q.lt
  generalize str m.snap = st1 at *
  generalize str m2.snap = st2 at *
  go_enter Try.func13, Try.ntmps13
  go_wp2_with (first
    | (go_at_call 36; have := HD3; refine (HC13.out _ HSw3.out.l).mono ?_; rintro e w4 ⟨rfl, qB⟩; have HSw4 : Hid (Sb w w4 s m s2 m2) := HSw3.out.below qB; obtain ⟨p0, p1, p2, p3, p4, p5, p6, p7, p8, p9, p10, p11, p12, p13, p14, p15, pf⟩ := HSw4.out.p; obtain ⟨q0, q1, q2, q3, q4, q5, q6, q7, q8, q9, q10, q11, q12, q13, q14, q15, qf⟩ := HSw4.out.q; have hpw4 : w.heap.size < w4.heap.size := HSw4.out.p.lt; have hqw4 : w.heap.size + 1 < w4.heap.size := HSw4.out.q.lt; clear qB)
    | (go_at_call 34; refine (HLs.out _ HS00.out.l).mono ?_; rintro e w1 ⟨rfl, qB⟩; have HSw1 : Hid (Sb w w1 s m s2 m2) := HS00.out.below qB; obtain ⟨p0, p1, p2, p3, p4, p5, p6, p7, p8, p9, p10, p11, p12, p13, p14, p15, pf⟩ := HSw1.out.p; obtain ⟨q0, q1, q2, q3, q4, q5, q6, q7, q8, q9, q10, q11, q12, q13, q14, q15, qf⟩ := HSw1.out.q; have hpw1 : w.heap.size < w1.heap.size := HSw1.out.p.lt; have hqw1 : w.heap.size + 1 < w1.heap.size := HSw1.out.q.lt; clear qB)
    | (go_at_call 35; refine (HC11.out _ HSw1.out.l).mono ?_; rintro e w2 ⟨rfl, qB⟩; have HSw2 : Hid (Sb w w2 s m s2 m2) := HSw1.out.below qB; obtain ⟨p0, p1, p2, p3, p4, p5, p6, p7, p8, p9, p10, p11, p12, p13, p14, p15, pf⟩ := HSw2.out.p; obtain ⟨q0, q1, q2, q3, q4, q5, q6, q7, q8, q9, q10, q11, q12, q13, q14, q15, qf⟩ := HSw2.out.q; have hpw2 : w.heap.size < w2.heap.size := HSw2.out.p.lt; have hqw2 : w.heap.size + 1 < w2.heap.size := HSw2.out.q.lt; clear qB)
    | (go_at_call 36; refine (HC12.out _ HSw2.out.l).mono ?_; rintro e w3 ⟨rfl, qB⟩; have HSw3 : Hid (Sb w w3 s m s2 m2) := HSw2.out.below qB; obtain ⟨p0, p1, p2, p3, p4, p5, p6, p7, p8, p9, p10, p11, p12, p13, p14, p15, pf⟩ := HSw3.out.p; obtain ⟨q0, q1, q2, q3, q4, q5, q6, q7, q8, q9, q10, q11, q12, q13, q14, q15, qf⟩ := HSw3.out.q; have hpw3 : w.heap.size < w3.heap.size := HSw3.out.p.lt; have hqw3 : w.heap.size + 1 < w3.heap.size := HSw3.out.q.lt; have HD3 : Hid True := trivial; clear qB)
    | (simp only [c1, c3]))
  go_ret
  exact ⟨rfl, HSw4.out.l⟩
set_option maxRecDepth 100000 in
set_option maxHeartbeats 2000000 in
theorem RSame_c14 {w : World} {s s2 : Ad} {m m2 : Mb} (hm : MbV w (fun _ => True) s m) (hm2 : MbV w (fun _ => True) s2 m2) (e0 : m.id = m2.id) (e1 : m.n = m2.n) (e2 : m.term = m2.term) (e3 : m.vote = m2.vote) (e4 : m.role = m2.role) (e5 : m.lead = m2.lead) (e6 : m.commit = m2.commit) (e7 : m.clock = m2.clock) (e8 : m.wait = m2.wait) (e9 : m.snap = m2.snap) (e10 : sameM m.b m.bt m.es m2.b m2.bt m2.es = true) (e11 : m.granted = m2.granted) (e12 : m.next = m2.next) (e13 : m.mtch = m2.mtch) : Calls Try.prog 13 #[mbA s m, mbA s2 m2] w fun e w' => e = .returned (.bool (eqMb m m2)) ∧ Below w.heap.size w w' := by
  have HE : Hid (eqMb m m2 = true) := by
    show _ = _
    unfold eqMb
    simp [*]
  have HS00 : Hid (Sb w ((w.alloc (.cells #[.int .i64 m.id, .int .i64 m.n, .int .i64 m.term, .int .i64 m.vote, .int .i64 m.role, .int .i64 m.lead, .int .i64 m.b, .int .i64 m.bt, .slice s.ea m.es.length s.ec, .int .i64 m.commit, .slice s.sa m.snap.length s.sc, .slice s.ga m.granted.length s.gc, .slice s.xa m.next.length s.xc, .slice s.ma m.mtch.length s.mc, .int .i64 m.clock, .int .i64 m.wait] 31)).alloc (.cells #[.int .i64 m2.id, .int .i64 m2.n, .int .i64 m2.term, .int .i64 m2.vote, .int .i64 m2.role, .int .i64 m2.lead, .int .i64 m2.b, .int .i64 m2.bt, .slice s2.ea m2.es.length s2.ec, .int .i64 m2.commit, .slice s2.sa m2.snap.length s2.sc, .slice s2.ga m2.granted.length s2.gc, .slice s2.xa m2.next.length s2.xc, .slice s2.ma m2.mtch.length s2.mc, .int .i64 m2.clock, .int .i64 m2.wait] 31)) s m s2 m2) := Sb.first w s m s2 m2
  have x0 : (m.id == m2.id) = true := by simp [e0]
  have y0 : (m.id != m2.id) = false := by simp [e0]
  have x1 : (m.n == m2.n) = true := by simp [e1]
  have y1 : (m.n != m2.n) = false := by simp [e1]
  have x2 : (m.term == m2.term) = true := by simp [e2]
  have y2 : (m.term != m2.term) = false := by simp [e2]
  have x3 : (m.vote == m2.vote) = true := by simp [e3]
  have y3 : (m.vote != m2.vote) = false := by simp [e3]
  have x4 : (m.role == m2.role) = true := by simp [e4]
  have y4 : (m.role != m2.role) = false := by simp [e4]
  have x5 : (m.lead == m2.lead) = true := by simp [e5]
  have y5 : (m.lead != m2.lead) = false := by simp [e5]
  have x6 : (m.commit == m2.commit) = true := by simp [e6]
  have y6 : (m.commit != m2.commit) = false := by simp [e6]
  have x7 : (m.clock == m2.clock) = true := by simp [e7]
  have y7 : (m.clock != m2.clock) = false := by simp [e7]
  have x8 : (m.wait == m2.wait) = true := by simp [e8]
  have y8 : (m.wait != m2.wait) = false := by simp [e8]
  have HB2 : Below w.heap.size w ((w.alloc (.cells #[.int .i64 m.id, .int .i64 m.n, .int .i64 m.term, .int .i64 m.vote, .int .i64 m.role, .int .i64 m.lead, .int .i64 m.b, .int .i64 m.bt, .slice s.ea m.es.length s.ec, .int .i64 m.commit, .slice s.sa m.snap.length s.sc, .slice s.ga m.granted.length s.gc, .slice s.xa m.next.length s.xc, .slice s.ma m.mtch.length s.mc, .int .i64 m.clock, .int .i64 m.wait] 31)).alloc (.cells #[.int .i64 m2.id, .int .i64 m2.n, .int .i64 m2.term, .int .i64 m2.vote, .int .i64 m2.role, .int .i64 m2.lead, .int .i64 m2.b, .int .i64 m2.bt, .slice s2.ea m2.es.length s2.ec, .int .i64 m2.commit, .slice s2.sa m2.snap.length s2.sc, .slice s2.ga m2.granted.length s2.gc, .slice s2.xa m2.next.length s2.xc, .slice s2.ma m2.mtch.length s2.mc, .int .i64 m2.clock, .int .i64 m2.wait] 31)) := below2 _ _ _
  have c1 := convert_str (hm.sn.below HB2)
  have c3 := convert_str (hm2.sn.below HB2)
  have z1 := str_same m.snap m2.snap
  rw [show decide (m.snap = m2.snap) = true by exact decide_eq_true e9] at z1
  clear HB2
  have HLs : Hid (∀ wx, Below w.heap.size w wx → Calls Try.prog 34 #[.agg #[.int .i64 m.b, .int .i64 m.bt, .slice s.ea m.es.length s.ec], .agg #[.int .i64 m2.b, .int .i64 m2.bt, .slice s2.ea m2.es.length s2.ec]] wx fun e w' => e = .returned (.bool true) ∧ Below wx.heap.size wx w') := fun wx q => by
    have h := RSame_any _ _ m.b m.bt m2.b m2.bt s.ea s2.ea s.ec s2.ec m.es m2.es wx (hm.e.below q) (hm2.e.below q)
    rw [show sameM m.b m.bt m.es m2.b m2.bt m2.es = true by exact e10] at h
    exact h
  have HC11 : Hid (∀ wx, Below w.heap.size w wx → Calls Try.prog 35 #[.slice s.ga m.granted.length s.gc, .slice s2.ga m2.granted.length s2.gc] wx fun e w' => e = .returned (.bool true) ∧ Below wx.heap.size wx w') := fun wx q => by
    have h := RBools_any (hm.g.below q) (hm2.g.below q)
    rw [show decide (m.granted = m2.granted) = true by exact decide_eq_true e11] at h
    exact h
  have HC12 : Hid (∀ wx, Below w.heap.size w wx → Calls Try.prog 36 #[.slice s.xa m.next.length s.xc, .slice s2.xa m2.next.length s2.xc] wx fun e w' => e = .returned (.bool true) ∧ Below wx.heap.size wx w') := fun wx q => by
    have h := RInts_any (hm.x.below q) (hm2.x.below q)
    rw [show decide (m.next = m2.next) = true by exact decide_eq_true e12] at h
    exact h
  have HC13 : Hid (∀ wx, Below w.heap.size w wx → Calls Try.prog 36 #[.slice s.ma m.mtch.length s.mc, .slice s2.ma m2.mtch.length s2.mc] wx fun e w' => e = .returned (.bool true) ∧ Below wx.heap.size wx w') := fun wx q => by
    have h := RInts_any (hm.t.below q) (hm2.t.below q)
    rw [show decide (m.mtch = m2.mtch) = true by exact decide_eq_true e13] at h
    exact h
  rw [HE.out]
  clear hm hm2 HE e0 e1 e2 e3 e4 e5 e6 e7 e8 e9 e10 e11 e12 e13
  unfold mbA
  obtain ⟨p0, p1, p2, p3, p4, p5, p6, p7, p8, p9, p10, p11, p12, p13, p14, p15, pf⟩ := HS00.out.p
  obtain ⟨q0, q1, q2, q3, q4, q5, q6, q7, q8, q9, q10, q11, q12, q13, q14, q15, qf⟩ := HS00.out.q
  have hp0 : w.heap.size < ((w.alloc (.cells #[.int .i64 m.id, .int .i64 m.n, .int .i64 m.term, .int .i64 m.vote, .int .i64 m.role, .int .i64 m.lead, .int .i64 m.b, .int .i64 m.bt, .slice s.ea m.es.length s.ec, .int .i64 m.commit, .slice s.sa m.snap.length s.sc, .slice s.ga m.granted.length s.gc, .slice s.xa m.next.length s.xc, .slice s.ma m.mtch.length s.mc, .int .i64 m.clock, .int .i64 m.wait] 31)).alloc (.cells #[.int .i64 m2.id, .int .i64 m2.n, .int .i64 m2.term, .int .i64 m2.vote, .int .i64 m2.role, .int .i64 m2.lead, .int .i64 m2.b, .int .i64 m2.bt, .slice s2.ea m2.es.length s2.ec, .int .i64 m2.commit, .slice s2.sa m2.snap.length s2.sc, .slice s2.ga m2.granted.length s2.gc, .slice s2.xa m2.next.length s2.xc, .slice s2.ma m2.mtch.length s2.mc, .int .i64 m2.clock, .int .i64 m2.wait] 31)).heap.size := HS00.out.p.lt
  have hq0 : w.heap.size + 1 < ((w.alloc (.cells #[.int .i64 m.id, .int .i64 m.n, .int .i64 m.term, .int .i64 m.vote, .int .i64 m.role, .int .i64 m.lead, .int .i64 m.b, .int .i64 m.bt, .slice s.ea m.es.length s.ec, .int .i64 m.commit, .slice s.sa m.snap.length s.sc, .slice s.ga m.granted.length s.gc, .slice s.xa m.next.length s.xc, .slice s.ma m.mtch.length s.mc, .int .i64 m.clock, .int .i64 m.wait] 31)).alloc (.cells #[.int .i64 m2.id, .int .i64 m2.n, .int .i64 m2.term, .int .i64 m2.vote, .int .i64 m2.role, .int .i64 m2.lead, .int .i64 m2.b, .int .i64 m2.bt, .slice s2.ea m2.es.length s2.ec, .int .i64 m2.commit, .slice s2.sa m2.snap.length s2.sc, .slice s2.ga m2.granted.length s2.gc, .slice s2.xa m2.next.length s2.xc, .slice s2.ma m2.mtch.length s2.mc, .int .i64 m2.clock, .int .i64 m2.wait] 31)).heap.size := HS00.out.q.lt
  generalize str m.snap = st1 at *
  generalize str m2.snap = st2 at *
  go_enter Try.func13, Try.ntmps13
  go_wp2_with (first
    | (go_at_call 36; have := HD3; refine (HC13.out _ HSw3.out.l).mono ?_; rintro e w4 ⟨rfl, qB⟩; have HSw4 : Hid (Sb w w4 s m s2 m2) := HSw3.out.below qB; obtain ⟨p0, p1, p2, p3, p4, p5, p6, p7, p8, p9, p10, p11, p12, p13, p14, p15, pf⟩ := HSw4.out.p; obtain ⟨q0, q1, q2, q3, q4, q5, q6, q7, q8, q9, q10, q11, q12, q13, q14, q15, qf⟩ := HSw4.out.q; have hpw4 : w.heap.size < w4.heap.size := HSw4.out.p.lt; have hqw4 : w.heap.size + 1 < w4.heap.size := HSw4.out.q.lt; clear qB)
    | (go_at_call 34; refine (HLs.out _ HS00.out.l).mono ?_; rintro e w1 ⟨rfl, qB⟩; have HSw1 : Hid (Sb w w1 s m s2 m2) := HS00.out.below qB; obtain ⟨p0, p1, p2, p3, p4, p5, p6, p7, p8, p9, p10, p11, p12, p13, p14, p15, pf⟩ := HSw1.out.p; obtain ⟨q0, q1, q2, q3, q4, q5, q6, q7, q8, q9, q10, q11, q12, q13, q14, q15, qf⟩ := HSw1.out.q; have hpw1 : w.heap.size < w1.heap.size := HSw1.out.p.lt; have hqw1 : w.heap.size + 1 < w1.heap.size := HSw1.out.q.lt; clear qB)
    | (go_at_call 35; refine (HC11.out _ HSw1.out.l).mono ?_; rintro e w2 ⟨rfl, qB⟩; have HSw2 : Hid (Sb w w2 s m s2 m2) := HSw1.out.below qB; obtain ⟨p0, p1, p2, p3, p4, p5, p6, p7, p8, p9, p10, p11, p12, p13, p14, p15, pf⟩ := HSw2.out.p; obtain ⟨q0, q1, q2, q3, q4, q5, q6, q7, q8, q9, q10, q11, q12, q13, q14, q15, qf⟩ := HSw2.out.q; have hpw2 : w.heap.size < w2.heap.size := HSw2.out.p.lt; have hqw2 : w.heap.size + 1 < w2.heap.size := HSw2.out.q.lt; clear qB)
    | (go_at_call 36; refine (HC12.out _ HSw2.out.l).mono ?_; rintro e w3 ⟨rfl, qB⟩; have HSw3 : Hid (Sb w w3 s m s2 m2) := HSw2.out.below qB; obtain ⟨p0, p1, p2, p3, p4, p5, p6, p7, p8, p9, p10, p11, p12, p13, p14, p15, pf⟩ := HSw3.out.p; obtain ⟨q0, q1, q2, q3, q4, q5, q6, q7, q8, q9, q10, q11, q12, q13, q14, q15, qf⟩ := HSw3.out.q; have hpw3 : w.heap.size < w3.heap.size := HSw3.out.p.lt; have hqw3 : w.heap.size + 1 < w3.heap.size := HSw3.out.q.lt; have HD3 : Hid True := trivial; clear qB)
    | (simp only [c1, c3]))
  go_ret
  exact ⟨rfl, HSw4.out.l⟩
end
section
open Go.RowKit
set_option linter.unusedVariables false
set_option linter.unusedSimpArgs false


theorem RMSame_any {w : World} {s s2 : Ad} {m m2 : Mb} (hm : MbV w (fun _ => True) s m) (hm2 : MbV w (fun _ => True) s2 m2) : Calls Try.prog 13 #[mbA s m, mbA s2 m2] w fun e w' => e = .returned (.bool (eqMb m m2)) ∧ Below w.heap.size w w' := by
  by_cases e0 : m.id = m2.id
  · by_cases e1 : m.n = m2.n
    · by_cases e2 : m.term = m2.term
      · by_cases e3 : m.vote = m2.vote
        · by_cases e4 : m.role = m2.role
          · by_cases e5 : m.lead = m2.lead
            · by_cases e6 : m.commit = m2.commit
              · by_cases e7 : m.clock = m2.clock
                · by_cases e8 : m.wait = m2.wait
                  · by_cases e9 : m.snap = m2.snap
                    · by_cases e10 : sameM m.b m.bt m.es m2.b m2.bt m2.es = true
                      · by_cases e11 : m.granted = m2.granted
                        · by_cases e12 : m.next = m2.next
                          · by_cases e13 : m.mtch = m2.mtch
                            · exact RSame_c14 hm hm2 e0 e1 e2 e3 e4 e5 e6 e7 e8 e9 e10 e11 e12 e13
                            · exact RSame_c13 hm hm2 e0 e1 e2 e3 e4 e5 e6 e7 e8 e9 e10 e11 e12 e13
                          · exact RSame_c12 hm hm2 e0 e1 e2 e3 e4 e5 e6 e7 e8 e9 e10 e11 e12
                        · exact RSame_c11 hm hm2 e0 e1 e2 e3 e4 e5 e6 e7 e8 e9 e10 e11
                      · exact RSame_c10 hm hm2 e0 e1 e2 e3 e4 e5 e6 e7 e8 e9 e10
                    · exact RSame_c9 hm hm2 e0 e1 e2 e3 e4 e5 e6 e7 e8 e9
                  · exact RSame_c8 hm hm2 e0 e1 e2 e3 e4 e5 e6 e7 e8
                · exact RSame_c7 hm hm2 e0 e1 e2 e3 e4 e5 e6 e7
              · exact RSame_c6 hm hm2 e0 e1 e2 e3 e4 e5 e6
            · exact RSame_c5 hm hm2 e0 e1 e2 e3 e4 e5
          · exact RSame_c4 hm hm2 e0 e1 e2 e3 e4
        · exact RSame_c3 hm hm2 e0 e1 e2 e3
      · exact RSame_c2 hm hm2 e0 e1 e2
    · exact RSame_c1 hm hm2 e0 e1
  · exact RSame_c0 hm hm2  e0
end
end Go.Proofs.Ytfmfphfckaiejaa
