/-
  The program's Tick and Propose, off an older box: contracts.
-/
import Derived.Test.YtfmfphfckaiejaaJbp
namespace Go.Proofs.Ytfmfphfckaiejaa
open Go.RowKit
set_option linter.unusedVariables false
set_option linter.unusedSimpArgs false


set_option maxRecDepth 100000 in
set_option maxHeartbeats 2000000 in
theorem TickP_not1 {w : World} {s : Ad} {m : Mb} {p : Nat} (hp : p < w.heap.size) (hm : MbV w (fun g => g ≠ p) s m) {K : Int} (hk : WfK K m) (hz : WfZ m) (wf : WfM m) (draw : Int) (hd : InR draw) (hel : m.es.length ≤ 800) (hr : ¬ m.role = 3) (hc : ¬ m.clock + 1 < m.wait) : Calls Try.prog 22 #[mbA s m, .int .i64 draw] w (TkQ p (tickM m draw) w) := by
  have HAm : Hid (∀ wx, Calls Try.prog 26 #[.int .i64 m.id, .int .i64 m.n] wx fun e w' => e = .returned (.bool true) ∧ w' = wx) := fun wx => among_yes m.id m.n wx wf.i3 wf.i1 wf.i2
  obtain ⟨n, hn⟩ : ∃ n : Nat, m.n = n := ⟨m.n.toNat, by have := wf.i1; have := wf.i2; omega⟩
  have hw7 := wf.i3
  have HW0 : Hid (Wk (((w.alloc (Obj.cells #[.int .i64 m.id, .int .i64 m.n, .int .i64 m.term, .int .i64 m.vote, .int .i64 m.role, .int .i64 m.lead, .int .i64 m.b, .int .i64 m.bt, .slice s.ea m.es.length s.ec, .int .i64 m.commit, .slice s.sa m.snap.length s.sc, .slice s.ga m.granted.length s.gc, .slice s.xa m.next.length s.xc, .slice s.ma m.mtch.length s.mc, .int .i64 m.clock, .int .i64 m.wait] 31)).alloc (Obj.cells #[.int .i64 0, .int .i64 0, .int .i64 0, .int .i64 0, .int .i64 0, .int .i64 0, .int .i64 0, .int .i64 0, .slice none 0 0, .int .i64 0, .slice none 0 0, .slice none 0 0, .slice none 0 0, .slice none 0 0, .int .i64 0, .int .i64 0] 31)).alloc (Obj.cells #[.int .i64 m.id, .int .i64 m.n, .int .i64 m.term, .int .i64 m.vote, .int .i64 m.role, .int .i64 m.lead, .int .i64 m.b, .int .i64 m.bt, .slice s.ea m.es.length s.ec, .int .i64 m.commit, .slice s.sa m.snap.length s.sc, .slice s.ga m.granted.length s.gc, .slice s.xa m.next.length s.xc, .slice s.ma m.mtch.length s.mc, .int .i64 (m.clock + 1), .int .i64 m.wait, .slice none 0 0] 84)) (p + 1) (w.heap.size + 1 + 1) s { m with clock := (m.clock + 1) } (.slice none 0 0) []) := Wk.beginP hp (m := { m with clock := (m.clock + 1) }) ⟨hm.e, hm.sn, hm.sP, hm.g, hm.gP, hm.x, hm.xP, hm.t, hm.tP⟩ _ _
  obtain ⟨m2, hm2⟩ : ∃ m2, (askM { m with clock := (m.clock + 1) } draw).1 = m2 := ⟨_, rfl⟩
  obtain ⟨t2, ht2⟩ : ∃ t2, (askM { m with clock := (m.clock + 1) } draw).2 = t2 := ⟨_, rfl⟩
  have HEq : Hid (tickM m draw = (m2, t2)) := by show _ = _; rw [← ht2, ← hm2]; unfold tickM; rw [if_neg hr, if_neg (by omega)]
  have HFi : Hid (Fit m2 t2) := fit_tick hk hz HEq.out
  have HCa : Hid (Calls Try.prog 47 #[.pointer (some ⟨w.heap.size + 1 + 1, 0, none⟩), .int .i64 draw] (((w.alloc (Obj.cells #[.int .i64 m.id, .int .i64 m.n, .int .i64 m.term, .int .i64 m.vote, .int .i64 m.role, .int .i64 m.lead, .int .i64 m.b, .int .i64 m.bt, .slice s.ea m.es.length s.ec, .int .i64 m.commit, .slice s.sa m.snap.length s.sc, .slice s.ga m.granted.length s.gc, .slice s.xa m.next.length s.xc, .slice s.ma m.mtch.length s.mc, .int .i64 m.clock, .int .i64 m.wait] 31)).alloc (Obj.cells #[.int .i64 0, .int .i64 0, .int .i64 0, .int .i64 0, .int .i64 0, .int .i64 0, .int .i64 0, .int .i64 0, .slice none 0 0, .int .i64 0, .slice none 0 0, .slice none 0 0, .slice none 0 0, .slice none 0 0, .int .i64 0, .int .i64 0] 31)).alloc (Obj.cells #[.int .i64 m.id, .int .i64 m.n, .int .i64 m.term, .int .i64 m.vote, .int .i64 m.role, .int .i64 m.lead, .int .i64 m.b, .int .i64 m.bt, .slice s.ea m.es.length s.ec, .int .i64 m.commit, .slice s.sa m.snap.length s.sc, .slice s.ga m.granted.length s.gc, .slice s.xa m.next.length s.xc, .slice s.ma m.mtch.length s.mc, .int .i64 (m.clock + 1), .int .i64 m.wait, .slice none 0 0] 84)) fun e w' => e = .returned (.tuple #[]) ∧ ∃ s2 a2 n2 c2, RdyP p w w' s2 m2 a2 n2 c2 t2) := by
    refine (ask_any HW0.out n ⟨hn, by omega, wf.i1, by show m.id ≤ _; have := wf.i2; omega, wf.b1, by show m.b ≤ _; have := wf.b2; omega, wf.es, by show m.es.length ≤ _; omega, wf.t1, by show m.term ≤ _; have := wf.t2; omega, wf.sn⟩ draw hd (by simp)).mono fun e w' ⟨z1, s2, v', z2, z3⟩ => ?_
    obtain ⟨a2, c2, hv⟩ := z2.o.form
    subst hv
    rw [hm2] at z2
    rw [List.nil_append] at z2 z3
    rw [ht2] at z2 z3
    exact ⟨z1, _, _, _, _, RdyP.of hp (m0 := { m with clock := (m.clock + 1) }) (s0 := s) rfl z2 z3⟩
  clear hm2 ht2
  have k1 := wf.k1
  have k2 := wf.k2
  clear hk hz hm wf hd
  unfold mbA
  have hr2 : (m.role == 3) = false := beq_eq_false_iff_ne.2 hr
  have hr3 : (m.role != 3) = true := by simp [hr]
  have hc2 : decide (m.wait ≤ m.clock + 1) = true := decide_eq_true (by omega)
  clear hn hr
  go_enter Try.func22, Try.ntmps22
  go_wp2_with (first
    | (go_at_call 26; refine (HAm.out _).mono ?_; rintro e w1 ⟨rfl, rfl⟩)
    | (go_at_call 47; refine HCa.out.mono ?_; rintro e wx ⟨rfl, s2, a2, n2, c2, q⟩; have HR : Hid (RdyP p w wx s2 m2 a2 n2 c2 t2) := q; have hMx : w.heap.size + 1 + 1 < wx.heap.size := q.k.lt; clear q))
  have hMx : w.heap.size + 1 + 1 < wx.heap.size := HR.out.k.lt
  have hQx : w.heap.size + 1 < wx.heap.size := by omega
  have nQ1 : w.heap.size + 1 ≠ w.heap.size + 1 + 1 := by omega
  have nQ2 : w.heap.size + 1 + 1 ≠ w.heap.size + 1 := by omega
  obtain ⟨y0, y1, y2, y3, y4, y5, y6, y7, y8, y9, y10, y11, y12, y13, y14, y15, y16, yf⟩ := HR.out.k.c
  obtain ⟨z0, z1, z2, z3, z4, z5, z6, z7, z8, z9, z10, z11, z12, z13, z14, z15, zf⟩ := HR.out.q
  have HZ : Hid (Cl16 ((((((((((((((((wx.setCell ⟨w.heap.size + 1, 0, none⟩ (.int .i64 m2.id)).setCell ⟨w.heap.size + 1, 1, none⟩ (.int .i64 m2.n)).setCell ⟨w.heap.size + 1, 2, none⟩ (.int .i64 m2.term)).setCell ⟨w.heap.size + 1, 3, none⟩ (.int .i64 m2.vote)).setCell ⟨w.heap.size + 1, 4, none⟩ (.int .i64 m2.role)).setCell ⟨w.heap.size + 1, 5, none⟩ (.int .i64 m2.lead)).setCell ⟨w.heap.size + 1, 6, none⟩ (.int .i64 m2.b)).setCell ⟨w.heap.size + 1, 7, none⟩ (.int .i64 m2.bt)).setCell ⟨w.heap.size + 1, 8, none⟩ (.slice s2.ea m2.es.length s2.ec)).setCell ⟨w.heap.size + 1, 9, none⟩ (.int .i64 m2.commit)).setCell ⟨w.heap.size + 1, 10, none⟩ (.slice s2.sa m2.snap.length s2.sc)).setCell ⟨w.heap.size + 1, 11, none⟩ (.slice s2.ga m2.granted.length s2.gc)).setCell ⟨w.heap.size + 1, 12, none⟩ (.slice s2.xa m2.next.length s2.xc)).setCell ⟨w.heap.size + 1, 13, none⟩ (.slice s2.ma m2.mtch.length s2.mc)).setCell ⟨w.heap.size + 1, 14, none⟩ (.int .i64 m2.clock)).setCell ⟨w.heap.size + 1, 15, none⟩ (.int .i64 m2.wait)).drew (w.heap.size + 1) (.int .i64 m2.id) (.int .i64 m2.n) (.int .i64 m2.term) (.int .i64 m2.vote) (.int .i64 m2.role) (.int .i64 m2.lead) (.int .i64 m2.b) (.int .i64 m2.bt) (.slice s2.ea m2.es.length s2.ec) (.int .i64 m2.commit) (.slice s2.sa m2.snap.length s2.sc) (.slice s2.ga m2.granted.length s2.gc) (.slice s2.xa m2.next.length s2.xc) (.slice s2.ma m2.mtch.length s2.mc) (.int .i64 m2.clock) (.int .i64 m2.wait) ∧ TkQ p (tickM m draw) w (.returned (.tuple #[.agg #[.int .i64 m2.id, .int .i64 m2.n, .int .i64 m2.term, .int .i64 m2.vote, .int .i64 m2.role, .int .i64 m2.lead, .int .i64 m2.b, .int .i64 m2.bt, .slice s2.ea m2.es.length s2.ec, .int .i64 m2.commit, .slice s2.sa m2.snap.length s2.sc, .slice s2.ga m2.granted.length s2.gc, .slice s2.xa m2.next.length s2.xc, .slice s2.ma m2.mtch.length s2.mc, .int .i64 m2.clock, .int .i64 m2.wait], .slice a2 n2 c2])) ((((((((((((((((wx.setCell ⟨w.heap.size + 1, 0, none⟩ (.int .i64 m2.id)).setCell ⟨w.heap.size + 1, 1, none⟩ (.int .i64 m2.n)).setCell ⟨w.heap.size + 1, 2, none⟩ (.int .i64 m2.term)).setCell ⟨w.heap.size + 1, 3, none⟩ (.int .i64 m2.vote)).setCell ⟨w.heap.size + 1, 4, none⟩ (.int .i64 m2.role)).setCell ⟨w.heap.size + 1, 5, none⟩ (.int .i64 m2.lead)).setCell ⟨w.heap.size + 1, 6, none⟩ (.int .i64 m2.b)).setCell ⟨w.heap.size + 1, 7, none⟩ (.int .i64 m2.bt)).setCell ⟨w.heap.size + 1, 8, none⟩ (.slice s2.ea m2.es.length s2.ec)).setCell ⟨w.heap.size + 1, 9, none⟩ (.int .i64 m2.commit)).setCell ⟨w.heap.size + 1, 10, none⟩ (.slice s2.sa m2.snap.length s2.sc)).setCell ⟨w.heap.size + 1, 11, none⟩ (.slice s2.ga m2.granted.length s2.gc)).setCell ⟨w.heap.size + 1, 12, none⟩ (.slice s2.xa m2.next.length s2.xc)).setCell ⟨w.heap.size + 1, 13, none⟩ (.slice s2.ma m2.mtch.length s2.mc)).setCell ⟨w.heap.size + 1, 14, none⟩ (.int .i64 m2.clock)).setCell ⟨w.heap.size + 1, 15, none⟩ (.int .i64 m2.wait)).drew) := by rw [HEq.out]; exact HR.out.fin HFi.out (HR.out.q.boxed (.int .i64 m2.id) (.int .i64 m2.n) (.int .i64 m2.term) (.int .i64 m2.vote) (.int .i64 m2.role) (.int .i64 m2.lead) (.int .i64 m2.b) (.int .i64 m2.bt) (.slice s2.ea m2.es.length s2.ec) (.int .i64 m2.commit) (.slice s2.sa m2.snap.length s2.sc) (.slice s2.ga m2.granted.length s2.gc) (.slice s2.xa m2.next.length s2.xc) (.slice s2.ma m2.mtch.length s2.mc) (.int .i64 m2.clock) (.int .i64 m2.wait)) (fun g hg => Cl16.other hg) (Cl16.under HR.out.b (Nat.le_succ _))
  go_region_held3 (fun w' => w'.cell? ⟨w.heap.size + 1 + 1, 0, none⟩ = some (.int .i64 m2.id) ∧ w'.cell? ⟨w.heap.size + 1 + 1, 1, none⟩ = some (.int .i64 m2.n) ∧ w'.cell? ⟨w.heap.size + 1 + 1, 2, none⟩ = some (.int .i64 m2.term) ∧ w'.cell? ⟨w.heap.size + 1 + 1, 3, none⟩ = some (.int .i64 m2.vote) ∧ w'.cell? ⟨w.heap.size + 1 + 1, 4, none⟩ = some (.int .i64 m2.role) ∧ w'.cell? ⟨w.heap.size + 1 + 1, 5, none⟩ = some (.int .i64 m2.lead) ∧ w'.cell? ⟨w.heap.size + 1 + 1, 6, none⟩ = some (.int .i64 m2.b) ∧ w'.cell? ⟨w.heap.size + 1 + 1, 7, none⟩ = some (.int .i64 m2.bt) ∧ w'.cell? ⟨w.heap.size + 1 + 1, 8, none⟩ = some (.slice s2.ea m2.es.length s2.ec) ∧ w'.cell? ⟨w.heap.size + 1 + 1, 9, none⟩ = some (.int .i64 m2.commit) ∧ w'.cell? ⟨w.heap.size + 1 + 1, 10, none⟩ = some (.slice s2.sa m2.snap.length s2.sc) ∧ w'.cell? ⟨w.heap.size + 1 + 1, 11, none⟩ = some (.slice s2.ga m2.granted.length s2.gc) ∧ w'.cell? ⟨w.heap.size + 1 + 1, 12, none⟩ = some (.slice s2.xa m2.next.length s2.xc) ∧ w'.cell? ⟨w.heap.size + 1 + 1, 13, none⟩ = some (.slice s2.ma m2.mtch.length s2.mc) ∧ w'.cell? ⟨w.heap.size + 1 + 1, 14, none⟩ = some (.int .i64 m2.clock) ∧ w'.cell? ⟨w.heap.size + 1 + 1, 15, none⟩ = some (.int .i64 m2.wait) ∧ w'.cell? ⟨w.heap.size + 1 + 1, 16, none⟩ = some (.slice a2 n2 c2)) (go_keep) (fail)
  all_goals (
    obtain ⟨wz, hwz⟩ : ∃ wz, ((((((((((((((((wx.setCell ⟨w.heap.size + 1, 0, none⟩ (.int .i64 m2.id)).setCell ⟨w.heap.size + 1, 1, none⟩ (.int .i64 m2.n)).setCell ⟨w.heap.size + 1, 2, none⟩ (.int .i64 m2.term)).setCell ⟨w.heap.size + 1, 3, none⟩ (.int .i64 m2.vote)).setCell ⟨w.heap.size + 1, 4, none⟩ (.int .i64 m2.role)).setCell ⟨w.heap.size + 1, 5, none⟩ (.int .i64 m2.lead)).setCell ⟨w.heap.size + 1, 6, none⟩ (.int .i64 m2.b)).setCell ⟨w.heap.size + 1, 7, none⟩ (.int .i64 m2.bt)).setCell ⟨w.heap.size + 1, 8, none⟩ (.slice s2.ea m2.es.length s2.ec)).setCell ⟨w.heap.size + 1, 9, none⟩ (.int .i64 m2.commit)).setCell ⟨w.heap.size + 1, 10, none⟩ (.slice s2.sa m2.snap.length s2.sc)).setCell ⟨w.heap.size + 1, 11, none⟩ (.slice s2.ga m2.granted.length s2.gc)).setCell ⟨w.heap.size + 1, 12, none⟩ (.slice s2.xa m2.next.length s2.xc)).setCell ⟨w.heap.size + 1, 13, none⟩ (.slice s2.ma m2.mtch.length s2.mc)).setCell ⟨w.heap.size + 1, 14, none⟩ (.int .i64 m2.clock)).setCell ⟨w.heap.size + 1, 15, none⟩ (.int .i64 m2.wait)).drew = wz := ⟨_, rfl⟩
    rw [hwz] at HZ ⊢
    clear hwz z0 z1 z2 z3 z4 z5 z6 z7 z8 z9 z10 z11 z12 z13 z14 z15
    go_wp2
    exact bodyPost_ret (resTick _ HZ.out.1 rfl) rfl HZ.out.2)
end Go.Proofs.Ytfmfphfckaiejaa
