/-
  RaftBegins: the document's Restart, all well.
-/
import Derived.Test.YtfmfphfckaiejaaJay
import Derived.Test.YtfmfphfckaiejaaJat
namespace Go.Proofs.Ytfmfphfckaiejaa
section
open Go.RowKit
set_option linter.unusedVariables false
set_option linter.unusedSimpArgs false


theorem rdl_any {w w' : World} {a : Option Addr} {c : Nat} (h : RdL w a c []) : RdL w' a c [] := ⟨h.cap1, h.cap2, h.nil, .inl rfl⟩
set_option maxRecDepth 100000 in
set_option maxHeartbeats 2000000 in
theorem RRst_ok (id n term vote b bt : Int) {P : Nat → Prop} {ea : Option Addr} {ec : Nat} {es : List En} {sa : Option Addr} {sc : Nat} {snap : BB} {w : World} (hE : EnsV w P ea ec es) (hn : es.length ≤ 2000) (hS : ReadsV w (.slice sa snap.length sc) snap) (hb : InR b) (hbt : InR bt) (h : amongM id n) (h0 : ¬ term < 0) (h1 : ¬ 1099511627776 < term) (h2 : ¬ vote < 0) (h3 : ¬ n < vote) (hc0 : chkM b bt es = 0) (hl : ¬ term < (termM b bt es (b + es.length)).1) : Calls Try.prog 12 #[.int .i64 id, .int .i64 n, .int .i64 term, .int .i64 vote, .agg #[.int .i64 b, .int .i64 bt, .slice ea es.length ec], .slice sa snap.length sc] w (RsP (restartM id n term vote b bt es snap) w) := by
  have HR0 : Hid (Rt w ((w.alloc (Obj.cells #[.int .i64 b, .int .i64 bt, .slice ea es.length ec] 24)).alloc (Obj.cells #[.int .i64 0, .int .i64 0, .int .i64 0, .int .i64 0, .int .i64 0, .int .i64 0, .int .i64 0, .int .i64 0, .slice none 0 0, .int .i64 0, .slice none 0 0, .slice none 0 0, .slice none 0 0, .slice none 0 0, .int .i64 0, .int .i64 0] 31)) b bt ea ec es) := Rt.first w b bt ea ec es
  obtain ⟨m, hm⟩ : ∃ m, (newM id n).1 = m := ⟨_, rfl⟩
  have hnw : newM id n = (m, 0) := by rw [← hm]; unfold newM; rw [if_pos h]
  have HNe : Hid (∀ wx, Calls Try.prog 10 #[.int .i64 id, .int .i64 n] wx fun e w' => ∃ s : Ad, e = .returned (.tuple #[.agg #[.int .i64 m.id, .int .i64 m.n, .int .i64 m.term, .int .i64 m.vote, .int .i64 m.role, .int .i64 m.lead, .int .i64 m.b, .int .i64 m.bt, .slice s.ea m.es.length s.ec, .int .i64 m.commit, .slice s.sa m.snap.length s.sc, .slice s.ga m.granted.length s.gc, .slice s.xa m.next.length s.xc, .slice s.ma m.mtch.length s.mc, .int .i64 m.clock, .int .i64 m.wait], .int .i64 0]) ∧ (∀ wz, (RdL wz s.ga s.gc [] ∧ RdL wz s.xa s.xc [] ∧ RdL wz s.ma s.mc [])) ∧ Below wx.heap.size wx w') := fun wx => by
    refine (RNew_any id n wx).mono fun e w' ⟨s', q1, q2, q3⟩ => ⟨s', ?_, ?_, q3⟩
    · rw [q1, hnw]; rfl
    · have z1 : m.granted = [] ∧ m.next = [] ∧ m.mtch = [] := by rw [← hm]; unfold newM; rw [if_pos h]; exact ⟨rfl, rfl, rfl⟩
      rw [hnw] at q2
      have g1 := q2.g
      have g2 := q2.x.rd
      have g3 := q2.t.rd
      change RdL w' s'.ga s'.gc (m.granted.map .bool) at g1
      change RdL w' s'.xa s'.xc (m.next.map (.int .i64)) at g2
      change RdL w' s'.ma s'.mc (m.mtch.map (.int .i64)) at g3
      rw [z1.1] at g1
      rw [z1.2.1] at g2
      rw [z1.2.2] at g3
      exact fun wz => ⟨rdl_any g1, rdl_any g2, rdl_any g3⟩
  have hb3 := (chk_zero.1 hc0).1
  obtain ⟨lt, hlt⟩ : ∃ lt, (termM b bt es (b + es.length)).1 = lt := ⟨_, rfl⟩
  have HLa : Hid (∀ wx, Below w.heap.size w wx → Calls Try.prog 21 #[.agg #[.int .i64 b, .int .i64 bt, .slice ea es.length ec]] wx fun e w' => ∃ k, e = .returned (.int .i64 k) ∧ k = b + es.length ∧ Below wx.heap.size wx w') := fun wx q => (RLast_any b bt _ _ _ wx (by omega) (by omega) hn).mono fun e w' z => ⟨_, z.1, rfl, z.2⟩
  have HTe : Hid (∀ k wx, k = b + es.length → Below w.heap.size w wx → Calls Try.prog 32 #[.agg #[.int .i64 b, .int .i64 bt, .slice ea es.length ec], .int .i64 k] wx fun e w' => ∃ t o, e = .returned (.tuple #[.int .i64 t, .bool o]) ∧ t = lt ∧ Below wx.heap.size wx w') := fun k wx q1 q => (RTerm_any _ b bt _ _ es k wx (by omega) (by omega) hn (by subst q1; exact ⟨by omega, by omega⟩) (hE.below q)).mono fun e w' z => ⟨_, _, z.1, by rw [q1, hlt], z.2⟩
  obtain ⟨ck, hck⟩ : ∃ ck, chkM b bt es = ck := ⟨_, rfl⟩
  have HCk : Hid (∀ wx, Below w.heap.size w wx → Calls Try.prog 33 #[.agg #[.int .i64 b, .int .i64 bt, .slice ea es.length ec]] wx fun e w' => e = .returned (.int .i64 ck) ∧ Below wx.heap.size wx w') := fun wx q => by
    have := RCheck_any P b bt ea ec es wx hb hbt (hE.below q)
    rw [hck] at this
    exact this
  have hmv : m = { zMb with id := id, n := n, wait := 10 + id } := by rw [← hm]; unfold newM; rw [if_pos h]
  have hrs : restartM id n term vote b bt es snap = ({ m with term := term, vote := vote, b := b, bt := bt, es := es, snap := snap, commit := b }, 0) := by
    unfold restartM
    rw [if_pos h, if_pos ⟨⟨by omega, by omega⟩, ⟨by omega, by omega⟩, hc0, by omega⟩, hmv]
  have HFin : Hid (∀ wz (s : Ad), (RdL wz s.ga s.gc [] ∧ RdL wz s.xa s.xc [] ∧ RdL wz s.ma s.mc []) → Below w.heap.size w wz → RsP (restartM id n term vote b bt es snap) w (.returned (.tuple #[.agg #[.int .i64 m.id, .int .i64 m.n, .int .i64 term, .int .i64 vote, .int .i64 m.role, .int .i64 m.lead, .int .i64 b, .int .i64 bt, .slice ea es.length ec, .int .i64 b, .slice sa snap.length sc, .slice s.ga m.granted.length s.gc, .slice s.xa m.next.length s.xc, .slice s.ma m.mtch.length s.mc, .int .i64 m.clock, .int .i64 m.wait], .int .i64 0])) wz) := fun wz s hz q => by
    rw [hrs]
    have z : ∀ s : Ad, MbV wz (fun _ => True) zAd zMb := fun _ => MbV.new _ _ _ rfl rfl rfl rfl rfl
    have z1 : m.granted = [] ∧ m.next = [] ∧ m.mtch = [] := by rw [hmv]; exact ⟨rfl, rfl, rfl⟩
    obtain ⟨z1, z2, z3⟩ := z1
    refine ⟨{ s with ea := ea, ec := ec, sa := sa, sc := sc, ga := s.ga }, ?_, ?_, q⟩
    · rw [z1, z2, z3]; rfl
    · exact ⟨(hE.below q).all, hS.below q, fun _ _ _ => trivial, by rw [z1]; exact hz.1, fun _ _ _ => trivial, by rw [z2]; exact ⟨hz.2.1, fun i hi => by simp at hi⟩, fun _ _ _ => trivial, by rw [z3]; exact ⟨hz.2.2, fun i hi => by simp at hi⟩, fun _ _ _ => trivial⟩
  have hc1 : ck = 0 := hck.symm.trans hc0
  rw [hlt] at hl
  have d0 : decide (term < 0) = false := decide_eq_false (by omega)
  have d1 : decide (1099511627776 < term) = false := decide_eq_false (by omega)
  have d2 : decide (vote < 0) = false := decide_eq_false (by omega)
  have d3 : decide (n < vote) = false := decide_eq_false (by omega)
  have d5 : decide (term < lt) = false := decide_eq_false hl
  clear hE hS hb hbt h hrs hm hnw hmv hc0 hb3 hlt hl hck
  subst hc1
  generalize restartM id n term vote b bt es snap = RR at *
  go_enter Try.func12, Try.ntmps12
  go_upto_region 4 with (go_at_call 10; refine (HNe.out _).mono ?_; rintro e w1 ⟨s, rfl, qz, q2⟩; have HZ : Hid (∀ wz, (RdL wz s.ga s.gc [] ∧ RdL wz s.xa s.xc [] ∧ RdL wz s.ma s.mc [])) := qz; clear qz; have H1 : Hid (Rt w w1 b bt ea ec es) := HR0.out.below q2; clear q2)
  have H2 : Hid (Rt w (w1.alloc (.cells #[.int .i64 m.id, .int .i64 m.n, .int .i64 m.term, .int .i64 m.vote, .int .i64 m.role, .int .i64 m.lead, .int .i64 m.b, .int .i64 m.bt, .slice s.ea m.es.length s.ec, .int .i64 m.commit, .slice s.sa m.snap.length s.sc, .slice s.ga m.granted.length s.gc, .slice s.xa m.next.length s.xc, .slice s.ma m.mtch.length s.mc, .int .i64 m.clock, .int .i64 m.wait] 31)) b bt ea ec es ∧ Cl16 (w1.alloc (.cells #[.int .i64 m.id, .int .i64 m.n, .int .i64 m.term, .int .i64 m.vote, .int .i64 m.role, .int .i64 m.lead, .int .i64 m.b, .int .i64 m.bt, .slice s.ea m.es.length s.ec, .int .i64 m.commit, .slice s.sa m.snap.length s.sc, .slice s.ga m.granted.length s.gc, .slice s.xa m.next.length s.xc, .slice s.ma m.mtch.length s.mc, .int .i64 m.clock, .int .i64 m.wait] 31)) w1.heap.size (.int .i64 m.id) (.int .i64 m.n) (.int .i64 m.term) (.int .i64 m.vote) (.int .i64 m.role) (.int .i64 m.lead) (.int .i64 m.b) (.int .i64 m.bt) (.slice s.ea m.es.length s.ec) (.int .i64 m.commit) (.slice s.sa m.snap.length s.sc) (.slice s.ga m.granted.length s.gc) (.slice s.xa m.next.length s.xc) (.slice s.ma m.mtch.length s.mc) (.int .i64 m.clock) (.int .i64 m.wait) ∧ w.heap.size + 1 + 1 ≤ w1.heap.size) := ⟨H1.out.below ((Below.refl _ _).alloc (Nat.le_refl _) _), Cl16.new _ _ _ _ _ _ _ _ _ _ _ _ _ _ _ _ _ _, H1.out.z⟩
  obtain ⟨wb, hwb⟩ : ∃ wb, (w1.alloc (.cells #[.int .i64 m.id, .int .i64 m.n, .int .i64 m.term, .int .i64 m.vote, .int .i64 m.role, .int .i64 m.lead, .int .i64 m.b, .int .i64 m.bt, .slice s.ea m.es.length s.ec, .int .i64 m.commit, .slice s.sa m.snap.length s.sc, .slice s.ga m.granted.length s.gc, .slice s.xa m.next.length s.xc, .slice s.ma m.mtch.length s.mc, .int .i64 m.clock, .int .i64 m.wait] 31)) = wb := ⟨_, rfl⟩
  rw [hwb] at H2 ⊢
  clear hwb H1 HNe HR0
  generalize w1.heap.size = R at *
  have HC3 : Hid (Cell3 wb w.heap.size (.int .i64 b) (.int .i64 bt) (.slice ea es.length ec)) := H2.out.1.a
  have HLb : Hid (∀ wx, Below wb.heap.size wb wx → Calls Try.prog 21 #[.agg #[.int .i64 b, .int .i64 bt, .slice ea es.length ec]] wx fun e w' => ∃ k, e = .returned (.int .i64 k) ∧ (fun k => k = b + es.length) k ∧ Below wx.heap.size wx w') := fun wx q => HLa.out wx (H2.out.1.below q).l
  have HTb : Hid (∀ k wx, (fun k => k = b + es.length) k → Below wb.heap.size wb wx → Calls Try.prog 32 #[.agg #[.int .i64 b, .int .i64 bt, .slice ea es.length ec], .int .i64 k] wx fun e w' => ∃ t o, e = .returned (.tuple #[.int .i64 t, .bool o]) ∧ (fun t => t = lt) t ∧ Below wx.heap.size wx w') := fun k wx q1 q => HTe.out k wx q1 (H2.out.1.below q).l
  clear HLa HTe
  refine regR4 (HP := fun k => k = b + es.length) (HT := fun t => t = lt) HC3 HLb HTb (fun _ _ d _ _ h => by cases d <;> exact h) _ _ _ _ _ _ _ _ _ _ _ _ _ _ _ _ _ _ _ _ _ _ _ _ _ _ _ _ _ _ _ _ _ _ _ _ _ _ _ _ _ _ _ _ _ _ _ _ _ _ _ _ _ _ _ _ _ _ _ _ _ _ _ _ _ _ _ _ _ _ _ _ ?_
  show ∀ wz kk t o, _
  intro wz kk t o hT hbz
  have H3 : Hid (Rt w wz b bt ea ec es) := H2.out.1.below hbz
  have H4 : Hid (Cl16 wz R (.int .i64 m.id) (.int .i64 m.n) (.int .i64 m.term) (.int .i64 m.vote) (.int .i64 m.role) (.int .i64 m.lead) (.int .i64 m.b) (.int .i64 m.bt) (.slice s.ea m.es.length s.ec) (.int .i64 m.commit) (.slice s.sa m.snap.length s.sc) (.slice s.ga m.granted.length s.gc) (.slice s.xa m.next.length s.xc) (.slice s.ma m.mtch.length s.mc) (.int .i64 m.clock) (.int .i64 m.wait) ∧ w.heap.size + 1 + 1 ≤ R) := ⟨H2.out.2.1.below hbz, H2.out.2.2⟩
  clear H2 HC3 HLb HTb
  have hT2 : t = lt := hT
  clear hT
  subst hT2
  obtain ⟨q0, q1, q2, q3, q4, q5, q6, q7, q8, q9, q10, q11, q12, q13, q14, q15, qf⟩ := H3.out.q
  obtain ⟨k0, k1, k2, kf⟩ := H3.out.a
  have hq1 : w.heap.size + 1 < wz.heap.size := H3.out.q.lt
  have hne : w.heap.size + 1 ≠ R := by have := H4.out.2; omega
  have hne2 : w.heap.size ≠ R := by have := H4.out.2; omega
  go_upto_region 7 with (go_at_call 33; refine (HCk.out _ H3.out.l).mono ?_; rintro e w5 ⟨rfl, qB⟩; have H5 : Hid (Rt w w5 b bt ea ec es) := H3.out.below qB; have H6 : Hid (Cl16 w5 R (.int .i64 m.id) (.int .i64 m.n) (.int .i64 m.term) (.int .i64 m.vote) (.int .i64 m.role) (.int .i64 m.lead) (.int .i64 m.b) (.int .i64 m.bt) (.slice s.ea m.es.length s.ec) (.int .i64 m.commit) (.slice s.sa m.snap.length s.sc) (.slice s.ga m.granted.length s.gc) (.slice s.xa m.next.length s.xc) (.slice s.ma m.mtch.length s.mc) (.int .i64 m.clock) (.int .i64 m.wait)) := H4.out.1.below qB; obtain ⟨q0, q1, q2, q3, q4, q5, q6, q7, q8, q9, q10, q11, q12, q13, q14, q15, qf⟩ := H5.out.q; obtain ⟨k0, k1, k2, kf⟩ := H5.out.a; have hq5 : w.heap.size + 1 < w5.heap.size := H5.out.q.lt; clear qB)
  clear q0 q1 q2 q3 q4 q5 q6 q7 q8 q9 q10 q11 q12 q13 q14 q15 qf k0 k1 k2 kf H3 HCk
  obtain ⟨q0, q1, q2, q3, q4, q5, q6, q7, q8, q9, q10, q11, q12, q13, q14, q15, qf⟩ := H5.out.q
  obtain ⟨k0, k1, k2, kf⟩ := H5.out.a
  obtain ⟨r0, r1, r2, r3, r4, r5, r6, r7, r8, r9, r10, r11, r12, r13, r14, r15, rf⟩ := H6.out
  have hr5 : R < w5.heap.size := H6.out.lt
  have hk5 : w.heap.size < w5.heap.size := H5.out.a.lt
  have HRw : w.heap.size ≤ R := by have := H4.out.2; omega
  go_upto_region 12 with fail
  have H7 : Hid (Cl16 (((((((w5.setCell ⟨R, 2, none⟩ (.int .i64 term)).setCell ⟨R, 3, none⟩ (.int .i64 vote)).setCell ⟨R, 6, none⟩ (.int .i64 b)).setCell ⟨R, 7, none⟩ (.int .i64 bt)).setCell ⟨R, 8, none⟩ (.slice ea es.length ec)).setCell ⟨R, 9, none⟩ (.int .i64 b)).setCell ⟨R, 10, none⟩ (.slice sa snap.length sc)) R (.int .i64 m.id) (.int .i64 m.n) (.int .i64 term) (.int .i64 vote) (.int .i64 m.role) (.int .i64 m.lead) (.int .i64 b) (.int .i64 bt) (.slice ea es.length ec) (.int .i64 b) (.slice sa snap.length sc) (.slice s.ga m.granted.length s.gc) (.slice s.xa m.next.length s.xc) (.slice s.ma m.mtch.length s.mc) (.int .i64 m.clock) (.int .i64 m.wait) ∧ Cl16 (((((((w5.setCell ⟨R, 2, none⟩ (.int .i64 term)).setCell ⟨R, 3, none⟩ (.int .i64 vote)).setCell ⟨R, 6, none⟩ (.int .i64 b)).setCell ⟨R, 7, none⟩ (.int .i64 bt)).setCell ⟨R, 8, none⟩ (.slice ea es.length ec)).setCell ⟨R, 9, none⟩ (.int .i64 b)).setCell ⟨R, 10, none⟩ (.slice sa snap.length sc)) (w.heap.size + 1) (.int .i64 0) (.int .i64 0) (.int .i64 0) (.int .i64 0) (.int .i64 0) (.int .i64 0) (.int .i64 0) (.int .i64 0) (.slice none 0 0) (.int .i64 0) (.slice none 0 0) (.slice none 0 0) (.slice none 0 0) (.slice none 0 0) (.int .i64 0) (.int .i64 0) ∧ Below w.heap.size w (((((((w5.setCell ⟨R, 2, none⟩ (.int .i64 term)).setCell ⟨R, 3, none⟩ (.int .i64 vote)).setCell ⟨R, 6, none⟩ (.int .i64 b)).setCell ⟨R, 7, none⟩ (.int .i64 bt)).setCell ⟨R, 8, none⟩ (.slice ea es.length ec)).setCell ⟨R, 9, none⟩ (.int .i64 b)).setCell ⟨R, 10, none⟩ (.slice sa snap.length sc))) := ⟨((((((((((((((H6.out).put 2 _)).put 3 _)).put 6 _)).put 7 _)).put 8 _)).put 9 _)).put 10 _), H5.out.q.kept ((fun g hg => ((heap_other hg).trans ((heap_other hg).trans ((heap_other hg).trans ((heap_other hg).trans ((heap_other hg).trans ((heap_other hg).trans (heap_other (w := w5) (g := g) hg)))))))) _ hne), ((((((((((((((H5.out.l).setCell (p := ⟨_, _, none⟩) HRw _)).setCell (p := ⟨_, _, none⟩) HRw _)).setCell (p := ⟨_, _, none⟩) HRw _)).setCell (p := ⟨_, _, none⟩) HRw _)).setCell (p := ⟨_, _, none⟩) HRw _)).setCell (p := ⟨_, _, none⟩) HRw _)).setCell (p := ⟨_, _, none⟩) HRw _)⟩
  obtain ⟨wy, hwy⟩ : ∃ wy, (((((((w5.setCell ⟨R, 2, none⟩ (.int .i64 term)).setCell ⟨R, 3, none⟩ (.int .i64 vote)).setCell ⟨R, 6, none⟩ (.int .i64 b)).setCell ⟨R, 7, none⟩ (.int .i64 bt)).setCell ⟨R, 8, none⟩ (.slice ea es.length ec)).setCell ⟨R, 9, none⟩ (.int .i64 b)).setCell ⟨R, 10, none⟩ (.slice sa snap.length sc)) = wy := ⟨_, rfl⟩
  rw [hwy] at H7 ⊢
  clear hwy q0 q1 q2 q3 q4 q5 q6 q7 q8 q9 q10 q11 q12 q13 q14 q15 qf k0 k1 k2 kf r0 r1 r2 r3 r4 r5 r6 r7 r8 r9 r10 r11 r12 r13 r14 r15 rf hr5 hk5 H5 H6
  obtain ⟨r0, r1, r2, r3, r4, r5, r6, r7, r8, r9, r10, r11, r12, r13, r14, r15, rf⟩ := H7.out.1
  obtain ⟨q0, q1, q2, q3, q4, q5, q6, q7, q8, q9, q10, q11, q12, q13, q14, q15, qf⟩ := H7.out.2.1
  have hr6 : R < wy.heap.size := H7.out.1.lt
  have hq6 : w.heap.size + 1 < wy.heap.size := H7.out.2.1.lt
  have HF : Hid (Cl16 ((((((((((((((((wy.setCell ⟨w.heap.size + 1, 0, none⟩ (.int .i64 m.id)).setCell ⟨w.heap.size + 1, 1, none⟩ (.int .i64 m.n)).setCell ⟨w.heap.size + 1, 2, none⟩ (.int .i64 term)).setCell ⟨w.heap.size + 1, 3, none⟩ (.int .i64 vote)).setCell ⟨w.heap.size + 1, 4, none⟩ (.int .i64 m.role)).setCell ⟨w.heap.size + 1, 5, none⟩ (.int .i64 m.lead)).setCell ⟨w.heap.size + 1, 6, none⟩ (.int .i64 b)).setCell ⟨w.heap.size + 1, 7, none⟩ (.int .i64 bt)).setCell ⟨w.heap.size + 1, 8, none⟩ (.slice ea es.length ec)).setCell ⟨w.heap.size + 1, 9, none⟩ (.int .i64 b)).setCell ⟨w.heap.size + 1, 10, none⟩ (.slice sa snap.length sc)).setCell ⟨w.heap.size + 1, 11, none⟩ (.slice s.ga m.granted.length s.gc)).setCell ⟨w.heap.size + 1, 12, none⟩ (.slice s.xa m.next.length s.xc)).setCell ⟨w.heap.size + 1, 13, none⟩ (.slice s.ma m.mtch.length s.mc)).setCell ⟨w.heap.size + 1, 14, none⟩ (.int .i64 m.clock)).setCell ⟨w.heap.size + 1, 15, none⟩ (.int .i64 m.wait)) (w.heap.size + 1) (.int .i64 m.id) (.int .i64 m.n) (.int .i64 term) (.int .i64 vote) (.int .i64 m.role) (.int .i64 m.lead) (.int .i64 b) (.int .i64 bt) (.slice ea es.length ec) (.int .i64 b) (.slice sa snap.length sc) (.slice s.ga m.granted.length s.gc) (.slice s.xa m.next.length s.xc) (.slice s.ma m.mtch.length s.mc) (.int .i64 m.clock) (.int .i64 m.wait) ∧ RsP RR w (.returned (.tuple #[.agg #[.int .i64 m.id, .int .i64 m.n, .int .i64 term, .int .i64 vote, .int .i64 m.role, .int .i64 m.lead, .int .i64 b, .int .i64 bt, .slice ea es.length ec, .int .i64 b, .slice sa snap.length sc, .slice s.ga m.granted.length s.gc, .slice s.xa m.next.length s.xc, .slice s.ma m.mtch.length s.mc, .int .i64 m.clock, .int .i64 m.wait], .int .i64 0])) ((((((((((((((((wy.setCell ⟨w.heap.size + 1, 0, none⟩ (.int .i64 m.id)).setCell ⟨w.heap.size + 1, 1, none⟩ (.int .i64 m.n)).setCell ⟨w.heap.size + 1, 2, none⟩ (.int .i64 term)).setCell ⟨w.heap.size + 1, 3, none⟩ (.int .i64 vote)).setCell ⟨w.heap.size + 1, 4, none⟩ (.int .i64 m.role)).setCell ⟨w.heap.size + 1, 5, none⟩ (.int .i64 m.lead)).setCell ⟨w.heap.size + 1, 6, none⟩ (.int .i64 b)).setCell ⟨w.heap.size + 1, 7, none⟩ (.int .i64 bt)).setCell ⟨w.heap.size + 1, 8, none⟩ (.slice ea es.length ec)).setCell ⟨w.heap.size + 1, 9, none⟩ (.int .i64 b)).setCell ⟨w.heap.size + 1, 10, none⟩ (.slice sa snap.length sc)).setCell ⟨w.heap.size + 1, 11, none⟩ (.slice s.ga m.granted.length s.gc)).setCell ⟨w.heap.size + 1, 12, none⟩ (.slice s.xa m.next.length s.xc)).setCell ⟨w.heap.size + 1, 13, none⟩ (.slice s.ma m.mtch.length s.mc)).setCell ⟨w.heap.size + 1, 14, none⟩ (.int .i64 m.clock)).setCell ⟨w.heap.size + 1, 15, none⟩ (.int .i64 m.wait))) := ⟨H7.out.2.1.boxed _ _ _ _ _ _ _ _ _ _ _ _ _ _ _ _, HFin.out _ s (HZ.out _) (Cl16.under H7.out.2.2 (Nat.le_succ _))⟩
  go_wp2
  exact bodyPost_ret (resRRst _ HF.out.1 rfl) rfl HF.out.2
end
section
open Go.RowKit
set_option linter.unusedVariables false


/-- Both rows laid anew. -/
structure Tp (w wr : World) (B M G1 G2 : Nat) (s : Ad) (m : Mb) (v : Value) (n : Nat) (nx mt : List Int) : Prop where
  k : ∀ g, g < w.heap.size → g ≠ M → wr.heap[g]? = w.heap[g]?
  b : Below B w wr
  c : Wc wr M (s.rows G1 G2 n) { m with next := nx, mtch := mt } v
  x : Nr wr G1 (nx.map (.int .i64))
  t : Nr wr G2 (mt.map (.int .i64))
  g1 : w.heap.size ≤ G1
  g2 : w.heap.size ≤ G2
  ne : G1 ≠ G2
  lx : nx.length = n
  lm : mt.length = n
theorem map_at {l : List Int} {k : Nat} (h : k < l.length) : (l.map (Value.int .i64))[k]? = some (.int .i64 (l.getD k 0)) := by
  rw [List.getElem?_map, List.getElem?_eq_getElem h, List.getD_eq_getElem?_getD, List.getElem?_eq_getElem h]; rfl
theorem IlV.cellAt {w : World} {G c : Nat} {l : List Int} (h : IlV w (some ⟨G, 0, none⟩) c l) {k : Nat} (hk : k < l.length) : w.cell? ⟨G, k, none⟩ = some (.int .i64 (l.getD k 0)) := by
  rcases h.rd.cells with h0 | ⟨b, o, e, hc⟩
  · rw [List.length_map] at h0; omega
  · cases e
    have := hc k (by rw [List.length_map]; exact hk)
    rw [map_at hk] at this
    simpa using this
section
variable {w wr wr' : World} {B M G1 G2 : Nat} {s : Ad} {m : Mb} {v : Value} {ts : List Ms} {n : Nat} {nx mt : List Int}
theorem Tp.cx (h : Tp w wr B M G1 G2 s m v n nx mt) {k : Nat} (hk : k < n) : wr.cell? ⟨G1, k, none⟩ = some (.int .i64 (nx.getD k 0)) := by
  have hl := h.lx
  exact (h.x.cell (by rw [List.length_map]; omega)).trans (map_at (by omega))
theorem Tp.c12 (h : Tp w wr B M G1 G2 s m v n nx mt) : wr.cell? ⟨M, 12, none⟩ = some (.slice (some ⟨G1, 0, none⟩) n n) := by
  have c := h.c.c12
  rw [show ({ m with next := nx, mtch := mt } : Mb).next.length = n from h.lx] at c
  exact c
theorem Tp.c13 (h : Tp w wr B M G1 G2 s m v n nx mt) : wr.cell? ⟨M, 13, none⟩ = some (.slice (some ⟨G2, 0, none⟩) n n) := by
  have c := h.c.c13
  rw [show ({ m with next := nx, mtch := mt } : Mb).mtch.length = n from h.lm] at c
  exact c
theorem Tp.f1 (h : Tp w wr B M G1 G2 s m v n nx mt) (i : Nat) : wr.frozen? ⟨G1, i, none⟩ = false := h.x.free i
theorem Tp.f2 (h : Tp w wr B M G1 G2 s m v n nx mt) (i : Nat) : wr.frozen? ⟨G2, i, none⟩ = false := h.t.free i
theorem Tp.below (h : Tp w wr B M G1 G2 s m v n nx mt) (hB : B ≤ w.heap.size) (hb : Below wr.heap.size wr wr') : Tp w wr' B M G1 G2 s m v n nx mt :=
  ⟨fun g hg hne => (hb.block g (Nat.lt_of_lt_of_le hg h.b.size)).trans (h.k g hg hne), h.b.trans (hb.mono (Nat.le_trans hB h.b.size)), h.c.below hb, h.x.below hb, h.t.below hb, h.g1, h.g2, h.ne, h.lx, h.lm⟩
theorem Tp.wk (h : Tp w wr B M G1 G2 s m v n nx mt) (hW : Wk w B M s m v ts) (hx : ∀ j, j < nx.length → InR (nx.getD j 0)) (ht : ∀ j, j < mt.length → InR (mt.getD j 0)) : Wk wr B M (s.rows G1 G2 n) { m with next := nx, mtch := mt } v ts ∧ Dn B M v v w wr := by
  have hr := hW.rk h.k
  exact hW.gen h.k h.b h.c ⟨hr.e, hr.sn, hr.sP, hr.g, hr.gP, h.x.ints h.lx.symm hx, fun _ y hy => by cases hy; exact pw_new hW h.g1, h.t.ints h.lm.symm ht, fun _ y hy => by cases hy; exact pw_new hW h.g2⟩
theorem Tp.new (hW : Wk w B M s m v ts) (hb : Below w.heap.size w wr) (hx : Nr wr G1 (nx.map (.int .i64))) (ht : Nr wr G2 (mt.map (.int .i64))) (g1 : w.heap.size ≤ G1) (g2 : w.heap.size ≤ G2) (ne : G1 ≠ G2) (lx : nx.length = n) (lm : mt.length = n) : Tp w ((wr.setCell ⟨M, 12, none⟩ (.slice (some ⟨G1, 0, none⟩) n n)).setCell ⟨M, 13, none⟩ (.slice (some ⟨G2, 0, none⟩) n n)) B M G1 G2 s m v n nx mt := by
  have hM := hW.lt
  have hsz : wr.heap.size ≤ ((wr.setCell ⟨M, 12, none⟩ (.slice (some ⟨G1, 0, none⟩) n n)).setCell ⟨M, 13, none⟩ (.slice (some ⟨G2, 0, none⟩) n n)).heap.size := by rw [size_set, size_set]; exact Nat.le_refl _
  refine ⟨fun g hg hne => (heap_other hne).trans ((heap_other hne).trans (hb.block g hg)), ((hb.mono hW.le).setCell (p := ⟨M, 12, none⟩) hW.bm _).setCell (p := ⟨M, 13, none⟩) hW.bm _, ?_, hx.kept ((heap_other (by omega)).trans (heap_other (by omega))) hsz, ht.kept ((heap_other (by omega)).trans (heap_other (by omega))) hsz, g1, g2, ne, lx, lm⟩
  have c := ((hW.c.below hb).put 12 (.slice (some ⟨G1, 0, none⟩) n n)).put 13 (.slice (some ⟨G2, 0, none⟩) n n)
  unfold Wc
  rw [show ({ m with next := nx, mtch := mt } : Mb).next.length = n from lx, show ({ m with next := nx, mtch := mt } : Mb).mtch.length = n from lm]
  exact c
end
end
end Go.Proofs.Ytfmfphfckaiejaa
