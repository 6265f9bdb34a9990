/-
  The program's Restart: what is taken.
-/
import Derived.Test.YtfmfphfckaiejaaJaw
import Derived.Test.YtfmfphfckaiejaaJai
import Derived.Test.YtfmfphfckaiejaaJal
import Derived.Test.YtfmfphfckaiejaaJcr
import Derived.Test.YtfmfphfckaiejaaJah
import Derived.Test.YtfmfphfckaiejaaJaj
namespace Go.Proofs.Ytfmfphfckaiejaa
section
open Go.RowKit
set_option linter.unusedVariables false
set_option linter.unusedSimpArgs false


set_option maxRecDepth 100000 in
set_option maxHeartbeats 2000000 in
theorem Restart_ok (id n term vote b bt : Int) {P : Nat → Prop} {ea : Option Addr} {ec : Nat} {es : List En} {sa : Option Addr} {sc : Nat} {snap : BB} {w : World} (hE : EnsV w P ea ec es) (hs : Small es) (hS : ReadsV w (.slice sa snap.length sc) snap) (hsl : snap.length ≤ 100000) (hb : InR b) (hbt : InR bt) (h : amongM id n) (hi1 : 0 ≤ term) (hi2 : term ≤ 1099511627776) (hv : 0 ≤ vote) (hw : vote ≤ n) (hc0 : chkM b bt es = 0) (hl : (termM b bt es (b + es.length)).1 ≤ term) : Calls Try.prog 11 #[.int .i64 id, .int .i64 n, .int .i64 term, .int .i64 vote, .agg #[.int .i64 b, .int .i64 bt, .slice ea es.length ec], .slice sa snap.length sc] w (RsP (restartM id n term vote b bt es snap) w) := by
  obtain ⟨m, hm⟩ : ∃ m, (newM id n).1 = m := ⟨_, rfl⟩
  have hnw : newM id n = (m, 0) := by rw [← hm]; unfold newM; rw [if_pos h]
  have hmv : m = { zMb with id := id, n := n, wait := 10 + id } := by rw [← hm]; unfold newM; rw [if_pos h]
  have hrs : restartM id n term vote b bt es snap = ({ m with term := term, vote := vote, b := b, bt := bt, es := es, snap := snap, commit := b }, 0) := by
    unfold restartM
    rw [if_pos h, if_pos ⟨⟨hi1, hi2⟩, ⟨hv, hw⟩, hc0, hl⟩, hmv]
  have HNe : Hid (∀ wx, Calls Try.prog 9 #[.int .i64 id, .int .i64 n] wx fun e w' => ∃ s : Ad, e = .returned (.tuple #[.agg #[.int .i64 m.id, .int .i64 m.n, .int .i64 m.term, .int .i64 m.vote, .int .i64 m.role, .int .i64 m.lead, .int .i64 m.b, .int .i64 m.bt, .slice s.ea m.es.length s.ec, .int .i64 m.commit, .slice s.sa m.snap.length s.sc, .slice s.ga m.granted.length s.gc, .slice s.xa m.next.length s.xc, .slice s.ma m.mtch.length s.mc, .int .i64 m.clock, .int .i64 m.wait], .int .i64 0]) ∧ MbV w' (fun _ => True) s m ∧ Below wx.heap.size wx w') := fun wx => by
    refine (New_any id n wx).mono fun e w' ⟨s', q1, q2, q3⟩ => ⟨s', ?_, ?_, q3⟩
    · rw [q1, hnw]; rfl
    · rw [hnw] at q2; exact q2
  have hv1 : decide (vote < 0) = false := decide_eq_false (by omega)
  have hv2 : decide (n < vote) = false := decide_eq_false (by omega)
  obtain ⟨ck, hck⟩ : ∃ ck, chkM b bt es = ck := ⟨_, rfl⟩
  have HCk : Hid (∀ wx, Below w.heap.size w wx → Calls Try.prog 28 #[.agg #[.int .i64 b, .int .i64 bt, .slice ea es.length ec]] wx fun e w' => e = .returned (.int .i64 0) ∧ Below wx.heap.size wx w') := fun wx q => by
    have := Check_any P b bt ea ec es wx hb hbt (hE.below q)
    rw [hck] at this
    rw [hck.symm.trans hc0] at this
    exact this
  obtain ⟨lt, hlt⟩ : ∃ lt, (termM b bt es (b + es.length)).1 = lt := ⟨_, rfl⟩
  have hb3 := (chk_zero.1 hc0).1
  have HLt : Hid (∀ wx, Below w.heap.size w wx → Calls Try.prog 29 #[.agg #[.int .i64 b, .int .i64 bt, .slice ea es.length ec]] wx fun e w' => e = .returned (.int .i64 lt) ∧ Below wx.heap.size wx w') := fun wx q => by
    have := LastTerm_any P b bt ea ec es wx (by omega) (by omega) (by have := hs.1; omega) (hE.below q)
    rw [hlt] at this
    exact this
  rw [hlt] at hl
  have hd5 : decide (term < lt) = false := decide_eq_false (by omega)
  have HCp : Hid (∀ wx, Below w.heap.size w wx → Calls Try.prog 30 #[.agg #[.int .i64 b, .int .i64 bt, .slice ea es.length ec]] wx (LogP b bt es wx)) := fun wx q => Copy_any P b bt ea ec es wx (hE.below q) hs
  have HCd : Hid (∀ wx, Below w.heap.size w wx → Calls Try.prog 31 #[.slice sa snap.length sc] wx (CpP snap wx)) := fun wx q => copied_any snap sa sc wx (hS.below q) hsl
  have HNil : Hid (m.es = [] ∧ m.snap = [] ∧ m.granted = [] ∧ m.next = [] ∧ m.mtch = []) := by rw [hmv]; exact ⟨rfl, rfl, rfl, rfl, rfl⟩
  have HFin : Hid (∀ w1 wz (s : Ad) ra rc ka kc, MbV w1 (fun _ => True) s m → EnsV wz (fun _ => True) ra rc es → ReadsV wz (.slice ka snap.length kc) snap → Below w.heap.size w wz → RsP (restartM id n term vote b bt es snap) w (.returned (.tuple #[.agg #[.int .i64 m.id, .int .i64 m.n, .int .i64 term, .int .i64 vote, .int .i64 m.role, .int .i64 m.lead, .int .i64 b, .int .i64 bt, .slice ra es.length rc, .int .i64 b, .slice ka snap.length kc, .slice s.ga m.granted.length s.gc, .slice s.xa m.next.length s.xc, .slice s.ma m.mtch.length s.mc, .int .i64 m.clock, .int .i64 m.wait], .int .i64 0])) wz) := fun w1 wz s ra rc ka kc q1 q2 q3 q4 => by
    rw [hrs]
    have q5 : MbV wz (fun _ => True) s m := (q1.empty (Q := fun _ => False) HNil.out.1 HNil.out.2.1 HNil.out.2.2.1 HNil.out.2.2.2.1 HNil.out.2.2.2.2).kept fun g hg => hg.elim
    exact ⟨{ s with ea := ra, ec := rc, sa := ka, sc := kc }, rfl, ⟨q2, q3, fun _ _ _ => trivial, q5.g, q5.gP, q5.x, q5.xP, q5.t, q5.tP⟩, q4⟩
  have HR0 : Hid (Rt w ((w.alloc (Obj.cells #[.int .i64 b, .int .i64 bt, .slice ea es.length ec] 24)).alloc (Obj.cells #[.int .i64 0, .int .i64 0, .int .i64 0, .int .i64 0, .int .i64 0, .int .i64 0, .int .i64 0, .int .i64 0, .slice none 0 0, .int .i64 0, .slice none 0 0, .slice none 0 0, .slice none 0 0, .slice none 0 0, .int .i64 0, .int .i64 0] 31)) b bt ea ec es) := Rt.first w b bt ea ec es
  clear hrs hnw hm hmv hE hS h hck hc0 hlt hb3 hl
  generalize restartM id n term vote b bt es snap = RR at *
  go_enter Try.func11, Try.ntmps11
  go_upto_region 2 with (go_at_call 9; refine (HNe.out _).mono ?_; rintro e w1 ⟨s, rfl, q1, q2⟩; have H1 : Hid (Rt w w1 b bt ea ec es ∧ MbV w1 (fun _ => True) s m) := ⟨HR0.out.below q2, q1⟩; obtain ⟨k0, k1, k2, kf⟩ := H1.out.1.a; obtain ⟨kq0, kq1, kq2, kq3, kq4, kq5, kq6, kq7, kq8, kq9, kq10, kq11, kq12, kq13, kq14, kq15, kqf⟩ := H1.out.1.q; have hk0 : w.heap.size < w1.heap.size := H1.out.1.a.lt; have hk1 : w.heap.size + 1 < w1.heap.size := H1.out.1.q.lt; clear q1 q2)
  have H2 : Hid (Rt w (w1.alloc (Obj.cells #[.int .i64 m.id, .int .i64 m.n, .int .i64 m.term, .int .i64 m.vote, .int .i64 m.role, .int .i64 m.lead, .int .i64 m.b, .int .i64 m.bt, .slice s.ea m.es.length s.ec, .int .i64 m.commit, .slice s.sa m.snap.length s.sc, .slice s.ga m.granted.length s.gc, .slice s.xa m.next.length s.xc, .slice s.ma m.mtch.length s.mc, .int .i64 m.clock, .int .i64 m.wait] 31)) b bt ea ec es ∧ Cl16 (w1.alloc (Obj.cells #[.int .i64 m.id, .int .i64 m.n, .int .i64 m.term, .int .i64 m.vote, .int .i64 m.role, .int .i64 m.lead, .int .i64 m.b, .int .i64 m.bt, .slice s.ea m.es.length s.ec, .int .i64 m.commit, .slice s.sa m.snap.length s.sc, .slice s.ga m.granted.length s.gc, .slice s.xa m.next.length s.xc, .slice s.ma m.mtch.length s.mc, .int .i64 m.clock, .int .i64 m.wait] 31)) w1.heap.size (.int .i64 m.id) (.int .i64 m.n) (.int .i64 m.term) (.int .i64 m.vote) (.int .i64 m.role) (.int .i64 m.lead) (.int .i64 m.b) (.int .i64 m.bt) (.slice s.ea m.es.length s.ec) (.int .i64 m.commit) (.slice s.sa m.snap.length s.sc) (.slice s.ga m.granted.length s.gc) (.slice s.xa m.next.length s.xc) (.slice s.ma m.mtch.length s.mc) (.int .i64 m.clock) (.int .i64 m.wait) ∧ w.heap.size + 1 < w1.heap.size) := ⟨H1.out.1.below ((Below.refl _ _).alloc (Nat.le_refl _) _), Cl16.new _ _ _ _ _ _ _ _ _ _ _ _ _ _ _ _ _ _, hk1⟩
  have HM1 : Hid (MbV w1 (fun _ => True) s m) := H1.out.2
  obtain ⟨wb, hwb⟩ : ∃ wb, (w1.alloc (Obj.cells #[.int .i64 m.id, .int .i64 m.n, .int .i64 m.term, .int .i64 m.vote, .int .i64 m.role, .int .i64 m.lead, .int .i64 m.b, .int .i64 m.bt, .slice s.ea m.es.length s.ec, .int .i64 m.commit, .slice s.sa m.snap.length s.sc, .slice s.ga m.granted.length s.gc, .slice s.xa m.next.length s.xc, .slice s.ma m.mtch.length s.mc, .int .i64 m.clock, .int .i64 m.wait] 31)) = wb := ⟨_, rfl⟩
  rw [hwb] at H2 ⊢
  clear hwb H1 k0 k1 k2 kf kq0 kq1 kq2 kq3 kq4 kq5 kq6 kq7 kq8 kq9 kq10 kq11 kq12 kq13 kq14 kq15 kqf hk0 hk1
  generalize w1.heap.size = R at *
  have HRw : Hid (w.heap.size ≤ R) := by show _ ≤ _; have := H2.out.2.2; omega
  have hne : w.heap.size ≠ R := by have := H2.out.2.2; omega
  have hR1 : w.heap.size + 1 ≠ R := by have := H2.out.2.2; omega
  obtain ⟨k0, k1, k2, kf⟩ := H2.out.1.a
  have hk0 : w.heap.size < wb.heap.size := H2.out.1.a.lt
  go_upto_region 6 with (first
    | (go_at_call 29; have := H5; refine (HLt.out _ H5.out.1.l).mono ?_; rintro e w6 ⟨rfl, q⟩; have H6 : Hid (Rt w w6 b bt ea ec es ∧ Cl16 w6 R (.int .i64 m.id) (.int .i64 m.n) (.int .i64 m.term) (.int .i64 m.vote) (.int .i64 m.role) (.int .i64 m.lead) (.int .i64 m.b) (.int .i64 m.bt) (.slice s.ea m.es.length s.ec) (.int .i64 m.commit) (.slice s.sa m.snap.length s.sc) (.slice s.ga m.granted.length s.gc) (.slice s.xa m.next.length s.xc) (.slice s.ma m.mtch.length s.mc) (.int .i64 m.clock) (.int .i64 m.wait)) := ⟨H5.out.1.below q, H5.out.2.below q⟩; obtain ⟨g0, g1, g2, gf⟩ := H6.out.1.a; have hg0 : w.heap.size < w6.heap.size := H6.out.1.a.lt; have hgR : R < w6.heap.size := H6.out.2.lt; clear q)
    | (go_at_call 28; refine (HCk.out _ H2.out.1.l).mono ?_; rintro e w5 ⟨rfl, q⟩; have H5 : Hid (Rt w w5 b bt ea ec es ∧ Cl16 w5 R (.int .i64 m.id) (.int .i64 m.n) (.int .i64 m.term) (.int .i64 m.vote) (.int .i64 m.role) (.int .i64 m.lead) (.int .i64 m.b) (.int .i64 m.bt) (.slice s.ea m.es.length s.ec) (.int .i64 m.commit) (.slice s.sa m.snap.length s.sc) (.slice s.ga m.granted.length s.gc) (.slice s.xa m.next.length s.xc) (.slice s.ma m.mtch.length s.mc) (.int .i64 m.clock) (.int .i64 m.wait)) := ⟨H2.out.1.below q, H2.out.2.1.below q⟩; obtain ⟨f0, f1, f2, ff⟩ := H5.out.1.a; have hf0 : w.heap.size < w5.heap.size := H5.out.1.a.lt; clear q)
    | (go_at_call 27; refine (index_yes term _ hi1 hi2).mono ?_; rintro e w3 ⟨rfl, hw⟩; have hw2 := hw.symm; subst hw2))
  clear k0 k1 k2 kf f0 f1 f2 ff hk0 hf0 H5 H2 HNe HCk HLt
  refine wp_region_held_drew (S := (fun w' => w'.cell? ⟨w.heap.size, 0, none⟩ = some (.int .i64 b) ∧ w'.cell? ⟨w.heap.size, 1, none⟩ = some (.int .i64 bt) ∧ w'.cell? ⟨w.heap.size, 2, none⟩ = some (.slice ea es.length ec))) (by kernel_rfl) (by (try dsimp only); go_keep) (fun hHeld => ?_)
  refine wpAnyH_take (i := 0) (oi := { dst := some 50, op := Op.move (Operand.tmp 2), type := 3, pos := "raft.go:45", after := #[], guard := none }) (v := (.int .i64 term)) rfl (by kernel_rfl) (by kernel_rfl) (by kernel_rfl) (fun _ _ _ h => h) (Or.inl ⟨by rfl, ?_⟩) hHeld ?_
  · intro w hSw; (try dsimp only at hSw); go_simp
  try simp only [Act.put, List.setIfInBounds_toArray, List.set_cons_zero, List.set_cons_succ]
  refine wpAnyH_take (i := 1) (oi := { dst := some 51, op := Op.move (Operand.tmp 3), type := 3, pos := "raft.go:45", after := #[{ on := 9, ground := Ground.gcOnly Departure.lateStores }], guard := none }) (v := (.int .i64 vote)) rfl (by kernel_rfl) (by kernel_rfl) (by kernel_rfl) (fun _ _ _ h => h) (Or.inl ⟨by rfl, ?_⟩) hHeld ?_
  · intro w hSw; (try dsimp only at hSw); go_simp
  try simp only [Act.put, List.setIfInBounds_toArray, List.set_cons_zero, List.set_cons_succ]
  refine wpAnyH_take (i := 2) (oi := { dst := some 52, op := Op.load 24 (Operand.tmp 10), type := 24, pos := "raft.go:45", after := #[], guard := none }) (v := (.agg #[.int .i64 b, .int .i64 bt, .slice ea es.length ec])) rfl (by kernel_rfl) (by kernel_rfl) (by kernel_rfl) (fun _ _ _ h => h) (Or.inl ⟨by rfl, ?_⟩) hHeld ?_
  · intro w hSw; (try dsimp only at hSw); go_simp
  try simp only [Act.put, List.setIfInBounds_toArray, List.set_cons_zero, List.set_cons_succ]
  refine wpAnyH_take (i := 4) (oi := { dst := some 54, op := Op.move (Operand.tmp 5), type := 25, pos := "raft.go:45", after := #[], guard := none }) (v := (.slice sa snap.length sc)) rfl (by kernel_rfl) (by kernel_rfl) (by kernel_rfl) (fun _ _ _ h => h) (Or.inl ⟨by rfl, ?_⟩) hHeld ?_
  · intro w hSw; (try dsimp only at hSw); go_simp
  try simp only [Act.put, List.setIfInBounds_toArray, List.set_cons_zero, List.set_cons_succ]
  refine wpAnyH_take (i := 6) (oi := { dst := some 56, op := Op.fieldAddr 24 (Operand.tmp 10) 0, type := 0, pos := "raft.go:45", after := #[{ on := 15, ground := Ground.gcOnly Departure.lateStores }], guard := none }) (v := (.pointer (some ⟨w.heap.size, 0, none⟩))) rfl (by kernel_rfl) (by kernel_rfl) (by kernel_rfl) (fun _ _ _ h => h) (Or.inl ⟨by rfl, ?_⟩) hHeld ?_
  · intro w hSw; (try dsimp only at hSw); go_simp
  try simp only [Act.put, List.setIfInBounds_toArray, List.set_cons_zero, List.set_cons_succ]
  refine wpAnyH_take (i := 7) (oi := { dst := some 57, op := Op.load 3 (Operand.tmp 56), type := 3, pos := "raft.go:45", after := #[{ on := 6, ground := Ground.data }, { on := 15, ground := Ground.gcOnly Departure.lateStores }], guard := none }) (v := (.int .i64 b)) rfl (by kernel_rfl) (by kernel_rfl) (by kernel_rfl) (fun _ _ _ h => h) (Or.inl ⟨by rfl, ?_⟩) hHeld ?_
  · intro w hSw; (try dsimp only at hSw); go_simp
  try simp only [Act.put, List.setIfInBounds_toArray, List.set_cons_zero, List.set_cons_succ]
  refine wpAnyH_take (i := 8) (oi := { dst := some 58, op := Op.fieldAddr 31 (Operand.tmp 14) 2, type := 0, pos := "raft.go:45", after := #[{ on := 0, ground := Ground.phase }, { on := 1, ground := Ground.textOnly Departure.lateStores }, { on := 2, ground := Ground.textOnly Departure.lateStores }, { on := 3, ground := Ground.textOnly Departure.lateStoresUnsure }, { on := 4, ground := Ground.textOnly Departure.lateStores }, { on := 5, ground := Ground.textOnly Departure.lateStoresUnsure }, { on := 6, ground := Ground.textOnly Departure.lateStores }, { on := 7, ground := Ground.textOnly Departure.lateStores }], guard := none }) (v := (.pointer (some ⟨R, 2, none⟩))) rfl (by kernel_rfl) (by kernel_rfl) (by kernel_rfl) (fun _ _ _ h => h) (Or.inl ⟨by rfl, ?_⟩) hHeld ?_
  · intro w hSw; (try dsimp only at hSw); go_simp
  try simp only [Act.put, List.setIfInBounds_toArray, List.set_cons_zero, List.set_cons_succ]
  refine wpAnyH_ready (rs := [3]) (by kernel_rfl) (by simp) ?_
  refine AllReadyH.cons (o := { dst := some 53, op := Op.call { callee := Callee.value (Operand.func 30), args := #[Operand.tmp 52], argTypes := #[24] }, type := 24, pos := "raft.go:45", after := #[{ on := 2, ground := Ground.data }], guard := none }) rfl (fun K hK => ?_) AllReadyH.nil
  go_simp
  (go_at_call 30; refine (HCp.out _ (H6.out.1.l.trans ((Below.refl _ _).drew.mono H6.out.1.l.size))).mono ?_; rintro e w7 ⟨ra, rc, rfl, q1, q2⟩; have H7 : Hid (Rt w w7 b bt ea ec es ∧ Cl16 w7 R (.int .i64 m.id) (.int .i64 m.n) (.int .i64 m.term) (.int .i64 m.vote) (.int .i64 m.role) (.int .i64 m.lead) (.int .i64 m.b) (.int .i64 m.bt) (.slice s.ea m.es.length s.ec) (.int .i64 m.commit) (.slice s.sa m.snap.length s.sc) (.slice s.ga m.granted.length s.gc) (.slice s.xa m.next.length s.xc) (.slice s.ma m.mtch.length s.mc) (.int .i64 m.clock) (.int .i64 m.wait) ∧ EnsV w7 (fun g => w6.heap.size ≤ g) ra rc es ∧ R < w6.heap.size) := ⟨H6.out.1.below ((Below.refl _ _).drew.trans q2), H6.out.2.below ((Below.refl _ _).drew.trans q2), q1, H6.out.2.lt⟩; obtain ⟨x0, x1, x2, xf⟩ := H7.out.1.a; have hx0 : w.heap.size < w7.heap.size := H7.out.1.a.lt; have hxR : R < w7.heap.size := H7.out.2.1.lt; clear q1 q2)
  go_wp2_with fail
  refine hK.out _ _ ⟨x0, x1, x2⟩ (fun hHeld2 => ?_)
  clear hK K hHeld
  have hHeld := hHeld2
  clear hHeld2
  try simp only [Act.put, List.setIfInBounds_toArray, List.set_cons_zero, List.set_cons_succ]
  refine wpAnyH_ready (rs := [5]) (by kernel_rfl) (by simp) ?_
  refine AllReadyH.cons (o := { dst := some 55, op := Op.call { callee := Callee.value (Operand.func 31), args := #[Operand.tmp 54], argTypes := #[25] }, type := 25, pos := "raft.go:45", after := #[{ on := 4, ground := Ground.data }, { on := 3, ground := Ground.chain }], guard := none }) rfl (fun K hK => ?_) AllReadyH.nil
  go_simp
  (go_at_call 31; refine (HCd.out _ H7.out.1.l).mono ?_; rintro e w8 ⟨ka, kc, rfl, q1, q2, q3⟩; have H8 : Hid (Rt w w8 b bt ea ec es ∧ Cl16 w8 R (.int .i64 m.id) (.int .i64 m.n) (.int .i64 m.term) (.int .i64 m.vote) (.int .i64 m.role) (.int .i64 m.lead) (.int .i64 m.b) (.int .i64 m.bt) (.slice s.ea m.es.length s.ec) (.int .i64 m.commit) (.slice s.sa m.snap.length s.sc) (.slice s.ga m.granted.length s.gc) (.slice s.xa m.next.length s.xc) (.slice s.ma m.mtch.length s.mc) (.int .i64 m.clock) (.int .i64 m.wait) ∧ EnsV w8 (fun g => w6.heap.size ≤ g) ra rc es ∧ R < w6.heap.size ∧ ReadsV w8 (.slice ka snap.length kc) snap ∧ PV (fun g => w7.heap.size ≤ g) ka snap.length ∧ R < w7.heap.size) := ⟨H7.out.1.below q3, H7.out.2.1.below q3, H7.out.2.2.1.below q3, H7.out.2.2.2, q1, q2, H7.out.2.1.lt⟩; obtain ⟨y0, y1, y2, yf⟩ := H8.out.1.a; obtain ⟨r0, r1, r2, r3, r4, r5, r6, r7, r8, r9, r10, r11, r12, r13, r14, r15, rf⟩ := H8.out.2.1; have hy0 : w.heap.size < w8.heap.size := H8.out.1.a.lt; have hyR : R < w8.heap.size := H8.out.2.1.lt; clear q1 q2 q3)
  go_wp2_with fail
  refine hK.out _ _ ⟨y0, y1, y2⟩ (fun hHeld2 => ?_)
  clear hK K hHeld
  have hHeld := hHeld2
  clear hHeld2
  try simp only [Act.put, List.setIfInBounds_toArray, List.set_cons_zero, List.set_cons_succ]
  refine wpAnyH_ready (rs := [9]) (by kernel_rfl) (by simp) ?_
  refine AllReadyH.cons (o := { dst := none, op := Op.store 3 (Operand.tmp 58) (Operand.tmp 50), type := 0, pos := "raft.go:45", after := #[{ on := 8, ground := Ground.data }, { on := 0, ground := Ground.data }, { on := 5, ground := Ground.chain }, { on := 0, ground := Ground.phase }, { on := 1, ground := Ground.textOnly Departure.lateStores }, { on := 2, ground := Ground.textOnly Departure.lateStores }, { on := 3, ground := Ground.textOnly Departure.lateStoresUnsure }, { on := 4, ground := Ground.textOnly Departure.lateStores }, { on := 5, ground := Ground.textOnly Departure.lateStoresUnsure }, { on := 6, ground := Ground.textOnly Departure.lateStores }, { on := 7, ground := Ground.textOnly Departure.lateStores }], guard := none }) rfl (fun K hK => ?_) AllReadyH.nil
  go_simp
  go_wp2_with fail
  refine hK.out _ _ ⟨(cell_kept (heap_other hne) _).trans y0, (cell_kept (heap_other hne) _).trans y1, (cell_kept (heap_other hne) _).trans y2⟩ (fun hHeld2 => ?_)
  clear hK K hHeld
  have hHeld := hHeld2
  clear hHeld2
  try simp only [Act.put, List.setIfInBounds_toArray, List.set_cons_zero, List.set_cons_succ]
  refine wpAnyH_take (i := 10) (oi := { dst := some 59, op := Op.fieldAddr 31 (Operand.tmp 14) 3, type := 0, pos := "raft.go:45", after := #[{ on := 0, ground := Ground.phase }, { on := 1, ground := Ground.phase }, { on := 2, ground := Ground.textOnly Departure.lateStores }, { on := 3, ground := Ground.textOnly Departure.lateStoresUnsure }, { on := 4, ground := Ground.textOnly Departure.lateStores }, { on := 5, ground := Ground.textOnly Departure.lateStoresUnsure }, { on := 6, ground := Ground.textOnly Departure.lateStores }, { on := 7, ground := Ground.textOnly Departure.lateStores }, { on := 8, ground := Ground.phase }, { on := 9, ground := Ground.phase }], guard := none }) (v := (.pointer (some ⟨R, 3, none⟩))) rfl (by kernel_rfl) (by kernel_rfl) (by kernel_rfl) (fun _ _ _ h => h) (Or.inl ⟨by rfl, ?_⟩) hHeld ?_
  · intro w hSw; (try dsimp only at hSw); go_simp
  try simp only [Act.put, List.setIfInBounds_toArray, List.set_cons_zero, List.set_cons_succ]
  refine wpAnyH_ready (rs := [11]) (by kernel_rfl) (by simp) ?_
  refine AllReadyH.cons (o := { dst := none, op := Op.store 3 (Operand.tmp 59) (Operand.tmp 51), type := 0, pos := "raft.go:45", after := #[{ on := 10, ground := Ground.data }, { on := 1, ground := Ground.data }, { on := 9, ground := Ground.chain }, { on := 0, ground := Ground.phase }, { on := 1, ground := Ground.phase }, { on := 2, ground := Ground.textOnly Departure.lateStores }, { on := 3, ground := Ground.textOnly Departure.lateStoresUnsure }, { on := 4, ground := Ground.textOnly Departure.lateStores }, { on := 5, ground := Ground.textOnly Departure.lateStoresUnsure }, { on := 6, ground := Ground.textOnly Departure.lateStores }, { on := 7, ground := Ground.textOnly Departure.lateStores }, { on := 8, ground := Ground.phase }, { on := 9, ground := Ground.phase }], guard := none }) rfl (fun K hK => ?_) AllReadyH.nil
  go_simp
  go_wp2_with fail
  refine hK.out _ _ ⟨(cell_kept ((heap_other hne).trans (heap_other hne)) _).trans y0, (cell_kept ((heap_other hne).trans (heap_other hne)) _).trans y1, (cell_kept ((heap_other hne).trans (heap_other hne)) _).trans y2⟩ (fun hHeld2 => ?_)
  clear hK K hHeld
  have hHeld := hHeld2
  clear hHeld2
  try simp only [Act.put, List.setIfInBounds_toArray, List.set_cons_zero, List.set_cons_succ]
  refine wpAnyH_take (i := 12) (oi := { dst := some 60, op := Op.fieldAddr 31 (Operand.tmp 14) 6, type := 0, pos := "raft.go:45", after := #[{ on := 0, ground := Ground.phase }, { on := 1, ground := Ground.phase }, { on := 2, ground := Ground.phase }, { on := 3, ground := Ground.phase }, { on := 4, ground := Ground.textOnly Departure.lateStores }, { on := 5, ground := Ground.textOnly Departure.lateStoresUnsure }, { on := 6, ground := Ground.textOnly Departure.lateStores }, { on := 7, ground := Ground.textOnly Departure.lateStores }, { on := 8, ground := Ground.phase }, { on := 9, ground := Ground.phase }, { on := 10, ground := Ground.phase }, { on := 11, ground := Ground.phase }], guard := none }) (v := (.pointer (some ⟨R, 6, none⟩))) rfl (by kernel_rfl) (by kernel_rfl) (by kernel_rfl) (fun _ _ _ h => h) (Or.inl ⟨by rfl, ?_⟩) hHeld ?_
  · intro w hSw; (try dsimp only at hSw); go_simp
  try simp only [Act.put, List.setIfInBounds_toArray, List.set_cons_zero, List.set_cons_succ]
  refine wpAnyH_ready (rs := [13]) (by kernel_rfl) (by simp) ?_
  refine AllReadyH.cons (o := { dst := none, op := Op.store 24 (Operand.tmp 60) (Operand.tmp 53), type := 0, pos := "raft.go:45", after := #[{ on := 12, ground := Ground.data }, { on := 3, ground := Ground.data }, { on := 11, ground := Ground.chain }, { on := 0, ground := Ground.phase }, { on := 1, ground := Ground.phase }, { on := 2, ground := Ground.phase }, { on := 3, ground := Ground.phase }, { on := 4, ground := Ground.textOnly Departure.lateStores }, { on := 5, ground := Ground.textOnly Departure.lateStoresUnsure }, { on := 6, ground := Ground.textOnly Departure.lateStores }, { on := 7, ground := Ground.textOnly Departure.lateStores }, { on := 8, ground := Ground.phase }, { on := 9, ground := Ground.phase }, { on := 10, ground := Ground.phase }, { on := 11, ground := Ground.phase }], guard := none }) rfl (fun K hK => ?_) AllReadyH.nil
  go_simp
  go_wp2_with fail
  refine hK.out _ _ ⟨(cell_kept ((heap_other hne).trans ((heap_other hne).trans ((heap_other hne).trans ((heap_other hne).trans (heap_other hne))))) _).trans y0, (cell_kept ((heap_other hne).trans ((heap_other hne).trans ((heap_other hne).trans ((heap_other hne).trans (heap_other hne))))) _).trans y1, (cell_kept ((heap_other hne).trans ((heap_other hne).trans ((heap_other hne).trans ((heap_other hne).trans (heap_other hne))))) _).trans y2⟩ (fun hHeld2 => ?_)
  clear hK K hHeld
  have hHeld := hHeld2
  clear hHeld2
  try simp only [Act.put, List.setIfInBounds_toArray, List.set_cons_zero, List.set_cons_succ]
  refine wpAnyH_take (i := 14) (oi := { dst := some 61, op := Op.fieldAddr 31 (Operand.tmp 14) 8, type := 0, pos := "raft.go:45", after := #[{ on := 0, ground := Ground.phase }, { on := 1, ground := Ground.phase }, { on := 2, ground := Ground.phase }, { on := 3, ground := Ground.phase }, { on := 4, ground := Ground.phase }, { on := 5, ground := Ground.phase }, { on := 6, ground := Ground.textOnly Departure.lateStores }, { on := 7, ground := Ground.textOnly Departure.lateStores }, { on := 8, ground := Ground.phase }, { on := 9, ground := Ground.phase }, { on := 10, ground := Ground.phase }, { on := 11, ground := Ground.phase }, { on := 12, ground := Ground.phase }, { on := 13, ground := Ground.phase }], guard := none }) (v := (.pointer (some ⟨R, 10, none⟩))) rfl (by kernel_rfl) (by kernel_rfl) (by kernel_rfl) (fun _ _ _ h => h) (Or.inl ⟨by rfl, ?_⟩) hHeld ?_
  · intro w hSw; (try dsimp only at hSw); go_simp
  try simp only [Act.put, List.setIfInBounds_toArray, List.set_cons_zero, List.set_cons_succ]
  refine wpAnyH_ready (rs := [15]) (by kernel_rfl) (by simp) ?_
  refine AllReadyH.cons (o := { dst := none, op := Op.store 25 (Operand.tmp 61) (Operand.tmp 55), type := 0, pos := "raft.go:45", after := #[{ on := 14, ground := Ground.data }, { on := 5, ground := Ground.data }, { on := 13, ground := Ground.chain }, { on := 0, ground := Ground.phase }, { on := 1, ground := Ground.phase }, { on := 2, ground := Ground.phase }, { on := 3, ground := Ground.phase }, { on := 4, ground := Ground.phase }, { on := 5, ground := Ground.phase }, { on := 6, ground := Ground.textOnly Departure.lateStores }, { on := 7, ground := Ground.textOnly Departure.lateStores }, { on := 8, ground := Ground.phase }, { on := 9, ground := Ground.phase }, { on := 10, ground := Ground.phase }, { on := 11, ground := Ground.phase }, { on := 12, ground := Ground.phase }, { on := 13, ground := Ground.phase }], guard := none }) rfl (fun K hK => ?_) AllReadyH.nil
  go_simp
  go_wp2_with fail
  refine hK.out _ _ ⟨(cell_kept ((heap_other hne).trans ((heap_other hne).trans ((heap_other hne).trans ((heap_other hne).trans ((heap_other hne).trans (heap_other hne)))))) _).trans y0, (cell_kept ((heap_other hne).trans ((heap_other hne).trans ((heap_other hne).trans ((heap_other hne).trans ((heap_other hne).trans (heap_other hne)))))) _).trans y1, (cell_kept ((heap_other hne).trans ((heap_other hne).trans ((heap_other hne).trans ((heap_other hne).trans ((heap_other hne).trans (heap_other hne)))))) _).trans y2⟩ (fun hHeld2 => ?_)
  clear hK K hHeld
  have hHeld := hHeld2
  clear hHeld2
  try simp only [Act.put, List.setIfInBounds_toArray, List.set_cons_zero, List.set_cons_succ]
  refine wpAnyH_take (i := 16) (oi := { dst := some 62, op := Op.fieldAddr 31 (Operand.tmp 14) 7, type := 0, pos := "raft.go:45", after := #[{ on := 0, ground := Ground.phase }, { on := 1, ground := Ground.phase }, { on := 2, ground := Ground.phase }, { on := 3, ground := Ground.phase }, { on := 4, ground := Ground.phase }, { on := 5, ground := Ground.phase }, { on := 6, ground := Ground.phase }, { on := 7, ground := Ground.phase }, { on := 8, ground := Ground.phase }, { on := 9, ground := Ground.phase }, { on := 10, ground := Ground.phase }, { on := 11, ground := Ground.phase }, { on := 12, ground := Ground.phase }, { on := 13, ground := Ground.phase }, { on := 14, ground := Ground.phase }, { on := 15, ground := Ground.phase }], guard := none }) (v := (.pointer (some ⟨R, 9, none⟩))) rfl (by kernel_rfl) (by kernel_rfl) (by kernel_rfl) (fun _ _ _ h => h) (Or.inl ⟨by rfl, ?_⟩) hHeld ?_
  · intro w hSw; (try dsimp only at hSw); go_simp
  try simp only [Act.put, List.setIfInBounds_toArray, List.set_cons_zero, List.set_cons_succ]
  refine wpAnyH_ready (rs := [17]) (by kernel_rfl) (by simp) ?_
  refine AllReadyH.cons (o := { dst := none, op := Op.store 3 (Operand.tmp 62) (Operand.tmp 57), type := 0, pos := "raft.go:45", after := #[{ on := 16, ground := Ground.data }, { on := 7, ground := Ground.data }, { on := 15, ground := Ground.chain }, { on := 0, ground := Ground.phase }, { on := 1, ground := Ground.phase }, { on := 2, ground := Ground.phase }, { on := 3, ground := Ground.phase }, { on := 4, ground := Ground.phase }, { on := 5, ground := Ground.phase }, { on := 6, ground := Ground.phase }, { on := 7, ground := Ground.phase }, { on := 8, ground := Ground.phase }, { on := 9, ground := Ground.phase }, { on := 10, ground := Ground.phase }, { on := 11, ground := Ground.phase }, { on := 12, ground := Ground.phase }, { on := 13, ground := Ground.phase }, { on := 14, ground := Ground.phase }, { on := 15, ground := Ground.phase }], guard := none }) rfl (fun K hK => ?_) AllReadyH.nil
  go_simp
  go_wp2_with fail
  refine hK.out _ _ ⟨(cell_kept ((heap_other hne).trans ((heap_other hne).trans ((heap_other hne).trans ((heap_other hne).trans ((heap_other hne).trans ((heap_other hne).trans (heap_other hne))))))) _).trans y0, (cell_kept ((heap_other hne).trans ((heap_other hne).trans ((heap_other hne).trans ((heap_other hne).trans ((heap_other hne).trans ((heap_other hne).trans (heap_other hne))))))) _).trans y1, (cell_kept ((heap_other hne).trans ((heap_other hne).trans ((heap_other hne).trans ((heap_other hne).trans ((heap_other hne).trans ((heap_other hne).trans (heap_other hne))))))) _).trans y2⟩ (fun hHeld2 => ?_)
  clear hK K hHeld
  have hHeld := hHeld2
  clear hHeld2
  try simp only [Act.put, List.setIfInBounds_toArray, List.set_cons_zero, List.set_cons_succ]
  refine wpAnyH_done (by kernel_rfl) ?_ _
  have HW : Hid (Cl16 (((((((w8.setCell ⟨R, 2, none⟩ (.int .i64 term)).setCell ⟨R, 3, none⟩ (.int .i64 vote)).setCell ⟨R, 6, none⟩ (.int .i64 b)).setCell ⟨R, 7, none⟩ (.int .i64 bt)).setCell ⟨R, 8, none⟩ (.slice ra es.length rc)).setCell ⟨R, 10, none⟩ (.slice ka snap.length kc)).setCell ⟨R, 9, none⟩ (.int .i64 b)) R (.int .i64 m.id) (.int .i64 m.n) (.int .i64 term) (.int .i64 vote) (.int .i64 m.role) (.int .i64 m.lead) (.int .i64 b) (.int .i64 bt) (.slice ra es.length rc) (.int .i64 b) (.slice ka snap.length kc) (.slice s.ga m.granted.length s.gc) (.slice s.xa m.next.length s.xc) (.slice s.ma m.mtch.length s.mc) (.int .i64 m.clock) (.int .i64 m.wait) ∧ Cl16 (((((((w8.setCell ⟨R, 2, none⟩ (.int .i64 term)).setCell ⟨R, 3, none⟩ (.int .i64 vote)).setCell ⟨R, 6, none⟩ (.int .i64 b)).setCell ⟨R, 7, none⟩ (.int .i64 bt)).setCell ⟨R, 8, none⟩ (.slice ra es.length rc)).setCell ⟨R, 10, none⟩ (.slice ka snap.length kc)).setCell ⟨R, 9, none⟩ (.int .i64 b)) (w.heap.size + 1) (.int .i64 0) (.int .i64 0) (.int .i64 0) (.int .i64 0) (.int .i64 0) (.int .i64 0) (.int .i64 0) (.int .i64 0) (.slice none 0 0) (.int .i64 0) (.slice none 0 0) (.slice none 0 0) (.slice none 0 0) (.slice none 0 0) (.int .i64 0) (.int .i64 0) ∧ Below w.heap.size w (((((((w8.setCell ⟨R, 2, none⟩ (.int .i64 term)).setCell ⟨R, 3, none⟩ (.int .i64 vote)).setCell ⟨R, 6, none⟩ (.int .i64 b)).setCell ⟨R, 7, none⟩ (.int .i64 bt)).setCell ⟨R, 8, none⟩ (.slice ra es.length rc)).setCell ⟨R, 10, none⟩ (.slice ka snap.length kc)).setCell ⟨R, 9, none⟩ (.int .i64 b)) ∧ EnsV (((((((w8.setCell ⟨R, 2, none⟩ (.int .i64 term)).setCell ⟨R, 3, none⟩ (.int .i64 vote)).setCell ⟨R, 6, none⟩ (.int .i64 b)).setCell ⟨R, 7, none⟩ (.int .i64 bt)).setCell ⟨R, 8, none⟩ (.slice ra es.length rc)).setCell ⟨R, 10, none⟩ (.slice ka snap.length kc)).setCell ⟨R, 9, none⟩ (.int .i64 b)) (fun g => w6.heap.size ≤ g) ra rc es ∧ ReadsV (((((((w8.setCell ⟨R, 2, none⟩ (.int .i64 term)).setCell ⟨R, 3, none⟩ (.int .i64 vote)).setCell ⟨R, 6, none⟩ (.int .i64 b)).setCell ⟨R, 7, none⟩ (.int .i64 bt)).setCell ⟨R, 8, none⟩ (.slice ra es.length rc)).setCell ⟨R, 10, none⟩ (.slice ka snap.length kc)).setCell ⟨R, 9, none⟩ (.int .i64 b)) (.slice ka snap.length kc) snap ∧ EnsV (((((((w8.setCell ⟨R, 2, none⟩ (.int .i64 term)).setCell ⟨R, 3, none⟩ (.int .i64 vote)).setCell ⟨R, 6, none⟩ (.int .i64 b)).setCell ⟨R, 7, none⟩ (.int .i64 bt)).setCell ⟨R, 8, none⟩ (.slice ra es.length rc)).setCell ⟨R, 10, none⟩ (.slice ka snap.length kc)).setCell ⟨R, 9, none⟩ (.int .i64 b)) (fun g => g ≠ w.heap.size + 1) ra rc es ∧ PV (fun g => g ≠ w.heap.size + 1) ka snap.length) := by
    have hk : ∀ g, g ≠ R → (((((((w8.setCell ⟨R, 2, none⟩ (.int .i64 term)).setCell ⟨R, 3, none⟩ (.int .i64 vote)).setCell ⟨R, 6, none⟩ (.int .i64 b)).setCell ⟨R, 7, none⟩ (.int .i64 bt)).setCell ⟨R, 8, none⟩ (.slice ra es.length rc)).setCell ⟨R, 10, none⟩ (.slice ka snap.length kc)).setCell ⟨R, 9, none⟩ (.int .i64 b)).heap[g]? = w8.heap[g]? := fun g hg => ((heap_other hg).trans ((heap_other hg).trans ((heap_other hg).trans ((heap_other hg).trans ((heap_other hg).trans ((heap_other hg).trans (heap_other hg)))))))
    have l6 := H8.out.2.2.2.1
    have l7 := H8.out.2.2.2.2.2.2
    have z1 := H6.out.1.z
    have z7 := H7.out.1.z
    have b1 := bytes_kept (w' := (((((((w8.setCell ⟨R, 2, none⟩ (.int .i64 term)).setCell ⟨R, 3, none⟩ (.int .i64 vote)).setCell ⟨R, 6, none⟩ (.int .i64 b)).setCell ⟨R, 7, none⟩ (.int .i64 bt)).setCell ⟨R, 8, none⟩ (.slice ra es.length rc)).setCell ⟨R, 10, none⟩ (.slice ka snap.length kc)).setCell ⟨R, 9, none⟩ (.int .i64 b))) (Q := fun g => g ≠ w.heap.size + 1) H8.out.2.2.2.2.1 H8.out.2.2.2.2.2.1 fun g hg _ => ⟨hk g (by omega), by omega⟩
    refine ⟨((((((H8.out.2.1.put 2 _).put 3 _).put 6 _).put 7 _).put 8 _).put 10 _).put 9 _, H8.out.1.q.kept (hk _ hR1), ?_, H8.out.2.2.1.kept fun g hg _ => ⟨hk g (by omega), hg⟩, b1.1, H8.out.2.2.1.kept fun g hg _ => ⟨hk g (by omega), by omega⟩, b1.2⟩
    have hR : w.heap.size ≤ R := HRw.out
    exact ((((((H8.out.1.l.setCell (p := ⟨R, 2, none⟩) hR _).setCell (p := ⟨R, 3, none⟩) hR _).setCell (p := ⟨R, 6, none⟩) hR _).setCell (p := ⟨R, 7, none⟩) hR _).setCell (p := ⟨R, 8, none⟩) hR _).setCell (p := ⟨R, 10, none⟩) hR _).setCell (p := ⟨R, 9, none⟩) hR _
  obtain ⟨wv, hwv⟩ : ∃ wv, (((((((w8.setCell ⟨R, 2, none⟩ (.int .i64 term)).setCell ⟨R, 3, none⟩ (.int .i64 vote)).setCell ⟨R, 6, none⟩ (.int .i64 b)).setCell ⟨R, 7, none⟩ (.int .i64 bt)).setCell ⟨R, 8, none⟩ (.slice ra es.length rc)).setCell ⟨R, 10, none⟩ (.slice ka snap.length kc)).setCell ⟨R, 9, none⟩ (.int .i64 b)) = wv := ⟨_, rfl⟩
  rw [hwv] at HW ⊢
  clear hwv x0 x1 x2 xf y0 y1 y2 yf r0 r1 r2 r3 r4 r5 r6 r7 r8 r9 r10 r11 r12 r13 r14 r15 rf g0 g1 g2 gf hx0 hxR hy0 hyR hg0 hgR H7 H8
  obtain ⟨d0, d1, d2, d3, d4, d5, d6, d7, d8, d9, d10, d11, d12, d13, d14, d15, df⟩ := HW.out.1
  obtain ⟨z0, z1, z2, z3, z4, z5, z6, z7, z8, z9, z10, z11, z12, z13, z14, z15, zf⟩ := HW.out.2.1
  have hv0 : R < wv.heap.size := HW.out.1.lt
  have hv1 : w.heap.size + 1 < wv.heap.size := HW.out.2.1.lt
  have HZ : Hid (Cl16 ((((((((((((((((wv.setCell ⟨w.heap.size + 1, 0, none⟩ (.int .i64 m.id)).setCell ⟨w.heap.size + 1, 1, none⟩ (.int .i64 m.n)).setCell ⟨w.heap.size + 1, 2, none⟩ (.int .i64 term)).setCell ⟨w.heap.size + 1, 3, none⟩ (.int .i64 vote)).setCell ⟨w.heap.size + 1, 4, none⟩ (.int .i64 m.role)).setCell ⟨w.heap.size + 1, 5, none⟩ (.int .i64 m.lead)).setCell ⟨w.heap.size + 1, 6, none⟩ (.int .i64 b)).setCell ⟨w.heap.size + 1, 7, none⟩ (.int .i64 bt)).setCell ⟨w.heap.size + 1, 8, none⟩ (.slice ra es.length rc)).setCell ⟨w.heap.size + 1, 9, none⟩ (.int .i64 b)).setCell ⟨w.heap.size + 1, 10, none⟩ (.slice ka snap.length kc)).setCell ⟨w.heap.size + 1, 11, none⟩ (.slice s.ga m.granted.length s.gc)).setCell ⟨w.heap.size + 1, 12, none⟩ (.slice s.xa m.next.length s.xc)).setCell ⟨w.heap.size + 1, 13, none⟩ (.slice s.ma m.mtch.length s.mc)).setCell ⟨w.heap.size + 1, 14, none⟩ (.int .i64 m.clock)).setCell ⟨w.heap.size + 1, 15, none⟩ (.int .i64 m.wait)) (w.heap.size + 1) (.int .i64 m.id) (.int .i64 m.n) (.int .i64 term) (.int .i64 vote) (.int .i64 m.role) (.int .i64 m.lead) (.int .i64 b) (.int .i64 bt) (.slice ra es.length rc) (.int .i64 b) (.slice ka snap.length kc) (.slice s.ga m.granted.length s.gc) (.slice s.xa m.next.length s.xc) (.slice s.ma m.mtch.length s.mc) (.int .i64 m.clock) (.int .i64 m.wait) ∧ RsP RR w (.returned (.tuple #[.agg #[.int .i64 m.id, .int .i64 m.n, .int .i64 term, .int .i64 vote, .int .i64 m.role, .int .i64 m.lead, .int .i64 b, .int .i64 bt, .slice ra es.length rc, .int .i64 b, .slice ka snap.length kc, .slice s.ga m.granted.length s.gc, .slice s.xa m.next.length s.xc, .slice s.ma m.mtch.length s.mc, .int .i64 m.clock, .int .i64 m.wait], .int .i64 0])) ((((((((((((((((wv.setCell ⟨w.heap.size + 1, 0, none⟩ (.int .i64 m.id)).setCell ⟨w.heap.size + 1, 1, none⟩ (.int .i64 m.n)).setCell ⟨w.heap.size + 1, 2, none⟩ (.int .i64 term)).setCell ⟨w.heap.size + 1, 3, none⟩ (.int .i64 vote)).setCell ⟨w.heap.size + 1, 4, none⟩ (.int .i64 m.role)).setCell ⟨w.heap.size + 1, 5, none⟩ (.int .i64 m.lead)).setCell ⟨w.heap.size + 1, 6, none⟩ (.int .i64 b)).setCell ⟨w.heap.size + 1, 7, none⟩ (.int .i64 bt)).setCell ⟨w.heap.size + 1, 8, none⟩ (.slice ra es.length rc)).setCell ⟨w.heap.size + 1, 9, none⟩ (.int .i64 b)).setCell ⟨w.heap.size + 1, 10, none⟩ (.slice ka snap.length kc)).setCell ⟨w.heap.size + 1, 11, none⟩ (.slice s.ga m.granted.length s.gc)).setCell ⟨w.heap.size + 1, 12, none⟩ (.slice s.xa m.next.length s.xc)).setCell ⟨w.heap.size + 1, 13, none⟩ (.slice s.ma m.mtch.length s.mc)).setCell ⟨w.heap.size + 1, 14, none⟩ (.int .i64 m.clock)).setCell ⟨w.heap.size + 1, 15, none⟩ (.int .i64 m.wait))) := by
    have b2 := bytes_kept (w' := ((((((((((((((((wv.setCell ⟨w.heap.size + 1, 0, none⟩ (.int .i64 m.id)).setCell ⟨w.heap.size + 1, 1, none⟩ (.int .i64 m.n)).setCell ⟨w.heap.size + 1, 2, none⟩ (.int .i64 term)).setCell ⟨w.heap.size + 1, 3, none⟩ (.int .i64 vote)).setCell ⟨w.heap.size + 1, 4, none⟩ (.int .i64 m.role)).setCell ⟨w.heap.size + 1, 5, none⟩ (.int .i64 m.lead)).setCell ⟨w.heap.size + 1, 6, none⟩ (.int .i64 b)).setCell ⟨w.heap.size + 1, 7, none⟩ (.int .i64 bt)).setCell ⟨w.heap.size + 1, 8, none⟩ (.slice ra es.length rc)).setCell ⟨w.heap.size + 1, 9, none⟩ (.int .i64 b)).setCell ⟨w.heap.size + 1, 10, none⟩ (.slice ka snap.length kc)).setCell ⟨w.heap.size + 1, 11, none⟩ (.slice s.ga m.granted.length s.gc)).setCell ⟨w.heap.size + 1, 12, none⟩ (.slice s.xa m.next.length s.xc)).setCell ⟨w.heap.size + 1, 13, none⟩ (.slice s.ma m.mtch.length s.mc)).setCell ⟨w.heap.size + 1, 14, none⟩ (.int .i64 m.clock)).setCell ⟨w.heap.size + 1, 15, none⟩ (.int .i64 m.wait))) (Q := fun _ => True) HW.out.2.2.2.2.1 HW.out.2.2.2.2.2.2 fun g hg _ => ⟨Cl16.other hg, trivial⟩
    exact ⟨HW.out.2.1.boxed (.int .i64 m.id) (.int .i64 m.n) (.int .i64 term) (.int .i64 vote) (.int .i64 m.role) (.int .i64 m.lead) (.int .i64 b) (.int .i64 bt) (.slice ra es.length rc) (.int .i64 b) (.slice ka snap.length kc) (.slice s.ga m.granted.length s.gc) (.slice s.xa m.next.length s.xc) (.slice s.ma m.mtch.length s.mc) (.int .i64 m.clock) (.int .i64 m.wait), HFin.out _ _ s ra rc ka kc HM1.out (HW.out.2.2.2.2.2.1.kept fun g hg _ => ⟨Cl16.other hg, trivial⟩) b2.1 (Cl16.under HW.out.2.2.1 (by omega))⟩
  go_wp2
  obtain ⟨wz, hwz⟩ : ∃ wz, ((((((((((((((((wv.setCell ⟨w.heap.size + 1, 0, none⟩ (.int .i64 m.id)).setCell ⟨w.heap.size + 1, 1, none⟩ (.int .i64 m.n)).setCell ⟨w.heap.size + 1, 2, none⟩ (.int .i64 term)).setCell ⟨w.heap.size + 1, 3, none⟩ (.int .i64 vote)).setCell ⟨w.heap.size + 1, 4, none⟩ (.int .i64 m.role)).setCell ⟨w.heap.size + 1, 5, none⟩ (.int .i64 m.lead)).setCell ⟨w.heap.size + 1, 6, none⟩ (.int .i64 b)).setCell ⟨w.heap.size + 1, 7, none⟩ (.int .i64 bt)).setCell ⟨w.heap.size + 1, 8, none⟩ (.slice ra es.length rc)).setCell ⟨w.heap.size + 1, 9, none⟩ (.int .i64 b)).setCell ⟨w.heap.size + 1, 10, none⟩ (.slice ka snap.length kc)).setCell ⟨w.heap.size + 1, 11, none⟩ (.slice s.ga m.granted.length s.gc)).setCell ⟨w.heap.size + 1, 12, none⟩ (.slice s.xa m.next.length s.xc)).setCell ⟨w.heap.size + 1, 13, none⟩ (.slice s.ma m.mtch.length s.mc)).setCell ⟨w.heap.size + 1, 14, none⟩ (.int .i64 m.clock)).setCell ⟨w.heap.size + 1, 15, none⟩ (.int .i64 m.wait)) = wz := ⟨_, rfl⟩
  rw [hwz] at HZ ⊢
  exact bodyPost_ret (resRestart _ HZ.out.1 rfl) rfl HZ.out.2
end
section
open Go.RowKit
set_option linter.unusedVariables false
set_option linter.unusedSimpArgs false


set_option maxRecDepth 100000 in
set_option maxHeartbeats 2000000 in
theorem Restart_b4 (id n term vote b bt : Int) {P : Nat → Prop} {ea : Option Addr} {ec : Nat} {es : List En} {sa : Option Addr} {sc : Nat} {snap : BB} {w : World} (hE : EnsV w P ea ec es) (hs : Small es) (hS : ReadsV w (.slice sa snap.length sc) snap) (hsl : snap.length ≤ 100000) (hb : InR b) (hbt : InR bt) (h : amongM id n) (hi1 : 0 ≤ term) (hi2 : term ≤ 1099511627776) (hv : 0 ≤ vote) (hw : vote ≤ n) (hc : ¬ chkM b bt es = 0) : Calls Try.prog 11 #[.int .i64 id, .int .i64 n, .int .i64 term, .int .i64 vote, .agg #[.int .i64 b, .int .i64 bt, .slice ea es.length ec], .slice sa snap.length sc] w (RsP (restartM id n term vote b bt es snap) w) := by
  obtain ⟨m, hm⟩ : ∃ m, (newM id n).1 = m := ⟨_, rfl⟩
  have hnw : newM id n = (m, 0) := by rw [← hm]; unfold newM; rw [if_pos h]
  have hrs : restartM id n term vote b bt es snap = (zMb, 1) := by
    unfold restartM
    rw [if_pos h, if_neg (fun q => hc q.2.2.1)]
  have HNe : Hid (∀ wx, Calls Try.prog 9 #[.int .i64 id, .int .i64 n] wx fun e w' => ∃ s : Ad, e = .returned (.tuple #[.agg #[.int .i64 m.id, .int .i64 m.n, .int .i64 m.term, .int .i64 m.vote, .int .i64 m.role, .int .i64 m.lead, .int .i64 m.b, .int .i64 m.bt, .slice s.ea m.es.length s.ec, .int .i64 m.commit, .slice s.sa m.snap.length s.sc, .slice s.ga m.granted.length s.gc, .slice s.xa m.next.length s.xc, .slice s.ma m.mtch.length s.mc, .int .i64 m.clock, .int .i64 m.wait], .int .i64 0]) ∧ MbV w' (fun _ => True) s m ∧ Below wx.heap.size wx w') := fun wx => by
    refine (New_any id n wx).mono fun e w' ⟨s', q1, q2, q3⟩ => ⟨s', ?_, ?_, q3⟩
    · rw [q1, hnw]; rfl
    · rw [hnw] at q2; exact q2
  have hv1 : decide (vote < 0) = false := decide_eq_false (by omega)
  have hv2 : decide (n < vote) = false := decide_eq_false (by omega)
  obtain ⟨ck, hck⟩ : ∃ ck, chkM b bt es = ck := ⟨_, rfl⟩
  have HCk : Hid (∀ wx, Below w.heap.size w wx → Calls Try.prog 28 #[.agg #[.int .i64 b, .int .i64 bt, .slice ea es.length ec]] wx fun e w' => e = .returned (.int .i64 1) ∧ Below wx.heap.size wx w') := fun wx q => by
    have := Check_any P b bt ea ec es wx hb hbt (hE.below q)
    rw [hck] at this
    rw [hck.symm.trans (chk_one hc)] at this
    exact this
  have HR0 : Hid (Rt w ((w.alloc (Obj.cells #[.int .i64 b, .int .i64 bt, .slice ea es.length ec] 24)).alloc (Obj.cells #[.int .i64 0, .int .i64 0, .int .i64 0, .int .i64 0, .int .i64 0, .int .i64 0, .int .i64 0, .int .i64 0, .slice none 0 0, .int .i64 0, .slice none 0 0, .slice none 0 0, .slice none 0 0, .slice none 0 0, .int .i64 0, .int .i64 0] 31)) b bt ea ec es) := Rt.first w b bt ea ec es
  have HE : Hid (∀ wz, Below w.heap.size w wz → RsP (restartM id n term vote b bt es snap) w (.returned (.tuple #[.agg #[.int .i64 0, .int .i64 0, .int .i64 0, .int .i64 0, .int .i64 0, .int .i64 0, .int .i64 0, .int .i64 0, .slice none 0 0, .int .i64 0, .slice none 0 0, .slice none 0 0, .slice none 0 0, .slice none 0 0, .int .i64 0, .int .i64 0], .int .i64 1])) wz) := fun wz q => by
    rw [hrs]
    exact ⟨zAd, rfl, MbV.new _ _ _ rfl rfl rfl rfl rfl, q⟩
  clear hrs hnw hm hE hS h hck hc
  generalize restartM id n term vote b bt es snap = R at *
  go_enter Try.func11, Try.ntmps11
  go_upto_region 2 with (go_at_call 9; refine (HNe.out _).mono ?_; rintro e w1 ⟨s, rfl, q1, q2⟩; have H1 : Hid (Rt w w1 b bt ea ec es ∧ MbV w1 (fun _ => True) s m) := ⟨HR0.out.below q2, q1⟩; obtain ⟨k0, k1, k2, kf⟩ := H1.out.1.a; obtain ⟨kq0, kq1, kq2, kq3, kq4, kq5, kq6, kq7, kq8, kq9, kq10, kq11, kq12, kq13, kq14, kq15, kqf⟩ := H1.out.1.q; have hk0 : w.heap.size < w1.heap.size := H1.out.1.a.lt; have hk1 : w.heap.size + 1 < w1.heap.size := H1.out.1.q.lt; clear q1 q2)
  have H2 : Hid (Rt w (w1.alloc (Obj.cells #[.int .i64 m.id, .int .i64 m.n, .int .i64 m.term, .int .i64 m.vote, .int .i64 m.role, .int .i64 m.lead, .int .i64 m.b, .int .i64 m.bt, .slice s.ea m.es.length s.ec, .int .i64 m.commit, .slice s.sa m.snap.length s.sc, .slice s.ga m.granted.length s.gc, .slice s.xa m.next.length s.xc, .slice s.ma m.mtch.length s.mc, .int .i64 m.clock, .int .i64 m.wait] 31)) b bt ea ec es) := H1.out.1.below ((Below.refl _ _).alloc (Nat.le_refl _) _)
  obtain ⟨wb, hwb⟩ : ∃ wb, (w1.alloc (Obj.cells #[.int .i64 m.id, .int .i64 m.n, .int .i64 m.term, .int .i64 m.vote, .int .i64 m.role, .int .i64 m.lead, .int .i64 m.b, .int .i64 m.bt, .slice s.ea m.es.length s.ec, .int .i64 m.commit, .slice s.sa m.snap.length s.sc, .slice s.ga m.granted.length s.gc, .slice s.xa m.next.length s.xc, .slice s.ma m.mtch.length s.mc, .int .i64 m.clock, .int .i64 m.wait] 31)) = wb := ⟨_, rfl⟩
  rw [hwb] at H2 ⊢
  clear hwb H1 k0 k1 k2 kf kq0 kq1 kq2 kq3 kq4 kq5 kq6 kq7 kq8 kq9 kq10 kq11 kq12 kq13 kq14 kq15 kqf hk0 hk1
  obtain ⟨k0, k1, k2, kf⟩ := H2.out.a
  obtain ⟨kq0, kq1, kq2, kq3, kq4, kq5, kq6, kq7, kq8, kq9, kq10, kq11, kq12, kq13, kq14, kq15, kqf⟩ := H2.out.q
  have hk0 : w.heap.size < wb.heap.size := H2.out.a.lt
  have hk1 : w.heap.size + 1 < wb.heap.size := H2.out.q.lt
  have HW0 : Hid (∀ wy, Below wb.heap.size wb wy → Rt w wy b bt ea ec es) := fun wy q => H2.out.below q
  go_wp2_with (first
    | (go_at_call 28; refine (HCk.out _ H2.out.l).mono ?_; rintro e w5 ⟨rfl, q⟩; have H5 : Hid (Rt w w5 b bt ea ec es) := H2.out.below q; obtain ⟨f0, f1, f2, ff⟩ := H5.out.a; obtain ⟨fq0, fq1, fq2, fq3, fq4, fq5, fq6, fq7, fq8, fq9, fq10, fq11, fq12, fq13, fq14, fq15, fqf⟩ := H5.out.q; have hf0 : w.heap.size < w5.heap.size := H5.out.a.lt; have hf1 : w.heap.size + 1 < w5.heap.size := H5.out.q.lt; clear q)
    | (go_at_call 27; refine (index_yes term _ hi1 hi2).mono ?_; rintro e w3 ⟨rfl, hw⟩; have hw2 := hw.symm; subst hw2))
  have HY : Hid (Rt w w5 b bt ea ec es) := H5.out
  have HZ : Hid (Cl16 ((((((((((((((((w5.setCell ⟨w.heap.size + 1, 0, none⟩ (.int .i64 0)).setCell ⟨w.heap.size + 1, 1, none⟩ (.int .i64 0)).setCell ⟨w.heap.size + 1, 2, none⟩ (.int .i64 0)).setCell ⟨w.heap.size + 1, 3, none⟩ (.int .i64 0)).setCell ⟨w.heap.size + 1, 4, none⟩ (.int .i64 0)).setCell ⟨w.heap.size + 1, 5, none⟩ (.int .i64 0)).setCell ⟨w.heap.size + 1, 6, none⟩ (.int .i64 0)).setCell ⟨w.heap.size + 1, 7, none⟩ (.int .i64 0)).setCell ⟨w.heap.size + 1, 8, none⟩ (.slice none 0 0)).setCell ⟨w.heap.size + 1, 9, none⟩ (.int .i64 0)).setCell ⟨w.heap.size + 1, 10, none⟩ (.slice none 0 0)).setCell ⟨w.heap.size + 1, 11, none⟩ (.slice none 0 0)).setCell ⟨w.heap.size + 1, 12, none⟩ (.slice none 0 0)).setCell ⟨w.heap.size + 1, 13, none⟩ (.slice none 0 0)).setCell ⟨w.heap.size + 1, 14, none⟩ (.int .i64 0)).setCell ⟨w.heap.size + 1, 15, none⟩ (.int .i64 0)) (w.heap.size + 1) (.int .i64 0) (.int .i64 0) (.int .i64 0) (.int .i64 0) (.int .i64 0) (.int .i64 0) (.int .i64 0) (.int .i64 0) (.slice none 0 0) (.int .i64 0) (.slice none 0 0) (.slice none 0 0) (.slice none 0 0) (.slice none 0 0) (.int .i64 0) (.int .i64 0) ∧ Below w.heap.size w ((((((((((((((((w5.setCell ⟨w.heap.size + 1, 0, none⟩ (.int .i64 0)).setCell ⟨w.heap.size + 1, 1, none⟩ (.int .i64 0)).setCell ⟨w.heap.size + 1, 2, none⟩ (.int .i64 0)).setCell ⟨w.heap.size + 1, 3, none⟩ (.int .i64 0)).setCell ⟨w.heap.size + 1, 4, none⟩ (.int .i64 0)).setCell ⟨w.heap.size + 1, 5, none⟩ (.int .i64 0)).setCell ⟨w.heap.size + 1, 6, none⟩ (.int .i64 0)).setCell ⟨w.heap.size + 1, 7, none⟩ (.int .i64 0)).setCell ⟨w.heap.size + 1, 8, none⟩ (.slice none 0 0)).setCell ⟨w.heap.size + 1, 9, none⟩ (.int .i64 0)).setCell ⟨w.heap.size + 1, 10, none⟩ (.slice none 0 0)).setCell ⟨w.heap.size + 1, 11, none⟩ (.slice none 0 0)).setCell ⟨w.heap.size + 1, 12, none⟩ (.slice none 0 0)).setCell ⟨w.heap.size + 1, 13, none⟩ (.slice none 0 0)).setCell ⟨w.heap.size + 1, 14, none⟩ (.int .i64 0)).setCell ⟨w.heap.size + 1, 15, none⟩ (.int .i64 0))) := ⟨HY.out.q.boxed (.int .i64 0) (.int .i64 0) (.int .i64 0) (.int .i64 0) (.int .i64 0) (.int .i64 0) (.int .i64 0) (.int .i64 0) (.slice none 0 0) (.int .i64 0) (.slice none 0 0) (.slice none 0 0) (.slice none 0 0) (.slice none 0 0) (.int .i64 0) (.int .i64 0), Cl16.under HY.out.l (by omega)⟩
  obtain ⟨wz, hwz⟩ : ∃ wz, ((((((((((((((((w5.setCell ⟨w.heap.size + 1, 0, none⟩ (.int .i64 0)).setCell ⟨w.heap.size + 1, 1, none⟩ (.int .i64 0)).setCell ⟨w.heap.size + 1, 2, none⟩ (.int .i64 0)).setCell ⟨w.heap.size + 1, 3, none⟩ (.int .i64 0)).setCell ⟨w.heap.size + 1, 4, none⟩ (.int .i64 0)).setCell ⟨w.heap.size + 1, 5, none⟩ (.int .i64 0)).setCell ⟨w.heap.size + 1, 6, none⟩ (.int .i64 0)).setCell ⟨w.heap.size + 1, 7, none⟩ (.int .i64 0)).setCell ⟨w.heap.size + 1, 8, none⟩ (.slice none 0 0)).setCell ⟨w.heap.size + 1, 9, none⟩ (.int .i64 0)).setCell ⟨w.heap.size + 1, 10, none⟩ (.slice none 0 0)).setCell ⟨w.heap.size + 1, 11, none⟩ (.slice none 0 0)).setCell ⟨w.heap.size + 1, 12, none⟩ (.slice none 0 0)).setCell ⟨w.heap.size + 1, 13, none⟩ (.slice none 0 0)).setCell ⟨w.heap.size + 1, 14, none⟩ (.int .i64 0)).setCell ⟨w.heap.size + 1, 15, none⟩ (.int .i64 0)) = wz := ⟨_, rfl⟩
  rw [hwz] at HZ ⊢
  exact bodyPost_ret (resRestart _ HZ.out.1 rfl) rfl (HE.out _ HZ.out.2)
set_option maxRecDepth 100000 in
set_option maxHeartbeats 2000000 in
theorem Restart_b5 (id n term vote b bt : Int) {P : Nat → Prop} {ea : Option Addr} {ec : Nat} {es : List En} {sa : Option Addr} {sc : Nat} {snap : BB} {w : World} (hE : EnsV w P ea ec es) (hs : Small es) (hS : ReadsV w (.slice sa snap.length sc) snap) (hsl : snap.length ≤ 100000) (hb : InR b) (hbt : InR bt) (h : amongM id n) (hi1 : 0 ≤ term) (hi2 : term ≤ 1099511627776) (hv : 0 ≤ vote) (hw : vote ≤ n) (hc0 : chkM b bt es = 0) (hl : term < (termM b bt es (b + es.length)).1) : Calls Try.prog 11 #[.int .i64 id, .int .i64 n, .int .i64 term, .int .i64 vote, .agg #[.int .i64 b, .int .i64 bt, .slice ea es.length ec], .slice sa snap.length sc] w (RsP (restartM id n term vote b bt es snap) w) := by
  obtain ⟨m, hm⟩ : ∃ m, (newM id n).1 = m := ⟨_, rfl⟩
  have hnw : newM id n = (m, 0) := by rw [← hm]; unfold newM; rw [if_pos h]
  have hrs : restartM id n term vote b bt es snap = (zMb, 1) := by
    unfold restartM
    rw [if_pos h, if_neg (fun q => by omega)]
  have HNe : Hid (∀ wx, Calls Try.prog 9 #[.int .i64 id, .int .i64 n] wx fun e w' => ∃ s : Ad, e = .returned (.tuple #[.agg #[.int .i64 m.id, .int .i64 m.n, .int .i64 m.term, .int .i64 m.vote, .int .i64 m.role, .int .i64 m.lead, .int .i64 m.b, .int .i64 m.bt, .slice s.ea m.es.length s.ec, .int .i64 m.commit, .slice s.sa m.snap.length s.sc, .slice s.ga m.granted.length s.gc, .slice s.xa m.next.length s.xc, .slice s.ma m.mtch.length s.mc, .int .i64 m.clock, .int .i64 m.wait], .int .i64 0]) ∧ MbV w' (fun _ => True) s m ∧ Below wx.heap.size wx w') := fun wx => by
    refine (New_any id n wx).mono fun e w' ⟨s', q1, q2, q3⟩ => ⟨s', ?_, ?_, q3⟩
    · rw [q1, hnw]; rfl
    · rw [hnw] at q2; exact q2
  have hv1 : decide (vote < 0) = false := decide_eq_false (by omega)
  have hv2 : decide (n < vote) = false := decide_eq_false (by omega)
  obtain ⟨ck, hck⟩ : ∃ ck, chkM b bt es = ck := ⟨_, rfl⟩
  have HCk : Hid (∀ wx, Below w.heap.size w wx → Calls Try.prog 28 #[.agg #[.int .i64 b, .int .i64 bt, .slice ea es.length ec]] wx fun e w' => e = .returned (.int .i64 0) ∧ Below wx.heap.size wx w') := fun wx q => by
    have := Check_any P b bt ea ec es wx hb hbt (hE.below q)
    rw [hck] at this
    rw [hck.symm.trans hc0] at this
    exact this
  obtain ⟨lt, hlt⟩ : ∃ lt, (termM b bt es (b + es.length)).1 = lt := ⟨_, rfl⟩
  have hb3 := (chk_zero.1 hc0).1
  have HLt : Hid (∀ wx, Below w.heap.size w wx → Calls Try.prog 29 #[.agg #[.int .i64 b, .int .i64 bt, .slice ea es.length ec]] wx fun e w' => e = .returned (.int .i64 lt) ∧ Below wx.heap.size wx w') := fun wx q => by
    have := LastTerm_any P b bt ea ec es wx (by omega) (by omega) (by have := hs.1; omega) (hE.below q)
    rw [hlt] at this
    exact this
  rw [hlt] at hl
  have hd5 : decide (term < lt) = true := decide_eq_true hl
  have HR0 : Hid (Rt w ((w.alloc (Obj.cells #[.int .i64 b, .int .i64 bt, .slice ea es.length ec] 24)).alloc (Obj.cells #[.int .i64 0, .int .i64 0, .int .i64 0, .int .i64 0, .int .i64 0, .int .i64 0, .int .i64 0, .int .i64 0, .slice none 0 0, .int .i64 0, .slice none 0 0, .slice none 0 0, .slice none 0 0, .slice none 0 0, .int .i64 0, .int .i64 0] 31)) b bt ea ec es) := Rt.first w b bt ea ec es
  have HE : Hid (∀ wz, Below w.heap.size w wz → RsP (restartM id n term vote b bt es snap) w (.returned (.tuple #[.agg #[.int .i64 0, .int .i64 0, .int .i64 0, .int .i64 0, .int .i64 0, .int .i64 0, .int .i64 0, .int .i64 0, .slice none 0 0, .int .i64 0, .slice none 0 0, .slice none 0 0, .slice none 0 0, .slice none 0 0, .int .i64 0, .int .i64 0], .int .i64 1])) wz) := fun wz q => by
    rw [hrs]
    exact ⟨zAd, rfl, MbV.new _ _ _ rfl rfl rfl rfl rfl, q⟩
  clear hrs hnw hm hE hS h hck hc0 hlt hb3
  generalize restartM id n term vote b bt es snap = R at *
  go_enter Try.func11, Try.ntmps11
  go_upto_region 2 with (go_at_call 9; refine (HNe.out _).mono ?_; rintro e w1 ⟨s, rfl, q1, q2⟩; have H1 : Hid (Rt w w1 b bt ea ec es ∧ MbV w1 (fun _ => True) s m) := ⟨HR0.out.below q2, q1⟩; obtain ⟨k0, k1, k2, kf⟩ := H1.out.1.a; obtain ⟨kq0, kq1, kq2, kq3, kq4, kq5, kq6, kq7, kq8, kq9, kq10, kq11, kq12, kq13, kq14, kq15, kqf⟩ := H1.out.1.q; have hk0 : w.heap.size < w1.heap.size := H1.out.1.a.lt; have hk1 : w.heap.size + 1 < w1.heap.size := H1.out.1.q.lt; clear q1 q2)
  have H2 : Hid (Rt w (w1.alloc (Obj.cells #[.int .i64 m.id, .int .i64 m.n, .int .i64 m.term, .int .i64 m.vote, .int .i64 m.role, .int .i64 m.lead, .int .i64 m.b, .int .i64 m.bt, .slice s.ea m.es.length s.ec, .int .i64 m.commit, .slice s.sa m.snap.length s.sc, .slice s.ga m.granted.length s.gc, .slice s.xa m.next.length s.xc, .slice s.ma m.mtch.length s.mc, .int .i64 m.clock, .int .i64 m.wait] 31)) b bt ea ec es) := H1.out.1.below ((Below.refl _ _).alloc (Nat.le_refl _) _)
  obtain ⟨wb, hwb⟩ : ∃ wb, (w1.alloc (Obj.cells #[.int .i64 m.id, .int .i64 m.n, .int .i64 m.term, .int .i64 m.vote, .int .i64 m.role, .int .i64 m.lead, .int .i64 m.b, .int .i64 m.bt, .slice s.ea m.es.length s.ec, .int .i64 m.commit, .slice s.sa m.snap.length s.sc, .slice s.ga m.granted.length s.gc, .slice s.xa m.next.length s.xc, .slice s.ma m.mtch.length s.mc, .int .i64 m.clock, .int .i64 m.wait] 31)) = wb := ⟨_, rfl⟩
  rw [hwb] at H2 ⊢
  clear hwb H1 k0 k1 k2 kf kq0 kq1 kq2 kq3 kq4 kq5 kq6 kq7 kq8 kq9 kq10 kq11 kq12 kq13 kq14 kq15 kqf hk0 hk1
  obtain ⟨k0, k1, k2, kf⟩ := H2.out.a
  obtain ⟨kq0, kq1, kq2, kq3, kq4, kq5, kq6, kq7, kq8, kq9, kq10, kq11, kq12, kq13, kq14, kq15, kqf⟩ := H2.out.q
  have hk0 : w.heap.size < wb.heap.size := H2.out.a.lt
  have hk1 : w.heap.size + 1 < wb.heap.size := H2.out.q.lt
  have HW0 : Hid (∀ wy, Below wb.heap.size wb wy → Rt w wy b bt ea ec es) := fun wy q => H2.out.below q
  go_wp2_with (first
    | (go_at_call 29; have := H5; refine (HLt.out _ H5.out.l).mono ?_; rintro e w6 ⟨rfl, q⟩; have H6 : Hid (Rt w w6 b bt ea ec es) := H5.out.below q; obtain ⟨g0, g1, g2, gf⟩ := H6.out.a; obtain ⟨gq0, gq1, gq2, gq3, gq4, gq5, gq6, gq7, gq8, gq9, gq10, gq11, gq12, gq13, gq14, gq15, gqf⟩ := H6.out.q; have hg0 : w.heap.size < w6.heap.size := H6.out.a.lt; have hg1 : w.heap.size + 1 < w6.heap.size := H6.out.q.lt; clear q)
    | (go_at_call 28; refine (HCk.out _ H2.out.l).mono ?_; rintro e w5 ⟨rfl, q⟩; have H5 : Hid (Rt w w5 b bt ea ec es) := H2.out.below q; obtain ⟨f0, f1, f2, ff⟩ := H5.out.a; obtain ⟨fq0, fq1, fq2, fq3, fq4, fq5, fq6, fq7, fq8, fq9, fq10, fq11, fq12, fq13, fq14, fq15, fqf⟩ := H5.out.q; have hf0 : w.heap.size < w5.heap.size := H5.out.a.lt; have hf1 : w.heap.size + 1 < w5.heap.size := H5.out.q.lt; clear q)
    | (go_at_call 27; refine (index_yes term _ hi1 hi2).mono ?_; rintro e w3 ⟨rfl, hw⟩; have hw2 := hw.symm; subst hw2))
  have HY : Hid (Rt w w6 b bt ea ec es) := H6.out
  have HZ : Hid (Cl16 ((((((((((((((((w6.setCell ⟨w.heap.size + 1, 0, none⟩ (.int .i64 0)).setCell ⟨w.heap.size + 1, 1, none⟩ (.int .i64 0)).setCell ⟨w.heap.size + 1, 2, none⟩ (.int .i64 0)).setCell ⟨w.heap.size + 1, 3, none⟩ (.int .i64 0)).setCell ⟨w.heap.size + 1, 4, none⟩ (.int .i64 0)).setCell ⟨w.heap.size + 1, 5, none⟩ (.int .i64 0)).setCell ⟨w.heap.size + 1, 6, none⟩ (.int .i64 0)).setCell ⟨w.heap.size + 1, 7, none⟩ (.int .i64 0)).setCell ⟨w.heap.size + 1, 8, none⟩ (.slice none 0 0)).setCell ⟨w.heap.size + 1, 9, none⟩ (.int .i64 0)).setCell ⟨w.heap.size + 1, 10, none⟩ (.slice none 0 0)).setCell ⟨w.heap.size + 1, 11, none⟩ (.slice none 0 0)).setCell ⟨w.heap.size + 1, 12, none⟩ (.slice none 0 0)).setCell ⟨w.heap.size + 1, 13, none⟩ (.slice none 0 0)).setCell ⟨w.heap.size + 1, 14, none⟩ (.int .i64 0)).setCell ⟨w.heap.size + 1, 15, none⟩ (.int .i64 0)) (w.heap.size + 1) (.int .i64 0) (.int .i64 0) (.int .i64 0) (.int .i64 0) (.int .i64 0) (.int .i64 0) (.int .i64 0) (.int .i64 0) (.slice none 0 0) (.int .i64 0) (.slice none 0 0) (.slice none 0 0) (.slice none 0 0) (.slice none 0 0) (.int .i64 0) (.int .i64 0) ∧ Below w.heap.size w ((((((((((((((((w6.setCell ⟨w.heap.size + 1, 0, none⟩ (.int .i64 0)).setCell ⟨w.heap.size + 1, 1, none⟩ (.int .i64 0)).setCell ⟨w.heap.size + 1, 2, none⟩ (.int .i64 0)).setCell ⟨w.heap.size + 1, 3, none⟩ (.int .i64 0)).setCell ⟨w.heap.size + 1, 4, none⟩ (.int .i64 0)).setCell ⟨w.heap.size + 1, 5, none⟩ (.int .i64 0)).setCell ⟨w.heap.size + 1, 6, none⟩ (.int .i64 0)).setCell ⟨w.heap.size + 1, 7, none⟩ (.int .i64 0)).setCell ⟨w.heap.size + 1, 8, none⟩ (.slice none 0 0)).setCell ⟨w.heap.size + 1, 9, none⟩ (.int .i64 0)).setCell ⟨w.heap.size + 1, 10, none⟩ (.slice none 0 0)).setCell ⟨w.heap.size + 1, 11, none⟩ (.slice none 0 0)).setCell ⟨w.heap.size + 1, 12, none⟩ (.slice none 0 0)).setCell ⟨w.heap.size + 1, 13, none⟩ (.slice none 0 0)).setCell ⟨w.heap.size + 1, 14, none⟩ (.int .i64 0)).setCell ⟨w.heap.size + 1, 15, none⟩ (.int .i64 0))) := ⟨HY.out.q.boxed (.int .i64 0) (.int .i64 0) (.int .i64 0) (.int .i64 0) (.int .i64 0) (.int .i64 0) (.int .i64 0) (.int .i64 0) (.slice none 0 0) (.int .i64 0) (.slice none 0 0) (.slice none 0 0) (.slice none 0 0) (.slice none 0 0) (.int .i64 0) (.int .i64 0), Cl16.under HY.out.l (by omega)⟩
  obtain ⟨wz, hwz⟩ : ∃ wz, ((((((((((((((((w6.setCell ⟨w.heap.size + 1, 0, none⟩ (.int .i64 0)).setCell ⟨w.heap.size + 1, 1, none⟩ (.int .i64 0)).setCell ⟨w.heap.size + 1, 2, none⟩ (.int .i64 0)).setCell ⟨w.heap.size + 1, 3, none⟩ (.int .i64 0)).setCell ⟨w.heap.size + 1, 4, none⟩ (.int .i64 0)).setCell ⟨w.heap.size + 1, 5, none⟩ (.int .i64 0)).setCell ⟨w.heap.size + 1, 6, none⟩ (.int .i64 0)).setCell ⟨w.heap.size + 1, 7, none⟩ (.int .i64 0)).setCell ⟨w.heap.size + 1, 8, none⟩ (.slice none 0 0)).setCell ⟨w.heap.size + 1, 9, none⟩ (.int .i64 0)).setCell ⟨w.heap.size + 1, 10, none⟩ (.slice none 0 0)).setCell ⟨w.heap.size + 1, 11, none⟩ (.slice none 0 0)).setCell ⟨w.heap.size + 1, 12, none⟩ (.slice none 0 0)).setCell ⟨w.heap.size + 1, 13, none⟩ (.slice none 0 0)).setCell ⟨w.heap.size + 1, 14, none⟩ (.int .i64 0)).setCell ⟨w.heap.size + 1, 15, none⟩ (.int .i64 0)) = wz := ⟨_, rfl⟩
  rw [hwz] at HZ ⊢
  exact bodyPost_ret (resRestart _ HZ.out.1 rfl) rfl (HE.out _ HZ.out.2)
end
end Go.Proofs.Ytfmfphfckaiejaa
