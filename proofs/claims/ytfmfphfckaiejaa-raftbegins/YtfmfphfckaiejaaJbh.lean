/-
  The program's Copy: its contract.
-/
import Derived.Test.YtfmfphfckaiejaaJbc
import Derived.Test.YtfmfphfckaiejaaJaa
import Derived.Test.YtfmfphfckaiejaaJaj
import Derived.Test.YtfmfphfckaiejaaJcr
namespace Go.Proofs.Ytfmfphfckaiejaa
open Go.RowKit
set_option linter.unusedVariables false
set_option linter.unusedSimpArgs false


/-- Copy's boxes. -/
structure Cz (w wx : World) (s : Ad) (m : Mb) : Prop where
  p : Cl16 wx (w.heap.size) (.int .i64 m.id) (.int .i64 m.n) (.int .i64 m.term) (.int .i64 m.vote) (.int .i64 m.role) (.int .i64 m.lead) (.int .i64 m.b) (.int .i64 m.bt) (.slice s.ea m.es.length s.ec) (.int .i64 m.commit) (.slice s.sa m.snap.length s.sc) (.slice s.ga m.granted.length s.gc) (.slice s.xa m.next.length s.xc) (.slice s.ma m.mtch.length s.mc) (.int .i64 m.clock) (.int .i64 m.wait)
  q : Cl16 wx (w.heap.size + 1) (.int .i64 0) (.int .i64 0) (.int .i64 0) (.int .i64 0) (.int .i64 0) (.int .i64 0) (.int .i64 0) (.int .i64 0) (.slice none 0 0) (.int .i64 0) (.slice none 0 0) (.slice none 0 0) (.slice none 0 0) (.slice none 0 0) (.int .i64 0) (.int .i64 0)
  l : Below w.heap.size w wx
  z : w.heap.size + 1 + 1 ≤ wx.heap.size
theorem Cz.below {w wx wy : World} {s : Ad} {m : Mb} (h : Cz w wx s m) (hb : Below wx.heap.size wx wy) : Cz w wy s m := ⟨h.p.below hb, h.q.below hb, h.l.trans (hb.mono h.l.size), Nat.le_trans h.z hb.size⟩
theorem Cz.first (w : World) (s : Ad) (m : Mb) : Cz w ((w.alloc (Obj.cells #[.int .i64 m.id, .int .i64 m.n, .int .i64 m.term, .int .i64 m.vote, .int .i64 m.role, .int .i64 m.lead, .int .i64 m.b, .int .i64 m.bt, .slice s.ea m.es.length s.ec, .int .i64 m.commit, .slice s.sa m.snap.length s.sc, .slice s.ga m.granted.length s.gc, .slice s.xa m.next.length s.xc, .slice s.ma m.mtch.length s.mc, .int .i64 m.clock, .int .i64 m.wait] 31)).alloc (Obj.cells #[.int .i64 0, .int .i64 0, .int .i64 0, .int .i64 0, .int .i64 0, .int .i64 0, .int .i64 0, .int .i64 0, .slice none 0 0, .int .i64 0, .slice none 0 0, .slice none 0 0, .slice none 0 0, .slice none 0 0, .int .i64 0, .int .i64 0] 31)) s m := by
  have k1 := Cl16.new w (.int .i64 m.id) (.int .i64 m.n) (.int .i64 m.term) (.int .i64 m.vote) (.int .i64 m.role) (.int .i64 m.lead) (.int .i64 m.b) (.int .i64 m.bt) (.slice s.ea m.es.length s.ec) (.int .i64 m.commit) (.slice s.sa m.snap.length s.sc) (.slice s.ga m.granted.length s.gc) (.slice s.xa m.next.length s.xc) (.slice s.ma m.mtch.length s.mc) (.int .i64 m.clock) (.int .i64 m.wait) 31
  have k2 := Cl16.new (w.alloc (Obj.cells #[.int .i64 m.id, .int .i64 m.n, .int .i64 m.term, .int .i64 m.vote, .int .i64 m.role, .int .i64 m.lead, .int .i64 m.b, .int .i64 m.bt, .slice s.ea m.es.length s.ec, .int .i64 m.commit, .slice s.sa m.snap.length s.sc, .slice s.ga m.granted.length s.gc, .slice s.xa m.next.length s.xc, .slice s.ma m.mtch.length s.mc, .int .i64 m.clock, .int .i64 m.wait] 31)) (.int .i64 0) (.int .i64 0) (.int .i64 0) (.int .i64 0) (.int .i64 0) (.int .i64 0) (.int .i64 0) (.int .i64 0) (.slice none 0 0) (.int .i64 0) (.slice none 0 0) (.slice none 0 0) (.slice none 0 0) (.slice none 0 0) (.int .i64 0) (.int .i64 0) 31
  rw [size_alloc] at k2
  exact ⟨k1.below ((Below.refl _ _).alloc (Nat.le_refl _) _), k2, below2 _ _ _, by rw [two_size]; exact Nat.le_refl _⟩
theorem resCopy {w : World} {Q : Nat} {v0 v1 v2 v3 v4 v5 v6 v7 v8 v9 v10 v11 v12 v13 v14 v15 : Value} (tmps : Array Value) (h : Cl16 w Q v0 v1 v2 v3 v4 v5 v6 v7 v8 v9 v10 v11 v12 v13 v14 v15) (h2 : tmps.getD 2 undef = .pointer (some ⟨Q, 0, none⟩)) : (results Try.f25 tmps).run Try.prog w = .ok (.agg #[v0, v1, v2, v3, v4, v5, v6, v7, v8, v9, v10, v11, v12, v13, v14, v15]) w := by
  have h2' : tmps[2]?.getD undef = .pointer (some ⟨Q, 0, none⟩) := by simpa using h2
  simp [results, Try.results25, h2', loadMb h, asAddr]
/-- What Copy leaves. -/
def CyP (m : Mb) (w : World) (e : Ending) (w' : World) : Prop := ∃ s', e = .returned (mbA s' m) ∧ MbV w' (fun _ => True) s' m ∧ Below w.heap.size w w'
set_option maxRecDepth 100000 in
set_option maxHeartbeats 2000000 in
theorem MCopy_any {w : World} {s : Ad} {m : Mb} (hm : MbV w (fun _ => True) s m) (hs : Small m.es) (hn : m.snap.length ≤ 100000) (hg : m.granted.length ≤ 1000) (hx : m.next.length ≤ 1000) (ht : m.mtch.length ≤ 1000) : Calls Try.prog 25 #[mbA s m] w (CyP m w) := by
  have HX0 : Hid (Cz w ((w.alloc (Obj.cells #[.int .i64 m.id, .int .i64 m.n, .int .i64 m.term, .int .i64 m.vote, .int .i64 m.role, .int .i64 m.lead, .int .i64 m.b, .int .i64 m.bt, .slice s.ea m.es.length s.ec, .int .i64 m.commit, .slice s.sa m.snap.length s.sc, .slice s.ga m.granted.length s.gc, .slice s.xa m.next.length s.xc, .slice s.ma m.mtch.length s.mc, .int .i64 m.clock, .int .i64 m.wait] 31)).alloc (Obj.cells #[.int .i64 0, .int .i64 0, .int .i64 0, .int .i64 0, .int .i64 0, .int .i64 0, .int .i64 0, .int .i64 0, .slice none 0 0, .int .i64 0, .slice none 0 0, .slice none 0 0, .slice none 0 0, .slice none 0 0, .int .i64 0, .int .i64 0] 31)) s m) := Cz.first w s m
  have HCp : Hid (∀ wx, Below w.heap.size w wx → Calls Try.prog 30 #[.agg #[.int .i64 m.b, .int .i64 m.bt, .slice s.ea m.es.length s.ec]] wx (LogP m.b m.bt m.es wx)) := fun wx q => Copy_any _ m.b m.bt s.ea s.ec m.es wx (hm.e.below q) hs
  have HCd : Hid (∀ wx, Below w.heap.size w wx → Calls Try.prog 31 #[.slice s.sa m.snap.length s.sc] wx (CpP m.snap wx)) := fun wx q => copied_any m.snap s.sa s.sc wx (hm.sn.below q) hn
  have HC2 : Hid (∀ wx, Below w.heap.size w wx → Calls Try.prog 51 #[.slice s.ga m.granted.length s.gc] wx (CpLP m.granted wx)) := fun wx q => CpL_any (hm.g.below q) hg
  have HC3 : Hid (∀ wx, Below w.heap.size w wx → Calls Try.prog 52 #[.slice s.xa m.next.length s.xc] wx (CpIP m.next wx)) := fun wx q => CpI_any (hm.x.below q) hx
  have HC4 : Hid (∀ wx, Below w.heap.size w wx → Calls Try.prog 52 #[.slice s.ma m.mtch.length s.mc] wx (CpIP m.mtch wx)) := fun wx q => CpI_any (hm.t.below q) ht
  clear hm hs hn hg hx ht
  unfold mbA
  go_enter Try.func25, Try.ntmps25
  go_upto_region 1 with fail
  refine Ordd.begin_ 7 (fun u => u.cell? ⟨w.heap.size, 6, none⟩ = some (.int .i64 m.b) ∧ u.cell? ⟨w.heap.size, 7, none⟩ = some (.int .i64 m.bt) ∧ u.cell? ⟨w.heap.size, 8, none⟩ = some (.slice s.ea m.es.length s.ec) ∧ u.cell? ⟨w.heap.size, 10, none⟩ = some (.slice s.sa m.snap.length s.sc)) (by kernel_rfl) ?_
  obtain ⟨w0, hdr⟩ : ∃ q, ((w.alloc (Obj.cells #[.int .i64 m.id, .int .i64 m.n, .int .i64 m.term, .int .i64 m.vote, .int .i64 m.role, .int .i64 m.lead, .int .i64 m.b, .int .i64 m.bt, .slice s.ea m.es.length s.ec, .int .i64 m.commit, .slice s.sa m.snap.length s.sc, .slice s.ga m.granted.length s.gc, .slice s.xa m.next.length s.xc, .slice s.ma m.mtch.length s.mc, .int .i64 m.clock, .int .i64 m.wait] 31)).alloc (Obj.cells #[.int .i64 0, .int .i64 0, .int .i64 0, .int .i64 0, .int .i64 0, .int .i64 0, .int .i64 0, .int .i64 0, .slice none 0 0, .int .i64 0, .slice none 0 0, .slice none 0 0, .slice none 0 0, .slice none 0 0, .int .i64 0, .int .i64 0] 31)).drew = q := ⟨_, rfl⟩
  have HX : Hid (Cz w w0 s m) := by rw [← hdr]; exact HX0.out.below (Below.refl _ _).drew
  rw [hdr]
  clear hdr HX0
  have hHeld : (fun u => u.cell? ⟨w.heap.size, 6, none⟩ = some (.int .i64 m.b) ∧ u.cell? ⟨w.heap.size, 7, none⟩ = some (.int .i64 m.bt) ∧ u.cell? ⟨w.heap.size, 8, none⟩ = some (.slice s.ea m.es.length s.ec) ∧ u.cell? ⟨w.heap.size, 10, none⟩ = some (.slice s.sa m.snap.length s.sc)) w0 := (⟨HX.out.p.c6, HX.out.p.c7, HX.out.p.c8, HX.out.p.c10⟩ : (fun u => u.cell? ⟨w.heap.size, 6, none⟩ = some (.int .i64 m.b) ∧ u.cell? ⟨w.heap.size, 7, none⟩ = some (.int .i64 m.bt) ∧ u.cell? ⟨w.heap.size, 8, none⟩ = some (.slice s.ea m.es.length s.ec) ∧ u.cell? ⟨w.heap.size, 10, none⟩ = some (.slice s.sa m.snap.length s.sc)) w0)
  refine Ordd.take (i := 0) (oi := { dst := some 3, op := Op.fieldAddr 31 (Operand.tmp 1) 6, type := 0, pos := "raft.go:126", after := #[], guard := none }) (v := (.pointer (some ⟨w.heap.size, 6, none⟩))) rfl rfl (by kernel_rfl) (by decide) (by kernel_rfl) (by kernel_rfl) (by kernel_rfl) (by kernel_rfl) (fun _ _ _ h => h) (Or.inl ⟨by rfl, ?_⟩) hHeld ?_
  · intro w hSw; (try dsimp only at hSw); go_simp
  try simp only [Act.put, List.setIfInBounds_toArray, List.set_cons_zero, List.set_cons_succ]
  refine Ordd.take (i := 1) (oi := { dst := some 4, op := Op.load 24 (Operand.tmp 3), type := 24, pos := "raft.go:126", after := #[{ on := 0, ground := Ground.data }], guard := none }) (v := (.agg #[.int .i64 m.b, .int .i64 m.bt, .slice s.ea m.es.length s.ec])) rfl rfl (by kernel_rfl) (by decide) (by kernel_rfl) (by kernel_rfl) (by kernel_rfl) (by kernel_rfl) (fun _ _ _ h => h) (Or.inl ⟨by rfl, ?_⟩) hHeld ?_
  · intro w hSw; (try dsimp only at hSw); go_simp
  try simp only [Act.put, List.setIfInBounds_toArray, List.set_cons_zero, List.set_cons_succ]
  refine Ordd.take (i := 3) (oi := { dst := some 6, op := Op.fieldAddr 31 (Operand.tmp 1) 8, type := 0, pos := "raft.go:126", after := #[], guard := none }) (v := (.pointer (some ⟨w.heap.size, 10, none⟩))) rfl rfl (by kernel_rfl) (by decide) (by kernel_rfl) (by kernel_rfl) (by kernel_rfl) (by kernel_rfl) (fun _ _ _ h => h) (Or.inl ⟨by rfl, ?_⟩) hHeld ?_
  · intro w hSw; (try dsimp only at hSw); go_simp
  try simp only [Act.put, List.setIfInBounds_toArray, List.set_cons_zero, List.set_cons_succ]
  refine Ordd.take (i := 4) (oi := { dst := some 7, op := Op.load 25 (Operand.tmp 6), type := 25, pos := "raft.go:126", after := #[{ on := 3, ground := Ground.data }], guard := none }) (v := (.slice s.sa m.snap.length s.sc)) rfl rfl (by kernel_rfl) (by decide) (by kernel_rfl) (by kernel_rfl) (by kernel_rfl) (by kernel_rfl) (fun _ _ _ h => h) (Or.inl ⟨by rfl, ?_⟩) hHeld ?_
  · intro w hSw; (try dsimp only at hSw); go_simp
  try simp only [Act.put, List.setIfInBounds_toArray, List.set_cons_zero, List.set_cons_succ]
  refine Ordd.ready (rs := [2]) (by kernel_rfl) (by simp) ?_
  refine Nowd.cons (o := { dst := some 5, op := Op.call { callee := Callee.value (Operand.func 30), args := #[Operand.tmp 4], argTypes := #[24] }, type := 24, pos := "raft.go:126", after := #[{ on := 1, ground := Ground.data }], guard := none }) rfl (fun K hK => ?_) Nowd.nil
  go_simp
  (go_at_call 30; refine (HCp.out _ HX.out.l).mono ?_; rintro e w1 ⟨ra, rc, rfl, qE, qB⟩; have HX1 : Hid (Cz w w1 s m) := HX.out.below qB; have HE : Hid (EnsV w1 (fun g => w.heap.size + 1 + 1 ≤ g) ra rc m.es) := qE.sub fun g hg _ => Nat.le_trans HX.out.z hg; clear qE qB)
  go_wp2_with fail
  have hHeld2 := (⟨HX1.out.p.c6, HX1.out.p.c7, HX1.out.p.c8, HX1.out.p.c10⟩ : (fun u => u.cell? ⟨w.heap.size, 6, none⟩ = some (.int .i64 m.b) ∧ u.cell? ⟨w.heap.size, 7, none⟩ = some (.int .i64 m.bt) ∧ u.cell? ⟨w.heap.size, 8, none⟩ = some (.slice s.ea m.es.length s.ec) ∧ u.cell? ⟨w.heap.size, 10, none⟩ = some (.slice s.sa m.snap.length s.sc)) w1)
  refine hK.out _ _ (.inr hHeld2) ?_
  clear hK K hHeld
  have hHeld := hHeld2
  clear hHeld2
  try simp only [Act.put, List.setIfInBounds_toArray, List.set_cons_zero, List.set_cons_succ]
  refine Ordd.take (i := 6) (oi := { dst := some 9, op := Op.fieldAddr 31 (Operand.tmp 1) 6, type := 0, pos := "raft.go:126", after := #[{ on := 0, ground := Ground.phase }, { on := 1, ground := Ground.phase }, { on := 2, ground := Ground.phase }, { on := 3, ground := Ground.phase }, { on := 4, ground := Ground.phase }, { on := 5, ground := Ground.textOnly Departure.lateStoresUnsure }], guard := none }) (v := (.pointer (some ⟨w.heap.size, 6, none⟩))) rfl rfl (by kernel_rfl) (by decide) (by kernel_rfl) (by kernel_rfl) (by kernel_rfl) (by kernel_rfl) (fun _ _ _ h => h) (Or.inl ⟨by rfl, ?_⟩) hHeld ?_
  · intro w hSw; (try dsimp only at hSw); go_simp
  try simp only [Act.put, List.setIfInBounds_toArray, List.set_cons_zero, List.set_cons_succ]
  refine Ordd.ready (rs := [5]) (by kernel_rfl) (by simp) ?_
  refine Nowd.cons (o := { dst := some 8, op := Op.call { callee := Callee.value (Operand.func 31), args := #[Operand.tmp 7], argTypes := #[25] }, type := 25, pos := "raft.go:126", after := #[{ on := 4, ground := Ground.data }, { on := 2, ground := Ground.chain }], guard := none }) rfl (fun K hK => ?_) Nowd.nil
  go_simp
  (go_at_call 31; refine (HCd.out _ HX1.out.l).mono ?_; rintro e w2 ⟨qa, qc, rfl, qR, qP, qB⟩; have HX2 : Hid (Cz w w2 s m) := HX1.out.below qB; have HE2 : Hid (EnsV w2 (fun g => w.heap.size + 1 + 1 ≤ g) ra rc m.es) := HE.out.below qB; have HS : Hid (ReadsV w2 (.slice qa m.snap.length qc) m.snap ∧ PV (fun g => w.heap.size + 1 + 1 ≤ g) qa m.snap.length) := ⟨qR, fun h0 x hx => Nat.le_trans HX1.out.z (qP h0 x hx)⟩; clear qR qP qB)
  go_wp2_with fail
  have hHeld2 := (⟨HX2.out.p.c6, HX2.out.p.c7, HX2.out.p.c8, HX2.out.p.c10⟩ : (fun u => u.cell? ⟨w.heap.size, 6, none⟩ = some (.int .i64 m.b) ∧ u.cell? ⟨w.heap.size, 7, none⟩ = some (.int .i64 m.bt) ∧ u.cell? ⟨w.heap.size, 8, none⟩ = some (.slice s.ea m.es.length s.ec) ∧ u.cell? ⟨w.heap.size, 10, none⟩ = some (.slice s.sa m.snap.length s.sc)) w2)
  refine hK.out _ _ (.inr hHeld2) ?_
  clear hK K hHeld
  have hHeld := hHeld2
  clear hHeld2
  try simp only [Act.put, List.setIfInBounds_toArray, List.set_cons_zero, List.set_cons_succ]
  refine Ordd.ready (rs := [7]) (by kernel_rfl) (by simp) ?_
  refine Nowd.cons (o := { dst := none, op := Op.store 24 (Operand.tmp 9) (Operand.tmp 5), type := 0, pos := "raft.go:126", after := #[{ on := 6, ground := Ground.data }, { on := 2, ground := Ground.data }, { on := 5, ground := Ground.chain }, { on := 0, ground := Ground.phase }, { on := 1, ground := Ground.phase }, { on := 2, ground := Ground.phase }, { on := 3, ground := Ground.phase }, { on := 4, ground := Ground.phase }, { on := 5, ground := Ground.textOnly Departure.lateStoresUnsure }], guard := none }) rfl (fun K hK => ?_) Nowd.nil
  obtain ⟨p0, p1, p2, p3, p4, p5, p6, p7, p8, p9, p10, p11, p12, p13, p14, p15, pf⟩ := HX2.out.p
  have hp : w.heap.size < w2.heap.size := HX2.out.p.lt
  go_simp
  go_wp2_with fail
  refine hK.out _ _ (.inl (by kernel_rfl)) ?_
  clear hK K
  try simp only [Act.put, List.setIfInBounds_toArray, List.set_cons_zero, List.set_cons_succ]
  refine Ordd.ready (rs := [8]) (by kernel_rfl) (by simp) ?_
  refine Nowd.cons (o := { dst := some 10, op := Op.fieldAddr 31 (Operand.tmp 1) 8, type := 0, pos := "raft.go:126", after := #[{ on := 0, ground := Ground.phase }, { on := 1, ground := Ground.phase }, { on := 2, ground := Ground.phase }, { on := 3, ground := Ground.phase }, { on := 4, ground := Ground.phase }, { on := 5, ground := Ground.phase }, { on := 6, ground := Ground.phase }, { on := 7, ground := Ground.phase }], guard := none }) rfl (fun K hK => ?_) Nowd.nil
  go_simp
  refine hK.out _ _ (.inl (by kernel_rfl)) ?_
  clear hK K
  try simp only [Act.put, List.setIfInBounds_toArray, List.set_cons_zero, List.set_cons_succ]
  refine Ordd.ready (rs := [9]) (by kernel_rfl) (by simp) ?_
  refine Nowd.cons (o := { dst := none, op := Op.store 25 (Operand.tmp 10) (Operand.tmp 8), type := 0, pos := "raft.go:126", after := #[{ on := 8, ground := Ground.data }, { on := 5, ground := Ground.data }, { on := 7, ground := Ground.chain }, { on := 0, ground := Ground.phase }, { on := 1, ground := Ground.phase }, { on := 2, ground := Ground.phase }, { on := 3, ground := Ground.phase }, { on := 4, ground := Ground.phase }, { on := 5, ground := Ground.phase }, { on := 6, ground := Ground.phase }, { on := 7, ground := Ground.phase }], guard := none }) rfl (fun K hK => ?_) Nowd.nil
  go_simp
  go_wp2_with fail
  refine hK.out _ _ (.inl (by kernel_rfl)) ?_
  clear hK K
  try simp only [Act.put, List.setIfInBounds_toArray, List.set_cons_zero, List.set_cons_succ]
  refine Ordd.done (by kernel_rfl) ?_ _
  have HY : Hid (Cz w ((((w2.setCell ⟨w.heap.size, 6, none⟩ (.int .i64 m.b)).setCell ⟨w.heap.size, 7, none⟩ (.int .i64 m.bt)).setCell ⟨w.heap.size, 8, none⟩ (.slice ra m.es.length rc)).setCell ⟨w.heap.size, 10, none⟩ (.slice qa m.snap.length qc)) ⟨ra, rc, qa, qc, s.ga, s.gc, s.xa, s.xc, s.ma, s.mc⟩ m ∧ EnsV ((((w2.setCell ⟨w.heap.size, 6, none⟩ (.int .i64 m.b)).setCell ⟨w.heap.size, 7, none⟩ (.int .i64 m.bt)).setCell ⟨w.heap.size, 8, none⟩ (.slice ra m.es.length rc)).setCell ⟨w.heap.size, 10, none⟩ (.slice qa m.snap.length qc)) (fun g => w.heap.size + 1 + 1 ≤ g) ra rc m.es ∧ ReadsV ((((w2.setCell ⟨w.heap.size, 6, none⟩ (.int .i64 m.b)).setCell ⟨w.heap.size, 7, none⟩ (.int .i64 m.bt)).setCell ⟨w.heap.size, 8, none⟩ (.slice ra m.es.length rc)).setCell ⟨w.heap.size, 10, none⟩ (.slice qa m.snap.length qc)) (.slice qa m.snap.length qc) m.snap ∧ PV (fun g => w.heap.size + 1 + 1 ≤ g) qa m.snap.length) := by
    have ho : ∀ g, g ≠ w.heap.size → ((((w2.setCell ⟨w.heap.size, 6, none⟩ (.int .i64 m.b)).setCell ⟨w.heap.size, 7, none⟩ (.int .i64 m.bt)).setCell ⟨w.heap.size, 8, none⟩ (.slice ra m.es.length rc)).setCell ⟨w.heap.size, 10, none⟩ (.slice qa m.snap.length qc)).heap[g]? = w2.heap[g]? := fun g hg => ((heap_other hg).trans ((heap_other hg).trans ((heap_other hg).trans (heap_other (w := w2) (g := g) hg))))
    have h2 := bytes_kept HS.out.1 HS.out.2 (fun g hg _ => ⟨ho g (by omega), hg⟩)
    refine ⟨⟨((((((((HX2.out.p).put 6 _)).put 7 _)).put 8 _)).put 10 _), HX2.out.q.kept (ho _ (by omega)), ((((((((HX2.out.l).setCell (p := ⟨_, _, none⟩) (Nat.le_refl _) _)).setCell (p := ⟨_, _, none⟩) (Nat.le_refl _) _)).setCell (p := ⟨_, _, none⟩) (Nat.le_refl _) _)).setCell (p := ⟨_, _, none⟩) (Nat.le_refl _) _), by simp only [size_set]; exact HX2.out.z⟩, HE2.out.kept (fun g hg _ => ⟨ho g (by omega), hg⟩), h2.1, h2.2⟩
  obtain ⟨wy, hwy⟩ : ∃ q, ((((w2.setCell ⟨w.heap.size, 6, none⟩ (.int .i64 m.b)).setCell ⟨w.heap.size, 7, none⟩ (.int .i64 m.bt)).setCell ⟨w.heap.size, 8, none⟩ (.slice ra m.es.length rc)).setCell ⟨w.heap.size, 10, none⟩ (.slice qa m.snap.length qc)) = q := ⟨_, rfl⟩
  rw [hwy] at HY ⊢
  clear hwy HX1 HX2 HE HE2 HS HX p0 p1 p2 p3 p4 p5 p6 p7 p8 p9 p10 p11 p12 p13 p14 p15 pf hp
  go_upto_region 2 with fail
  refine Ordd.begin_ 10 (fun u => u.cell? ⟨w.heap.size, 11, none⟩ = some (.slice s.ga m.granted.length s.gc) ∧ u.cell? ⟨w.heap.size, 12, none⟩ = some (.slice s.xa m.next.length s.xc) ∧ u.cell? ⟨w.heap.size, 13, none⟩ = some (.slice s.ma m.mtch.length s.mc)) (by kernel_rfl) ?_
  obtain ⟨w6, hdr⟩ : ∃ q, wy.drew = q := ⟨_, rfl⟩
  have HB6 : Hid (Below wy.heap.size wy w6) := by rw [← hdr]; exact (Below.refl _ _).drew
  rw [hdr]
  clear hdr
  have HV : Hid (Cz w w6 ⟨ra, rc, qa, qc, s.ga, s.gc, s.xa, s.xc, s.ma, s.mc⟩ m) := HY.out.1.below HB6.out
  have hHeld : (fun u => u.cell? ⟨w.heap.size, 11, none⟩ = some (.slice s.ga m.granted.length s.gc) ∧ u.cell? ⟨w.heap.size, 12, none⟩ = some (.slice s.xa m.next.length s.xc) ∧ u.cell? ⟨w.heap.size, 13, none⟩ = some (.slice s.ma m.mtch.length s.mc)) w6 := ⟨HV.out.p.c11, HV.out.p.c12, HV.out.p.c13⟩
  refine Ordd.take (i := 0) (oi := { dst := some 11, op := Op.fieldAddr 31 (Operand.tmp 1) 9, type := 0, pos := "raft.go:127", after := #[], guard := none }) (v := (.pointer (some ⟨w.heap.size, 11, none⟩))) rfl rfl (by kernel_rfl) (by decide) (by kernel_rfl) (by kernel_rfl) (by kernel_rfl) (by kernel_rfl) (fun _ _ _ h => h) (Or.inl ⟨by rfl, ?_⟩) hHeld ?_
  · intro w hSw; (try dsimp only at hSw); go_simp
  try simp only [Act.put, List.setIfInBounds_toArray, List.set_cons_zero, List.set_cons_succ]
  refine Ordd.take (i := 1) (oi := { dst := some 12, op := Op.load 28 (Operand.tmp 11), type := 28, pos := "raft.go:127", after := #[{ on := 0, ground := Ground.data }], guard := none }) (v := (.slice s.ga m.granted.length s.gc)) rfl rfl (by kernel_rfl) (by decide) (by kernel_rfl) (by kernel_rfl) (by kernel_rfl) (by kernel_rfl) (fun _ _ _ h => h) (Or.inl ⟨by rfl, ?_⟩) hHeld ?_
  · intro w hSw; (try dsimp only at hSw); go_simp
  try simp only [Act.put, List.setIfInBounds_toArray, List.set_cons_zero, List.set_cons_succ]
  refine Ordd.take (i := 3) (oi := { dst := some 14, op := Op.fieldAddr 31 (Operand.tmp 1) 10, type := 0, pos := "raft.go:127", after := #[], guard := none }) (v := (.pointer (some ⟨w.heap.size, 12, none⟩))) rfl rfl (by kernel_rfl) (by decide) (by kernel_rfl) (by kernel_rfl) (by kernel_rfl) (by kernel_rfl) (fun _ _ _ h => h) (Or.inl ⟨by rfl, ?_⟩) hHeld ?_
  · intro w hSw; (try dsimp only at hSw); go_simp
  try simp only [Act.put, List.setIfInBounds_toArray, List.set_cons_zero, List.set_cons_succ]
  refine Ordd.take (i := 4) (oi := { dst := some 15, op := Op.load 29 (Operand.tmp 14), type := 29, pos := "raft.go:127", after := #[{ on := 3, ground := Ground.data }], guard := none }) (v := (.slice s.xa m.next.length s.xc)) rfl rfl (by kernel_rfl) (by decide) (by kernel_rfl) (by kernel_rfl) (by kernel_rfl) (by kernel_rfl) (fun _ _ _ h => h) (Or.inl ⟨by rfl, ?_⟩) hHeld ?_
  · intro w hSw; (try dsimp only at hSw); go_simp
  try simp only [Act.put, List.setIfInBounds_toArray, List.set_cons_zero, List.set_cons_succ]
  refine Ordd.take (i := 6) (oi := { dst := some 17, op := Op.fieldAddr 31 (Operand.tmp 1) 11, type := 0, pos := "raft.go:127", after := #[], guard := none }) (v := (.pointer (some ⟨w.heap.size, 13, none⟩))) rfl rfl (by kernel_rfl) (by decide) (by kernel_rfl) (by kernel_rfl) (by kernel_rfl) (by kernel_rfl) (fun _ _ _ h => h) (Or.inl ⟨by rfl, ?_⟩) hHeld ?_
  · intro w hSw; (try dsimp only at hSw); go_simp
  try simp only [Act.put, List.setIfInBounds_toArray, List.set_cons_zero, List.set_cons_succ]
  refine Ordd.take (i := 7) (oi := { dst := some 18, op := Op.load 29 (Operand.tmp 17), type := 29, pos := "raft.go:127", after := #[{ on := 6, ground := Ground.data }], guard := none }) (v := (.slice s.ma m.mtch.length s.mc)) rfl rfl (by kernel_rfl) (by decide) (by kernel_rfl) (by kernel_rfl) (by kernel_rfl) (by kernel_rfl) (fun _ _ _ h => h) (Or.inl ⟨by rfl, ?_⟩) hHeld ?_
  · intro w hSw; (try dsimp only at hSw); go_simp
  try simp only [Act.put, List.setIfInBounds_toArray, List.set_cons_zero, List.set_cons_succ]
  refine Ordd.ready (rs := [2]) (by kernel_rfl) (by simp) ?_
  refine Nowd.cons (o := { dst := some 13, op := Op.call { callee := Callee.value (Operand.func 51), args := #[Operand.tmp 12], argTypes := #[28] }, type := 28, pos := "raft.go:127", after := #[{ on := 1, ground := Ground.data }], guard := none }) rfl (fun K hK => ?_) Nowd.nil
  go_simp
  (go_at_call 51; refine (HC2.out _ HV.out.l).mono ?_; rintro e w3 ⟨ga, gc, rfl, qR, qP, qB⟩; have HV3 : Hid (Cz w w3 ⟨ra, rc, qa, qc, s.ga, s.gc, s.xa, s.xc, s.ma, s.mc⟩ m) := HV.out.below qB; have HRg : Hid (BlV w3 ga gc m.granted ∧ PV (fun g => w.heap.size + 1 + 1 ≤ g) ga m.granted.length) := ⟨qR, fun h0 x hx => Nat.le_trans HV.out.z (qP h0 x hx)⟩; have HBw3 := qB; clear qR qP)
  go_wp2_with fail
  have hHeld2 := (⟨HV3.out.p.c11, HV3.out.p.c12, HV3.out.p.c13⟩ : (fun u => u.cell? ⟨w.heap.size, 11, none⟩ = some (.slice s.ga m.granted.length s.gc) ∧ u.cell? ⟨w.heap.size, 12, none⟩ = some (.slice s.xa m.next.length s.xc) ∧ u.cell? ⟨w.heap.size, 13, none⟩ = some (.slice s.ma m.mtch.length s.mc)) w3)
  refine hK.out _ _ (.inr hHeld2) ?_
  clear hK K hHeld
  have hHeld := hHeld2
  clear hHeld2
  try simp only [Act.put, List.setIfInBounds_toArray, List.set_cons_zero, List.set_cons_succ]
  refine Ordd.take (i := 9) (oi := { dst := some 20, op := Op.fieldAddr 31 (Operand.tmp 1) 9, type := 0, pos := "raft.go:127", after := #[{ on := 0, ground := Ground.phase }, { on := 1, ground := Ground.phase }, { on := 2, ground := Ground.phase }, { on := 3, ground := Ground.phase }, { on := 4, ground := Ground.phase }, { on := 5, ground := Ground.textOnly Departure.lateStoresUnsure }, { on := 6, ground := Ground.phase }, { on := 7, ground := Ground.phase }, { on := 8, ground := Ground.textOnly Departure.lateStoresUnsure }], guard := none }) (v := (.pointer (some ⟨w.heap.size, 11, none⟩))) rfl rfl (by kernel_rfl) (by decide) (by kernel_rfl) (by kernel_rfl) (by kernel_rfl) (by kernel_rfl) (fun _ _ _ h => h) (Or.inl ⟨by rfl, ?_⟩) hHeld ?_
  · intro w hSw; (try dsimp only at hSw); go_simp
  try simp only [Act.put, List.setIfInBounds_toArray, List.set_cons_zero, List.set_cons_succ]
  refine Ordd.ready (rs := [5]) (by kernel_rfl) (by simp) ?_
  refine Nowd.cons (o := { dst := some 16, op := Op.call { callee := Callee.value (Operand.func 52), args := #[Operand.tmp 15], argTypes := #[29] }, type := 29, pos := "raft.go:127", after := #[{ on := 4, ground := Ground.data }, { on := 2, ground := Ground.chain }], guard := none }) rfl (fun K hK => ?_) Nowd.nil
  go_simp
  (go_at_call 52; refine (HC3.out _ HV3.out.l).mono ?_; rintro e w4 ⟨xa, xc, rfl, qR, qP, qB⟩; have HV4 : Hid (Cz w w4 ⟨ra, rc, qa, qc, s.ga, s.gc, s.xa, s.xc, s.ma, s.mc⟩ m) := HV3.out.below qB; have HRx : Hid (IlV w4 xa xc m.next ∧ PV (fun g => w.heap.size + 1 + 1 ≤ g) xa m.next.length) := ⟨qR, fun h0 x hx => Nat.le_trans HV3.out.z (qP h0 x hx)⟩; have HBw4 := qB; clear qR qP)
  go_wp2_with fail
  have hHeld2 := (⟨HV4.out.p.c11, HV4.out.p.c12, HV4.out.p.c13⟩ : (fun u => u.cell? ⟨w.heap.size, 11, none⟩ = some (.slice s.ga m.granted.length s.gc) ∧ u.cell? ⟨w.heap.size, 12, none⟩ = some (.slice s.xa m.next.length s.xc) ∧ u.cell? ⟨w.heap.size, 13, none⟩ = some (.slice s.ma m.mtch.length s.mc)) w4)
  refine hK.out _ _ (.inr hHeld2) ?_
  clear hK K hHeld
  have hHeld := hHeld2
  clear hHeld2
  try simp only [Act.put, List.setIfInBounds_toArray, List.set_cons_zero, List.set_cons_succ]
  refine Ordd.ready (rs := [8]) (by kernel_rfl) (by simp) ?_
  refine Nowd.cons (o := { dst := some 19, op := Op.call { callee := Callee.value (Operand.func 52), args := #[Operand.tmp 18], argTypes := #[29] }, type := 29, pos := "raft.go:127", after := #[{ on := 7, ground := Ground.data }, { on := 5, ground := Ground.chain }], guard := none }) rfl (fun K hK => ?_) Nowd.nil
  go_simp
  (go_at_call 52; have := HV4; refine (HC4.out _ HV4.out.l).mono ?_; rintro e w5 ⟨ta, tc, rfl, qR, qP, qB⟩; have HV5 : Hid (Cz w w5 ⟨ra, rc, qa, qc, s.ga, s.gc, s.xa, s.xc, s.ma, s.mc⟩ m) := HV4.out.below qB; have HRt : Hid (IlV w5 ta tc m.mtch ∧ PV (fun g => w.heap.size + 1 + 1 ≤ g) ta m.mtch.length) := ⟨qR, fun h0 x hx => Nat.le_trans HV4.out.z (qP h0 x hx)⟩; have HBw5 := qB; clear qR qP)
  go_wp2_with fail
  have hHeld2 := (⟨HV5.out.p.c11, HV5.out.p.c12, HV5.out.p.c13⟩ : (fun u => u.cell? ⟨w.heap.size, 11, none⟩ = some (.slice s.ga m.granted.length s.gc) ∧ u.cell? ⟨w.heap.size, 12, none⟩ = some (.slice s.xa m.next.length s.xc) ∧ u.cell? ⟨w.heap.size, 13, none⟩ = some (.slice s.ma m.mtch.length s.mc)) w5)
  refine hK.out _ _ (.inr hHeld2) ?_
  clear hK K hHeld
  have hHeld := hHeld2
  clear hHeld2
  try simp only [Act.put, List.setIfInBounds_toArray, List.set_cons_zero, List.set_cons_succ]
  refine Ordd.ready (rs := [10]) (by kernel_rfl) (by simp) ?_
  refine Nowd.cons (o := { dst := none, op := Op.store 28 (Operand.tmp 20) (Operand.tmp 13), type := 0, pos := "raft.go:127", after := #[{ on := 9, ground := Ground.data }, { on := 2, ground := Ground.data }, { on := 8, ground := Ground.chain }, { on := 0, ground := Ground.phase }, { on := 1, ground := Ground.phase }, { on := 2, ground := Ground.phase }, { on := 3, ground := Ground.phase }, { on := 4, ground := Ground.phase }, { on := 5, ground := Ground.textOnly Departure.lateStoresUnsure }, { on := 6, ground := Ground.phase }, { on := 7, ground := Ground.phase }, { on := 8, ground := Ground.textOnly Departure.lateStoresUnsure }], guard := none }) rfl (fun K hK => ?_) Nowd.nil
  obtain ⟨p0, p1, p2, p3, p4, p5, p6, p7, p8, p9, p10, p11, p12, p13, p14, p15, pf⟩ := HV5.out.p
  have hp : w.heap.size < w5.heap.size := HV5.out.p.lt
  go_simp
  go_wp2_with fail
  refine hK.out _ _ (.inl (by kernel_rfl)) ?_
  clear hK K
  try simp only [Act.put, List.setIfInBounds_toArray, List.set_cons_zero, List.set_cons_succ]
  refine Ordd.ready (rs := [11]) (by kernel_rfl) (by simp) ?_
  refine Nowd.cons (o := { dst := some 21, op := Op.fieldAddr 31 (Operand.tmp 1) 10, type := 0, pos := "raft.go:127", after := #[{ on := 0, ground := Ground.phase }, { on := 1, ground := Ground.phase }, { on := 2, ground := Ground.phase }, { on := 3, ground := Ground.phase }, { on := 4, ground := Ground.phase }, { on := 5, ground := Ground.phase }, { on := 6, ground := Ground.phase }, { on := 7, ground := Ground.phase }, { on := 8, ground := Ground.textOnly Departure.lateStoresUnsure }, { on := 9, ground := Ground.phase }, { on := 10, ground := Ground.phase }], guard := none }) rfl (fun K hK => ?_) Nowd.nil
  go_simp
  refine hK.out _ _ (.inl (by kernel_rfl)) ?_
  clear hK K
  try simp only [Act.put, List.setIfInBounds_toArray, List.set_cons_zero, List.set_cons_succ]
  refine Ordd.ready (rs := [12]) (by kernel_rfl) (by simp) ?_
  refine Nowd.cons (o := { dst := none, op := Op.store 29 (Operand.tmp 21) (Operand.tmp 16), type := 0, pos := "raft.go:127", after := #[{ on := 11, ground := Ground.data }, { on := 5, ground := Ground.data }, { on := 10, ground := Ground.chain }, { on := 0, ground := Ground.phase }, { on := 1, ground := Ground.phase }, { on := 2, ground := Ground.phase }, { on := 3, ground := Ground.phase }, { on := 4, ground := Ground.phase }, { on := 5, ground := Ground.phase }, { on := 6, ground := Ground.phase }, { on := 7, ground := Ground.phase }, { on := 8, ground := Ground.textOnly Departure.lateStoresUnsure }, { on := 9, ground := Ground.phase }, { on := 10, ground := Ground.phase }], guard := none }) rfl (fun K hK => ?_) Nowd.nil
  go_simp
  go_wp2_with fail
  refine hK.out _ _ (.inl (by kernel_rfl)) ?_
  clear hK K
  try simp only [Act.put, List.setIfInBounds_toArray, List.set_cons_zero, List.set_cons_succ]
  refine Ordd.ready (rs := [13]) (by kernel_rfl) (by simp) ?_
  refine Nowd.cons (o := { dst := some 22, op := Op.fieldAddr 31 (Operand.tmp 1) 11, type := 0, pos := "raft.go:127", after := #[{ on := 0, ground := Ground.phase }, { on := 1, ground := Ground.phase }, { on := 2, ground := Ground.phase }, { on := 3, ground := Ground.phase }, { on := 4, ground := Ground.phase }, { on := 5, ground := Ground.phase }, { on := 6, ground := Ground.phase }, { on := 7, ground := Ground.phase }, { on := 8, ground := Ground.phase }, { on := 9, ground := Ground.phase }, { on := 10, ground := Ground.phase }, { on := 11, ground := Ground.phase }, { on := 12, ground := Ground.phase }], guard := none }) rfl (fun K hK => ?_) Nowd.nil
  go_simp
  refine hK.out _ _ (.inl (by kernel_rfl)) ?_
  clear hK K
  try simp only [Act.put, List.setIfInBounds_toArray, List.set_cons_zero, List.set_cons_succ]
  refine Ordd.ready (rs := [14]) (by kernel_rfl) (by simp) ?_
  refine Nowd.cons (o := { dst := none, op := Op.store 29 (Operand.tmp 22) (Operand.tmp 19), type := 0, pos := "raft.go:127", after := #[{ on := 13, ground := Ground.data }, { on := 8, ground := Ground.data }, { on := 12, ground := Ground.chain }, { on := 0, ground := Ground.phase }, { on := 1, ground := Ground.phase }, { on := 2, ground := Ground.phase }, { on := 3, ground := Ground.phase }, { on := 4, ground := Ground.phase }, { on := 5, ground := Ground.phase }, { on := 6, ground := Ground.phase }, { on := 7, ground := Ground.phase }, { on := 8, ground := Ground.phase }, { on := 9, ground := Ground.phase }, { on := 10, ground := Ground.phase }, { on := 11, ground := Ground.phase }, { on := 12, ground := Ground.phase }], guard := none }) rfl (fun K hK => ?_) Nowd.nil
  go_simp
  go_wp2_with fail
  refine hK.out _ _ (.inl (by kernel_rfl)) ?_
  clear hK K
  try simp only [Act.put, List.setIfInBounds_toArray, List.set_cons_zero, List.set_cons_succ]
  refine Ordd.done (by kernel_rfl) ?_ _
  obtain ⟨wf, hwf⟩ : ∃ q, (((w5.setCell ⟨w.heap.size, 11, none⟩ (.slice ga m.granted.length gc)).setCell ⟨w.heap.size, 12, none⟩ (.slice xa m.next.length xc)).setCell ⟨w.heap.size, 13, none⟩ (.slice ta m.mtch.length tc)) = q := ⟨_, rfl⟩
  have HZ : Hid (Cz w wf ⟨ra, rc, qa, qc, ga, gc, xa, xc, ta, tc⟩ m ∧ MbV wf (fun g => w.heap.size + 1 + 1 ≤ g) ⟨ra, rc, qa, qc, ga, gc, xa, xc, ta, tc⟩ m) := by
    have ho : ∀ g, g ≠ w.heap.size → wf.heap[g]? = w5.heap[g]? := by rw [← hwf]; exact fun g hg => ((heap_other hg).trans ((heap_other hg).trans (heap_other (w := w5) (g := g) hg)))
    have hc : Cz w wf ⟨ra, rc, qa, qc, ga, gc, xa, xc, ta, tc⟩ m := by rw [← hwf]; exact ⟨((((((HV5.out.p).put 11 _)).put 12 _)).put 13 _), HV5.out.q.kept (by rw [hwf]; exact ho _ (by omega)), ((((((HV5.out.l).setCell (p := ⟨_, _, none⟩) (Nat.le_refl _) _)).setCell (p := ⟨_, _, none⟩) (Nat.le_refl _) _)).setCell (p := ⟨_, _, none⟩) (Nat.le_refl _) _), by simp only [size_set]; exact HV5.out.z⟩
    have hb : Below wy.heap.size wy w5 := ((HB6.out.trans (HBw3.mono HB6.out.size)).trans (HBw4.mono (Nat.le_trans HB6.out.size HBw3.size))).trans (HBw5.mono (Nat.le_trans (Nat.le_trans HB6.out.size HBw3.size) HBw4.size))
    have kp : ∀ g, w.heap.size + 1 + 1 ≤ g → g < w5.heap.size → wf.heap[g]? = w5.heap[g]? ∧ w.heap.size + 1 + 1 ≤ g := fun g hg _ => ⟨ho g (by omega), hg⟩
    have h1 := (HY.out.2.1.below hb).kept kp
    have h2 := bytes_kept (HY.out.2.2.1.below hb) HY.out.2.2.2 kp
    have h3 := (HRg.out.1.below (HBw4.trans (HBw5.mono HBw4.size))).kept HRg.out.2 kp
    have h4 := (HRx.out.1.below HBw5).kept HRx.out.2 kp
    have h5 := HRt.out.1.kept HRt.out.2 kp
    exact ⟨hc, h1, h2.1, h2.2, h3.1, h3.2, h4.1, h4.2, h5.1, h5.2⟩
  rw [hwf]
  clear hwf HV HV3 HV4 HV5 HRg HRx HRt HBw3 HBw4 HBw5 HB6 HY p0 p1 p2 p3 p4 p5 p6 p7 p8 p9 p10 p11 p12 p13 p14 p15 pf hp HCp HCd HC2 HC3 HC4
  obtain ⟨p0, p1, p2, p3, p4, p5, p6, p7, p8, p9, p10, p11, p12, p13, p14, p15, pf⟩ := HZ.out.1.p
  obtain ⟨q0, q1, q2, q3, q4, q5, q6, q7, q8, q9, q10, q11, q12, q13, q14, q15, qf⟩ := HZ.out.1.q
  have hp : w.heap.size < wf.heap.size := HZ.out.1.p.lt
  have hq : w.heap.size + 1 < wf.heap.size := HZ.out.1.q.lt
  have HF : Hid (Cl16 ((((((((((((((((wf.setCell ⟨w.heap.size + 1, 0, none⟩ (.int .i64 m.id)).setCell ⟨w.heap.size + 1, 1, none⟩ (.int .i64 m.n)).setCell ⟨w.heap.size + 1, 2, none⟩ (.int .i64 m.term)).setCell ⟨w.heap.size + 1, 3, none⟩ (.int .i64 m.vote)).setCell ⟨w.heap.size + 1, 4, none⟩ (.int .i64 m.role)).setCell ⟨w.heap.size + 1, 5, none⟩ (.int .i64 m.lead)).setCell ⟨w.heap.size + 1, 6, none⟩ (.int .i64 m.b)).setCell ⟨w.heap.size + 1, 7, none⟩ (.int .i64 m.bt)).setCell ⟨w.heap.size + 1, 8, none⟩ (.slice ra m.es.length rc)).setCell ⟨w.heap.size + 1, 9, none⟩ (.int .i64 m.commit)).setCell ⟨w.heap.size + 1, 10, none⟩ (.slice qa m.snap.length qc)).setCell ⟨w.heap.size + 1, 11, none⟩ (.slice ga m.granted.length gc)).setCell ⟨w.heap.size + 1, 12, none⟩ (.slice xa m.next.length xc)).setCell ⟨w.heap.size + 1, 13, none⟩ (.slice ta m.mtch.length tc)).setCell ⟨w.heap.size + 1, 14, none⟩ (.int .i64 m.clock)).setCell ⟨w.heap.size + 1, 15, none⟩ (.int .i64 m.wait)) (w.heap.size + 1) (.int .i64 m.id) (.int .i64 m.n) (.int .i64 m.term) (.int .i64 m.vote) (.int .i64 m.role) (.int .i64 m.lead) (.int .i64 m.b) (.int .i64 m.bt) (.slice ra m.es.length rc) (.int .i64 m.commit) (.slice qa m.snap.length qc) (.slice ga m.granted.length gc) (.slice xa m.next.length xc) (.slice ta m.mtch.length tc) (.int .i64 m.clock) (.int .i64 m.wait) ∧ CyP m w (.returned (.agg #[.int .i64 m.id, .int .i64 m.n, .int .i64 m.term, .int .i64 m.vote, .int .i64 m.role, .int .i64 m.lead, .int .i64 m.b, .int .i64 m.bt, .slice ra m.es.length rc, .int .i64 m.commit, .slice qa m.snap.length qc, .slice ga m.granted.length gc, .slice xa m.next.length xc, .slice ta m.mtch.length tc, .int .i64 m.clock, .int .i64 m.wait])) ((((((((((((((((wf.setCell ⟨w.heap.size + 1, 0, none⟩ (.int .i64 m.id)).setCell ⟨w.heap.size + 1, 1, none⟩ (.int .i64 m.n)).setCell ⟨w.heap.size + 1, 2, none⟩ (.int .i64 m.term)).setCell ⟨w.heap.size + 1, 3, none⟩ (.int .i64 m.vote)).setCell ⟨w.heap.size + 1, 4, none⟩ (.int .i64 m.role)).setCell ⟨w.heap.size + 1, 5, none⟩ (.int .i64 m.lead)).setCell ⟨w.heap.size + 1, 6, none⟩ (.int .i64 m.b)).setCell ⟨w.heap.size + 1, 7, none⟩ (.int .i64 m.bt)).setCell ⟨w.heap.size + 1, 8, none⟩ (.slice ra m.es.length rc)).setCell ⟨w.heap.size + 1, 9, none⟩ (.int .i64 m.commit)).setCell ⟨w.heap.size + 1, 10, none⟩ (.slice qa m.snap.length qc)).setCell ⟨w.heap.size + 1, 11, none⟩ (.slice ga m.granted.length gc)).setCell ⟨w.heap.size + 1, 12, none⟩ (.slice xa m.next.length xc)).setCell ⟨w.heap.size + 1, 13, none⟩ (.slice ta m.mtch.length tc)).setCell ⟨w.heap.size + 1, 14, none⟩ (.int .i64 m.clock)).setCell ⟨w.heap.size + 1, 15, none⟩ (.int .i64 m.wait))) := by
    have ho : ∀ g, g ≠ w.heap.size + 1 → ((((((((((((((((wf.setCell ⟨w.heap.size + 1, 0, none⟩ (.int .i64 m.id)).setCell ⟨w.heap.size + 1, 1, none⟩ (.int .i64 m.n)).setCell ⟨w.heap.size + 1, 2, none⟩ (.int .i64 m.term)).setCell ⟨w.heap.size + 1, 3, none⟩ (.int .i64 m.vote)).setCell ⟨w.heap.size + 1, 4, none⟩ (.int .i64 m.role)).setCell ⟨w.heap.size + 1, 5, none⟩ (.int .i64 m.lead)).setCell ⟨w.heap.size + 1, 6, none⟩ (.int .i64 m.b)).setCell ⟨w.heap.size + 1, 7, none⟩ (.int .i64 m.bt)).setCell ⟨w.heap.size + 1, 8, none⟩ (.slice ra m.es.length rc)).setCell ⟨w.heap.size + 1, 9, none⟩ (.int .i64 m.commit)).setCell ⟨w.heap.size + 1, 10, none⟩ (.slice qa m.snap.length qc)).setCell ⟨w.heap.size + 1, 11, none⟩ (.slice ga m.granted.length gc)).setCell ⟨w.heap.size + 1, 12, none⟩ (.slice xa m.next.length xc)).setCell ⟨w.heap.size + 1, 13, none⟩ (.slice ta m.mtch.length tc)).setCell ⟨w.heap.size + 1, 14, none⟩ (.int .i64 m.clock)).setCell ⟨w.heap.size + 1, 15, none⟩ (.int .i64 m.wait)).heap[g]? = wf.heap[g]? := fun g hg => Cl16.other hg
    exact ⟨HZ.out.1.q.boxed _ _ _ _ _ _ _ _ _ _ _ _ _ _ _ _, ⟨ra, rc, qa, qc, ga, gc, xa, xc, ta, tc⟩, rfl, HZ.out.2.kept fun g hg _ => ⟨ho g (by omega), trivial⟩, Cl16.under HZ.out.1.l (Nat.le_succ _)⟩
  go_wp2
  exact bodyPost_ret (resCopy _ HF.out.1 rfl) rfl HF.out.2
end Go.Proofs.Ytfmfphfckaiejaa
