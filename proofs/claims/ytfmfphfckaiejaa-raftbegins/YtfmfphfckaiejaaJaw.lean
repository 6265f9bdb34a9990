/-
  The program's New: its contract.
-/
import Derived.Test.YtfmfphfckaiejaaJau
import Derived.Test.YtfmfphfckaiejaaJav
namespace Go.Proofs.Ytfmfphfckaiejaa
section
open Go.RowKit
set_option linter.unusedVariables false


/-- What a call answers: a member, and an error. -/
def RsP (r : Mb × Int) (w : World) (e : Ending) (w' : World) : Prop := ∃ s', e = .returned (.tuple #[mbA s' r.1, .int .i64 r.2]) ∧ MbV w' (fun _ => True) s' r.1 ∧ Below w.heap.size w w'
theorem rdl_nil (w : World) : RdL w none 0 [] := ⟨Nat.le_refl _, by decide, fun _ => rfl, .inl rfl⟩
theorem MbV.new (w : World) (P : Nat → Prop) (m : Mb) (h1 : m.es = []) (h2 : m.snap = []) (h3 : m.granted = []) (h4 : m.next = []) (h5 : m.mtch = []) : MbV w P zAd m := by
  refine ⟨?_, ?_, ?_, ?_, ?_, ?_, ?_, ?_, ?_⟩
  · rw [h1]; exact EnsV.nil _ _
  · rw [h2]; exact ReadsV.nil _
  · rw [h2]; exact PV.none _ _
  · rw [h3]; exact rdl_nil w
  · rw [h3]; exact PV.none _ _
  · rw [h4]; exact ⟨rdl_nil w, fun i hi => by simp at hi⟩
  · rw [h4]; exact PV.none _ _
  · rw [h5]; exact ⟨rdl_nil w, fun i hi => by simp at hi⟩
  · rw [h5]; exact PV.none _ _
theorem resNew {w : World} {Q : Nat} {v0 v1 v2 v3 v4 v5 v6 v7 v8 v9 v10 v11 v12 v13 v14 v15 : Value} (tmps : Array Value) (h : Cl16 w Q v0 v1 v2 v3 v4 v5 v6 v7 v8 v9 v10 v11 v12 v13 v14 v15) (h4 : tmps.getD 4 undef = .pointer (some ⟨Q, 0, none⟩)) : (results Try.f9 tmps).run Try.prog w = .ok (.tuple #[.agg #[v0, v1, v2, v3, v4, v5, v6, v7, v8, v9, v10, v11, v12, v13, v14, v15], tmps.getD 5 undef]) w := by
  have h4' : tmps[4]?.getD undef = .pointer (some ⟨Q, 0, none⟩) := by simpa using h4
  simp [results, Try.results9, h4', loadMb h, asAddr]
set_option maxRecDepth 100000 in
set_option maxHeartbeats 1000000 in
theorem New_yes (id n : Int) (w : World) (h : amongM id n) : Calls Try.prog 9 #[.int .i64 id, .int .i64 n] w (RsP (newM id n) w) := by
  have HAm : Hid (∀ wx, Calls Try.prog 26 #[.int .i64 id, .int .i64 n] wx fun e w' => e = .returned (.bool true) ∧ w' = wx) := fun wx => among_yes id n wx h.2.2 h.1 h.2.1
  have HE : Hid (∀ wz, Below w.heap.size w wz → RsP (newM id n) w (.returned (.tuple #[.agg #[.int .i64 id, .int .i64 n, .int .i64 0, .int .i64 0, .int .i64 0, .int .i64 0, .int .i64 0, .int .i64 0, .slice none 0 0, .int .i64 0, .slice none 0 0, .slice none 0 0, .slice none 0 0, .slice none 0 0, .int .i64 0, .int .i64 (10 + id)], .int .i64 0])) wz) := fun wz q => by
    rw [show newM id n = ({ zMb with id := id, n := n, wait := 10 + id }, 0) by unfold newM; rw [if_pos h]]
    exact ⟨zAd, rfl, MbV.new _ _ _ rfl rfl rfl rfl rfl, q⟩
  have h1 := h.1
  have h2 := h.2.1
  have h3 := h.2.2
  have HZ : Hid (Cl16 (w.alloc (.cells #[.int .i64 id, .int .i64 n, .int .i64 0, .int .i64 0, .int .i64 0, .int .i64 0, .int .i64 0, .int .i64 0, .slice none 0 0, .int .i64 0, .slice none 0 0, .slice none 0 0, .slice none 0 0, .slice none 0 0, .int .i64 0, .int .i64 (10 + id)] 31)) w.heap.size (.int .i64 id) (.int .i64 n) (.int .i64 0) (.int .i64 0) (.int .i64 0) (.int .i64 0) (.int .i64 0) (.int .i64 0) (.slice none 0 0) (.int .i64 0) (.slice none 0 0) (.slice none 0 0) (.slice none 0 0) (.slice none 0 0) (.int .i64 0) (.int .i64 (10 + id)) ∧ Below w.heap.size w (w.alloc (.cells #[.int .i64 id, .int .i64 n, .int .i64 0, .int .i64 0, .int .i64 0, .int .i64 0, .int .i64 0, .int .i64 0, .slice none 0 0, .int .i64 0, .slice none 0 0, .slice none 0 0, .slice none 0 0, .slice none 0 0, .int .i64 0, .int .i64 (10 + id)] 31))) := ⟨Cl16.new _ _ _ _ _ _ _ _ _ _ _ _ _ _ _ _ _ _, (Below.refl _ _).alloc (Nat.le_refl _) _⟩
  clear h
  generalize newM id n = R at *
  go_enter Try.func9, Try.ntmps9
  go_wp2_with (go_at_call 26; refine (HAm.out _).mono ?_; rintro e w1 ⟨rfl, rfl⟩)
  exact bodyPost_ret (resNew _ HZ.out.1 rfl) rfl (HE.out _ HZ.out.2)
set_option maxRecDepth 100000 in
set_option maxHeartbeats 1000000 in
theorem New_no (id n : Int) (w : World) (h : ¬ amongM id n) : Calls Try.prog 9 #[.int .i64 id, .int .i64 n] w (RsP (newM id n) w) := by
  have HAm : Hid (∀ wx, Calls Try.prog 26 #[.int .i64 id, .int .i64 n] wx fun e w' => e = .returned (.bool false) ∧ w' = wx) := fun wx => among_no id n wx h
  have HE : Hid (∀ wz, Below w.heap.size w wz → RsP (newM id n) w (.returned (.tuple #[.agg #[.int .i64 0, .int .i64 0, .int .i64 0, .int .i64 0, .int .i64 0, .int .i64 0, .int .i64 0, .int .i64 0, .slice none 0 0, .int .i64 0, .slice none 0 0, .slice none 0 0, .slice none 0 0, .slice none 0 0, .int .i64 0, .int .i64 0], .int .i64 2])) wz) := fun wz q => by
    rw [show newM id n = (zMb, 2) by unfold newM; rw [if_neg h]]
    exact ⟨zAd, rfl, MbV.new _ _ _ rfl rfl rfl rfl rfl, q⟩
  have HZ : Hid (Cl16 (w.alloc (.cells #[.int .i64 0, .int .i64 0, .int .i64 0, .int .i64 0, .int .i64 0, .int .i64 0, .int .i64 0, .int .i64 0, .slice none 0 0, .int .i64 0, .slice none 0 0, .slice none 0 0, .slice none 0 0, .slice none 0 0, .int .i64 0, .int .i64 0] 31)) w.heap.size (.int .i64 0) (.int .i64 0) (.int .i64 0) (.int .i64 0) (.int .i64 0) (.int .i64 0) (.int .i64 0) (.int .i64 0) (.slice none 0 0) (.int .i64 0) (.slice none 0 0) (.slice none 0 0) (.slice none 0 0) (.slice none 0 0) (.int .i64 0) (.int .i64 0) ∧ Below w.heap.size w (w.alloc (.cells #[.int .i64 0, .int .i64 0, .int .i64 0, .int .i64 0, .int .i64 0, .int .i64 0, .int .i64 0, .int .i64 0, .slice none 0 0, .int .i64 0, .slice none 0 0, .slice none 0 0, .slice none 0 0, .slice none 0 0, .int .i64 0, .int .i64 0] 31))) := ⟨Cl16.new _ _ _ _ _ _ _ _ _ _ _ _ _ _ _ _ _ _, (Below.refl _ _).alloc (Nat.le_refl _) _⟩
  clear h
  generalize newM id n = R at *
  go_enter Try.func9, Try.ntmps9
  go_wp2_with (go_at_call 26; refine (HAm.out _).mono ?_; rintro e w1 ⟨rfl, rfl⟩)
  exact bodyPost_ret (resNew _ HZ.out.1 rfl) rfl (HE.out _ HZ.out.2)
theorem New_any (id n : Int) (w : World) : Calls Try.prog 9 #[.int .i64 id, .int .i64 n] w (RsP (newM id n) w) := by
  by_cases h : amongM id n
  · exact New_yes id n w h
  · exact New_no id n w h
end
section
open Go.RowKit
set_option linter.unusedVariables false
set_option linter.unusedSimpArgs false


/-- What stands in Restart's boxes. -/
structure Rt (w wy : World) (b bt : Int) (ea : Option Addr) (ec : Nat) (es : List En) : Prop where
  a : Cell3 wy (w.heap.size) (.int .i64 b) (.int .i64 bt) (.slice ea es.length ec)
  q : Cl16 wy (w.heap.size + 1) (.int .i64 0) (.int .i64 0) (.int .i64 0) (.int .i64 0) (.int .i64 0) (.int .i64 0) (.int .i64 0) (.int .i64 0) (.slice none 0 0) (.int .i64 0) (.slice none 0 0) (.slice none 0 0) (.slice none 0 0) (.slice none 0 0) (.int .i64 0) (.int .i64 0)
  l : Below w.heap.size w wy
  z : w.heap.size + 1 + 1 ≤ wy.heap.size
theorem Rt.first (w : World) (b bt : Int) (ea : Option Addr) (ec : Nat) (es : List En) : Rt w ((w.alloc (Obj.cells #[.int .i64 b, .int .i64 bt, .slice ea es.length ec] 24)).alloc (Obj.cells #[.int .i64 0, .int .i64 0, .int .i64 0, .int .i64 0, .int .i64 0, .int .i64 0, .int .i64 0, .int .i64 0, .slice none 0 0, .int .i64 0, .slice none 0 0, .slice none 0 0, .slice none 0 0, .slice none 0 0, .int .i64 0, .int .i64 0] 31)) b bt ea ec es := by
  have h1 := Cell3.new w (.int .i64 b) (.int .i64 bt) (.slice ea es.length ec) 24
  have h2 := Cl16.new (w.alloc (Obj.cells #[.int .i64 b, .int .i64 bt, .slice ea es.length ec] 24)) (.int .i64 0) (.int .i64 0) (.int .i64 0) (.int .i64 0) (.int .i64 0) (.int .i64 0) (.int .i64 0) (.int .i64 0) (.slice none 0 0) (.int .i64 0) (.slice none 0 0) (.slice none 0 0) (.slice none 0 0) (.slice none 0 0) (.int .i64 0) (.int .i64 0) 31
  rw [size_alloc] at h2
  exact ⟨h1.kept (Below.heap_alloc _ _ _ (by rw [size_alloc]; omega)), h2, below2 w _ _, by rw [two_size]; exact Nat.le_refl _⟩
theorem Rt.below {w wy wz : World} {b bt : Int} {ea : Option Addr} {ec : Nat} {es : List En} (h : Rt w wy b bt ea ec es) (hb : Below wy.heap.size wy wz) : Rt w wz b bt ea ec es := ⟨h.a.kept (hb.block _ h.a.lt), h.q.below hb, h.l.trans (hb.mono h.l.size), Nat.le_trans h.z hb.size⟩
theorem resRestart {w : World} {Q : Nat} {v0 v1 v2 v3 v4 v5 v6 v7 v8 v9 v10 v11 v12 v13 v14 v15 : Value} (tmps : Array Value) (h : Cl16 w Q v0 v1 v2 v3 v4 v5 v6 v7 v8 v9 v10 v11 v12 v13 v14 v15) (h4 : tmps.getD 12 undef = .pointer (some ⟨Q, 0, none⟩)) : (results Try.f11 tmps).run Try.prog w = .ok (.tuple #[.agg #[v0, v1, v2, v3, v4, v5, v6, v7, v8, v9, v10, v11, v12, v13, v14, v15], tmps.getD 13 undef]) w := by
  have h4' : tmps[12]?.getD undef = .pointer (some ⟨Q, 0, none⟩) := by simpa using h4
  simp [results, Try.results11, h4', loadMb h, asAddr]
set_option maxRecDepth 100000 in
set_option maxHeartbeats 2000000 in
theorem Restart_no (id n term vote b bt : Int) {P : Nat → Prop} {ea : Option Addr} {ec : Nat} {es : List En} {sa : Option Addr} {sc : Nat} {snap : BB} {w : World} (hE : EnsV w P ea ec es) (hs : Small es) (hS : ReadsV w (.slice sa snap.length sc) snap) (hsl : snap.length ≤ 100000) (hb : InR b) (hbt : InR bt) (h : ¬ amongM id n) : Calls Try.prog 11 #[.int .i64 id, .int .i64 n, .int .i64 term, .int .i64 vote, .agg #[.int .i64 b, .int .i64 bt, .slice ea es.length ec], .slice sa snap.length sc] w (RsP (restartM id n term vote b bt es snap) w) := by
  obtain ⟨m, hm⟩ : ∃ m, m = zMb := ⟨_, rfl⟩
  have hnw : newM id n = (m, 2) := by unfold newM; rw [if_neg h, hm]
  have hrs : restartM id n term vote b bt es snap = (zMb, 2) := by unfold restartM; rw [if_neg h]
  have HNe : Hid (∀ wx, Calls Try.prog 9 #[.int .i64 id, .int .i64 n] wx fun e w' => ∃ s : Ad, e = .returned (.tuple #[.agg #[.int .i64 m.id, .int .i64 m.n, .int .i64 m.term, .int .i64 m.vote, .int .i64 m.role, .int .i64 m.lead, .int .i64 m.b, .int .i64 m.bt, .slice s.ea m.es.length s.ec, .int .i64 m.commit, .slice s.sa m.snap.length s.sc, .slice s.ga m.granted.length s.gc, .slice s.xa m.next.length s.xc, .slice s.ma m.mtch.length s.mc, .int .i64 m.clock, .int .i64 m.wait], .int .i64 2]) ∧ MbV w' (fun _ => True) s m ∧ Below wx.heap.size wx w') := fun wx => by
    refine (New_any id n wx).mono fun e w' ⟨s', q1, q2, q3⟩ => ⟨s', ?_, ?_, q3⟩
    · rw [q1, hnw]; rfl
    · rw [hnw] at q2; exact q2
  have HR0 : Hid (Rt w ((w.alloc (Obj.cells #[.int .i64 b, .int .i64 bt, .slice ea es.length ec] 24)).alloc (Obj.cells #[.int .i64 0, .int .i64 0, .int .i64 0, .int .i64 0, .int .i64 0, .int .i64 0, .int .i64 0, .int .i64 0, .slice none 0 0, .int .i64 0, .slice none 0 0, .slice none 0 0, .slice none 0 0, .slice none 0 0, .int .i64 0, .int .i64 0] 31)) b bt ea ec es) := Rt.first w b bt ea ec es
  have HE : Hid (∀ wz, Below w.heap.size w wz → RsP (restartM id n term vote b bt es snap) w (.returned (.tuple #[.agg #[.int .i64 0, .int .i64 0, .int .i64 0, .int .i64 0, .int .i64 0, .int .i64 0, .int .i64 0, .int .i64 0, .slice none 0 0, .int .i64 0, .slice none 0 0, .slice none 0 0, .slice none 0 0, .slice none 0 0, .int .i64 0, .int .i64 0], .int .i64 2])) wz) := fun wz q => by
    rw [hrs]
    exact ⟨zAd, rfl, MbV.new _ _ _ rfl rfl rfl rfl rfl, q⟩
  clear hrs h hnw hm hE hS
  generalize restartM id n term vote b bt es snap = R at *
  go_enter Try.func11, Try.ntmps11
  go_upto_region 2 with (go_at_call 9; refine (HNe.out _).mono ?_; rintro e w1 ⟨s, rfl, q1, q2⟩; have H1 : Hid (Rt w w1 b bt ea ec es ∧ MbV w1 (fun _ => True) s m) := ⟨HR0.out.below q2, q1⟩; obtain ⟨k0, k1, k2, kf⟩ := H1.out.1.a; obtain ⟨kq0, kq1, kq2, kq3, kq4, kq5, kq6, kq7, kq8, kq9, kq10, kq11, kq12, kq13, kq14, kq15, kqf⟩ := H1.out.1.q; have hk0 : w.heap.size < w1.heap.size := H1.out.1.a.lt; have hk1 : w.heap.size + 1 < w1.heap.size := H1.out.1.q.lt; clear q1 q2)
  have H2 : Hid (Rt w (w1.alloc (Obj.cells #[.int .i64 m.id, .int .i64 m.n, .int .i64 m.term, .int .i64 m.vote, .int .i64 m.role, .int .i64 m.lead, .int .i64 m.b, .int .i64 m.bt, .slice s.ea m.es.length s.ec, .int .i64 m.commit, .slice s.sa m.snap.length s.sc, .slice s.ga m.granted.length s.gc, .slice s.xa m.next.length s.xc, .slice s.ma m.mtch.length s.mc, .int .i64 m.clock, .int .i64 m.wait] 31)) b bt ea ec es) := H1.out.1.below ((Below.refl _ _).alloc (Nat.le_refl _) _)
  obtain ⟨wb, hwb⟩ : ∃ wb, (w1.alloc (Obj.cells #[.int .i64 m.id, .int .i64 m.n, .int .i64 m.term, .int .i64 m.vote, .int .i64 m.role, .int .i64 m.lead, .int .i64 m.b, .int .i64 m.bt, .slice s.ea m.es.length s.ec, .int .i64 m.commit, .slice s.sa m.snap.length s.sc, .slice s.ga m.granted.length s.gc, .slice s.xa m.next.length s.xc, .slice s.ma m.mtch.length s.mc, .int .i64 m.clock, .int .i64 m.wait] 31)) = wb := ⟨_, rfl⟩
  rw [hwb] at H2 ⊢
  clear hwb H1 k0 k1 k2 kf kq0 kq1 kq2 kq3 kq4 kq5 kq6 kq7 kq8 kq9 kq10 kq11 kq12 kq13 kq14 kq15 kqf hk0 hk1
  obtain ⟨k0, k1, k2, kf⟩ := H2.out.a
  obtain ⟨kq0, kq1, kq2, kq3, kq4, kq5, kq6, kq7, kq8, kq9, kq10, kq11, kq12, kq13, kq14, kq15, kqf⟩ := H2.out.q
  have hk0 : w.heap.size < wb.heap.size := H2.out.a.lt
  have hk1 : w.heap.size + 1 < wb.heap.size := H2.out.q.lt
  have HW0 : Hid (∀ wy, Below wb.heap.size wb wy → Rt w wy b bt ea ec es) := fun wy q => H2.out.below q
  go_wp2
  have HY : Hid (Rt w wb b bt ea ec es) := H2.out
  have HZ : Hid (Cl16 ((((((((((((((((wb.setCell ⟨w.heap.size + 1, 0, none⟩ (.int .i64 0)).setCell ⟨w.heap.size + 1, 1, none⟩ (.int .i64 0)).setCell ⟨w.heap.size + 1, 2, none⟩ (.int .i64 0)).setCell ⟨w.heap.size + 1, 3, none⟩ (.int .i64 0)).setCell ⟨w.heap.size + 1, 4, none⟩ (.int .i64 0)).setCell ⟨w.heap.size + 1, 5, none⟩ (.int .i64 0)).setCell ⟨w.heap.size + 1, 6, none⟩ (.int .i64 0)).setCell ⟨w.heap.size + 1, 7, none⟩ (.int .i64 0)).setCell ⟨w.heap.size + 1, 8, none⟩ (.slice none 0 0)).setCell ⟨w.heap.size + 1, 9, none⟩ (.int .i64 0)).setCell ⟨w.heap.size + 1, 10, none⟩ (.slice none 0 0)).setCell ⟨w.heap.size + 1, 11, none⟩ (.slice none 0 0)).setCell ⟨w.heap.size + 1, 12, none⟩ (.slice none 0 0)).setCell ⟨w.heap.size + 1, 13, none⟩ (.slice none 0 0)).setCell ⟨w.heap.size + 1, 14, none⟩ (.int .i64 0)).setCell ⟨w.heap.size + 1, 15, none⟩ (.int .i64 0)) (w.heap.size + 1) (.int .i64 0) (.int .i64 0) (.int .i64 0) (.int .i64 0) (.int .i64 0) (.int .i64 0) (.int .i64 0) (.int .i64 0) (.slice none 0 0) (.int .i64 0) (.slice none 0 0) (.slice none 0 0) (.slice none 0 0) (.slice none 0 0) (.int .i64 0) (.int .i64 0) ∧ Below w.heap.size w ((((((((((((((((wb.setCell ⟨w.heap.size + 1, 0, none⟩ (.int .i64 0)).setCell ⟨w.heap.size + 1, 1, none⟩ (.int .i64 0)).setCell ⟨w.heap.size + 1, 2, none⟩ (.int .i64 0)).setCell ⟨w.heap.size + 1, 3, none⟩ (.int .i64 0)).setCell ⟨w.heap.size + 1, 4, none⟩ (.int .i64 0)).setCell ⟨w.heap.size + 1, 5, none⟩ (.int .i64 0)).setCell ⟨w.heap.size + 1, 6, none⟩ (.int .i64 0)).setCell ⟨w.heap.size + 1, 7, none⟩ (.int .i64 0)).setCell ⟨w.heap.size + 1, 8, none⟩ (.slice none 0 0)).setCell ⟨w.heap.size + 1, 9, none⟩ (.int .i64 0)).setCell ⟨w.heap.size + 1, 10, none⟩ (.slice none 0 0)).setCell ⟨w.heap.size + 1, 11, none⟩ (.slice none 0 0)).setCell ⟨w.heap.size + 1, 12, none⟩ (.slice none 0 0)).setCell ⟨w.heap.size + 1, 13, none⟩ (.slice none 0 0)).setCell ⟨w.heap.size + 1, 14, none⟩ (.int .i64 0)).setCell ⟨w.heap.size + 1, 15, none⟩ (.int .i64 0))) := ⟨HY.out.q.boxed (.int .i64 0) (.int .i64 0) (.int .i64 0) (.int .i64 0) (.int .i64 0) (.int .i64 0) (.int .i64 0) (.int .i64 0) (.slice none 0 0) (.int .i64 0) (.slice none 0 0) (.slice none 0 0) (.slice none 0 0) (.slice none 0 0) (.int .i64 0) (.int .i64 0), Cl16.under HY.out.l (by omega)⟩
  obtain ⟨wz, hwz⟩ : ∃ wz, ((((((((((((((((wb.setCell ⟨w.heap.size + 1, 0, none⟩ (.int .i64 0)).setCell ⟨w.heap.size + 1, 1, none⟩ (.int .i64 0)).setCell ⟨w.heap.size + 1, 2, none⟩ (.int .i64 0)).setCell ⟨w.heap.size + 1, 3, none⟩ (.int .i64 0)).setCell ⟨w.heap.size + 1, 4, none⟩ (.int .i64 0)).setCell ⟨w.heap.size + 1, 5, none⟩ (.int .i64 0)).setCell ⟨w.heap.size + 1, 6, none⟩ (.int .i64 0)).setCell ⟨w.heap.size + 1, 7, none⟩ (.int .i64 0)).setCell ⟨w.heap.size + 1, 8, none⟩ (.slice none 0 0)).setCell ⟨w.heap.size + 1, 9, none⟩ (.int .i64 0)).setCell ⟨w.heap.size + 1, 10, none⟩ (.slice none 0 0)).setCell ⟨w.heap.size + 1, 11, none⟩ (.slice none 0 0)).setCell ⟨w.heap.size + 1, 12, none⟩ (.slice none 0 0)).setCell ⟨w.heap.size + 1, 13, none⟩ (.slice none 0 0)).setCell ⟨w.heap.size + 1, 14, none⟩ (.int .i64 0)).setCell ⟨w.heap.size + 1, 15, none⟩ (.int .i64 0)) = wz := ⟨_, rfl⟩
  rw [hwz] at HZ ⊢
  exact bodyPost_ret (resRestart _ HZ.out.1 rfl) rfl (HE.out _ HZ.out.2)
end
end Go.Proofs.Ytfmfphfckaiejaa
