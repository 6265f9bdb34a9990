/-
  The program's clone of a message: its contract.
-/
import Derived.Test.YtcaddedkodjgcaaKqg
import Derived.Test.YtcaddedkodjgcaaKrm
import Derived.Test.YtcaddedkodjgcaaKpo
namespace Go.Proofs.Ytcaddedkodjgcaa
section
open Go.RowKit Pack
set_option linter.unusedVariables false
set_option linter.unusedSimpArgs false

/-- What clone answers. -/
def CloneP (m : Ms) (w : World) (e : Ending) (w' : World) : Prop := ∃ ax, e = .returned (msA ax m) ∧ MsV w' (fun g => w.heap.size ≤ g) ax m ∧ Below w.heap.size w w'
theorem resClone {w : World} {Q : Nat} {v0 v1 v2 v3 v4 v5 v6 v7 v8 v9 v10 : Value} (tmps : Array Value) (h : Cl11 w Q v0 v1 v2 v3 v4 v5 v6 v7 v8 v9 v10) (h4 : tmps.getD 2 undef = .pointer (some ⟨Q, 0, none⟩)) : (results Try.f53 tmps).run Try.prog w = .ok (.agg #[v0, v1, v2, v3, v4, v5, v6, v7, v8, v9, v10]) w := by
  have h4' : tmps[2]?.getD undef = .pointer (some ⟨Q, 0, none⟩) := by simpa using h4
  simp [results, Try.results53, h4', loadMsg h, asAddr]
set_option maxRecDepth 100000 in
set_option maxHeartbeats 2000000 in
theorem clone_any {w : World} {P : Nat → Prop} {ax : Ax} {m : Ms} (hx : MsV w P ax m) (hn : m.ents.length ≤ 1000) (hd : m.data.length ≤ 1000000) (hd2 : ∀ i, i < m.ents.length → (m.ents.getD i zE).2.length ≤ 1000000) : Calls Try.prog 53 #[msA ax m] w (CloneP m w) := by
  have hb2 : Below w.heap.size w ((w.alloc (Obj.cells #[.int .i64 m.kind, .int .i64 m.grp, .int .i64 m.frm, .int .i64 m.to, .int .i64 m.term, .int .i64 m.at_, .int .i64 m.att, .int .i64 m.commit, .bool m.ok, .slice ax.ea m.ents.length ax.ec, .slice ax.da m.data.length ax.dc] 51)).alloc (Obj.cells #[.int .i64 0, .int .i64 0, .int .i64 0, .int .i64 0, .int .i64 0, .int .i64 0, .int .i64 0, .int .i64 0, .bool false, .slice none 0 0, .slice none 0 0] 51)) := ((Below.refl _ _).alloc (Nat.le_refl _) _).alloc (le_alloc _ _) _
  have hsz : ((w.alloc (Obj.cells #[.int .i64 m.kind, .int .i64 m.grp, .int .i64 m.frm, .int .i64 m.to, .int .i64 m.term, .int .i64 m.at_, .int .i64 m.att, .int .i64 m.commit, .bool m.ok, .slice ax.ea m.ents.length ax.ec, .slice ax.da m.data.length ax.dc] 51)).alloc (Obj.cells #[.int .i64 0, .int .i64 0, .int .i64 0, .int .i64 0, .int .i64 0, .int .i64 0, .int .i64 0, .int .i64 0, .bool false, .slice none 0 0, .slice none 0 0] 51)).heap.size = w.heap.size + 1 + 1 := by rw [size_alloc, size_alloc]
  have hX0 : Xc ((w.alloc (Obj.cells #[.int .i64 m.kind, .int .i64 m.grp, .int .i64 m.frm, .int .i64 m.to, .int .i64 m.term, .int .i64 m.at_, .int .i64 m.att, .int .i64 m.commit, .bool m.ok, .slice ax.ea m.ents.length ax.ec, .slice ax.da m.data.length ax.dc] 51)).alloc (Obj.cells #[.int .i64 0, .int .i64 0, .int .i64 0, .int .i64 0, .int .i64 0, .int .i64 0, .int .i64 0, .int .i64 0, .bool false, .slice none 0 0, .slice none 0 0] 51)) w.heap.size ax m := (Cl11.new w _ _ _ _ _ _ _ _ _ _ _ _).below ((Below.refl _ _).alloc (Nat.le_refl _) _)
  have hZ0 : Zc ((w.alloc (Obj.cells #[.int .i64 m.kind, .int .i64 m.grp, .int .i64 m.frm, .int .i64 m.to, .int .i64 m.term, .int .i64 m.at_, .int .i64 m.att, .int .i64 m.commit, .bool m.ok, .slice ax.ea m.ents.length ax.ec, .slice ax.da m.data.length ax.dc] 51)).alloc (Obj.cells #[.int .i64 0, .int .i64 0, .int .i64 0, .int .i64 0, .int .i64 0, .int .i64 0, .int .i64 0, .int .i64 0, .bool false, .slice none 0 0, .slice none 0 0] 51)) (w.heap.size + 1) := by
    have := Cl11.new (w.alloc (Obj.cells #[.int .i64 m.kind, .int .i64 m.grp, .int .i64 m.frm, .int .i64 m.to, .int .i64 m.term, .int .i64 m.at_, .int .i64 m.att, .int .i64 m.commit, .bool m.ok, .slice ax.ea m.ents.length ax.ec, .slice ax.da m.data.length ax.dc] 51)) (.int .i64 0) (.int .i64 0) (.int .i64 0) (.int .i64 0) (.int .i64 0) (.int .i64 0) (.int .i64 0) (.int .i64 0) (.bool false) (.slice none 0 0) (.slice none 0 0) 51
    rw [size_alloc] at this
    exact this
  have HX : Hid (∀ wr, Below (w.heap.size + 1 + 1) ((w.alloc (Obj.cells #[.int .i64 m.kind, .int .i64 m.grp, .int .i64 m.frm, .int .i64 m.to, .int .i64 m.term, .int .i64 m.at_, .int .i64 m.att, .int .i64 m.commit, .bool m.ok, .slice ax.ea m.ents.length ax.ec, .slice ax.da m.data.length ax.dc] 51)).alloc (Obj.cells #[.int .i64 0, .int .i64 0, .int .i64 0, .int .i64 0, .int .i64 0, .int .i64 0, .int .i64 0, .int .i64 0, .bool false, .slice none 0 0, .slice none 0 0] 51)) wr → Xc wr w.heap.size ax m ∧ Zc wr (w.heap.size + 1) ∧ w.heap.size + 1 + 1 ≤ wr.heap.size) := fun wr q => ⟨hX0.kept (q.block _ (by omega)), hZ0.kept (q.block _ (by omega)), by have := q.size; omega⟩
  have hM : ∀ wr, Below (w.heap.size + 1 + 1) ((w.alloc (Obj.cells #[.int .i64 m.kind, .int .i64 m.grp, .int .i64 m.frm, .int .i64 m.to, .int .i64 m.term, .int .i64 m.at_, .int .i64 m.att, .int .i64 m.commit, .bool m.ok, .slice ax.ea m.ents.length ax.ec, .slice ax.da m.data.length ax.dc] 51)).alloc (Obj.cells #[.int .i64 0, .int .i64 0, .int .i64 0, .int .i64 0, .int .i64 0, .int .i64 0, .int .i64 0, .int .i64 0, .bool false, .slice none 0 0, .slice none 0 0] 51)) wr → MsV wr P ax m := fun wr q => hx.below (hb2.trans (q.mono (by omega)))
  have HE : Hid (∀ wr i, Below (w.heap.size + 1 + 1) ((w.alloc (Obj.cells #[.int .i64 m.kind, .int .i64 m.grp, .int .i64 m.frm, .int .i64 m.to, .int .i64 m.term, .int .i64 m.at_, .int .i64 m.att, .int .i64 m.commit, .bool m.ok, .slice ax.ea m.ents.length ax.ec, .slice ax.da m.data.length ax.dc] 51)).alloc (Obj.cells #[.int .i64 0, .int .i64 0, .int .i64 0, .int .i64 0, .int .i64 0, .int .i64 0, .int .i64 0, .int .i64 0, .bool false, .slice none 0 0, .slice none 0 0] 51)) wr → i < m.ents.length → ∃ (g o : Nat) (ka : Option Addr) (kc : Nat), ax.ea = some ⟨g, o, none⟩ ∧ g < w.heap.size ∧ wr.cell? ⟨g, o + i * 2, none⟩ = some (.int .i64 (m.ents.getD i zE).1) ∧ wr.cell? ⟨g, o + i * 2 + 1, none⟩ = some (.slice ka (m.ents.getD i zE).2.length kc) ∧ Hid (ReadsV wr (.slice ka (m.ents.getD i zE).2.length kc) (m.ents.getD i zE).2) ∧ Hid (InR (m.ents.getD i zE).1)) := fun wr i q hi => by
    obtain ⟨b, o, ka, kc, q1, q2, q3, q4, q5, q6, _⟩ := (hM wr q).e.at_ hi
    obtain ⟨b2, o2, _, _, r1, _, _, _, _, r6, _⟩ := hx.e.at_ hi
    rw [q1] at r1
    cases r1
    exact ⟨b, o, ka, kc, q1, r6, q2, q3, q4, q5⟩
  have HD : Hid (∀ wr, Below (w.heap.size + 1 + 1) ((w.alloc (Obj.cells #[.int .i64 m.kind, .int .i64 m.grp, .int .i64 m.frm, .int .i64 m.to, .int .i64 m.term, .int .i64 m.at_, .int .i64 m.att, .int .i64 m.commit, .bool m.ok, .slice ax.ea m.ents.length ax.ec, .slice ax.da m.data.length ax.dc] 51)).alloc (Obj.cells #[.int .i64 0, .int .i64 0, .int .i64 0, .int .i64 0, .int .i64 0, .int .i64 0, .int .i64 0, .int .i64 0, .bool false, .slice none 0 0, .slice none 0 0] 51)) wr → Calls Try.prog 60 #[.slice ax.da m.data.length ax.dc] wr fun e w' => ∃ a c, e = .returned (.slice a m.data.length c) ∧ ReadsV w' (.slice a m.data.length c) m.data ∧ PV (fun g => wr.heap.size ≤ g) a m.data.length ∧ Below wr.heap.size wr w') := fun wr q => bclone_any _ _ _ (hM wr q).d (by omega)
  have HL : Hid (∀ i, i < m.ents.length → (m.ents.getD i zE).2.length ≤ 100000000) := fun i hi => Nat.le_trans (hd2 i hi) (by omega)
  obtain ⟨cs, hcs, hmk⟩ := make_ens m.ents.length (by omega)
  have HM0 : Hid (Mk (((w.alloc (Obj.cells #[.int .i64 m.kind, .int .i64 m.grp, .int .i64 m.frm, .int .i64 m.to, .int .i64 m.term, .int .i64 m.at_, .int .i64 m.att, .int .i64 m.commit, .bool m.ok, .slice ax.ea m.ents.length ax.ec, .slice ax.da m.data.length ax.dc] 51)).alloc (Obj.cells #[.int .i64 0, .int .i64 0, .int .i64 0, .int .i64 0, .int .i64 0, .int .i64 0, .int .i64 0, .int .i64 0, .bool false, .slice none 0 0, .slice none 0 0] 51)).alloc (.cells cs 48)) (w.heap.size + 1 + 1) m.ents.length m.ents 0 ∧ Below (w.heap.size + 1 + 1) ((w.alloc (Obj.cells #[.int .i64 m.kind, .int .i64 m.grp, .int .i64 m.frm, .int .i64 m.to, .int .i64 m.term, .int .i64 m.at_, .int .i64 m.att, .int .i64 m.commit, .bool m.ok, .slice ax.ea m.ents.length ax.ec, .slice ax.da m.data.length ax.dc] 51)).alloc (Obj.cells #[.int .i64 0, .int .i64 0, .int .i64 0, .int .i64 0, .int .i64 0, .int .i64 0, .int .i64 0, .int .i64 0, .bool false, .slice none 0 0, .slice none 0 0] 51)) (((w.alloc (Obj.cells #[.int .i64 m.kind, .int .i64 m.grp, .int .i64 m.frm, .int .i64 m.to, .int .i64 m.term, .int .i64 m.at_, .int .i64 m.att, .int .i64 m.commit, .bool m.ok, .slice ax.ea m.ents.length ax.ec, .slice ax.da m.data.length ax.dc] 51)).alloc (Obj.cells #[.int .i64 0, .int .i64 0, .int .i64 0, .int .i64 0, .int .i64 0, .int .i64 0, .int .i64 0, .int .i64 0, .bool false, .slice none 0 0, .slice none 0 0] 51)).alloc (.cells cs 48))) := by
    have := Mk.first ((w.alloc (Obj.cells #[.int .i64 m.kind, .int .i64 m.grp, .int .i64 m.frm, .int .i64 m.to, .int .i64 m.term, .int .i64 m.at_, .int .i64 m.att, .int .i64 m.commit, .bool m.ok, .slice ax.ea m.ents.length ax.ec, .slice ax.da m.data.length ax.dc] 51)).alloc (Obj.cells #[.int .i64 0, .int .i64 0, .int .i64 0, .int .i64 0, .int .i64 0, .int .i64 0, .int .i64 0, .int .i64 0, .bool false, .slice none 0 0, .slice none 0 0] 51)) m.ents.length m.ents cs hcs
    rw [hsz] at this
    exact ⟨this, (Below.refl _ _).alloc (Nat.le_of_eq hsz.symm) _⟩
  have HFin : Hid (∀ (wr w' : World) (da : Option Addr) (dc : Nat), Below (w.heap.size + 1 + 1) ((w.alloc (Obj.cells #[.int .i64 m.kind, .int .i64 m.grp, .int .i64 m.frm, .int .i64 m.to, .int .i64 m.term, .int .i64 m.at_, .int .i64 m.att, .int .i64 m.commit, .bool m.ok, .slice ax.ea m.ents.length ax.ec, .slice ax.da m.data.length ax.dc] 51)).alloc (Obj.cells #[.int .i64 0, .int .i64 0, .int .i64 0, .int .i64 0, .int .i64 0, .int .i64 0, .int .i64 0, .int .i64 0, .bool false, .slice none 0 0, .slice none 0 0] 51)) wr → Mk wr (w.heap.size + 1 + 1) m.ents.length m.ents m.ents.length → ReadsV wr (.slice da m.data.length dc) m.data → PV (fun g => w.heap.size + 1 + 1 ≤ g) da m.data.length → Below w.heap.size wr w' → (∀ g, w.heap.size + 1 + 1 ≤ g → w'.heap[g]? = wr.heap[g]?) → CloneP m w (.returned (.agg #[.int .i64 m.kind, .int .i64 m.grp, .int .i64 m.frm, .int .i64 m.to, .int .i64 m.term, .int .i64 m.at_, .int .i64 m.att, .int .i64 m.commit, .bool m.ok, .slice (some ⟨w.heap.size + 1 + 1, 0, none⟩) m.ents.length m.ents.length, .slice da m.data.length dc])) w') := fun wr w' da dc q1 q2 q3 q4 q5 q6 => by
    have hm : MsV wr (fun g => w.heap.size + 1 + 1 ≤ g) ⟨some ⟨w.heap.size + 1 + 1, 0, none⟩, m.ents.length, da, dc⟩ m := ⟨q2.done (by omega), q3, q4⟩
    exact ⟨⟨some ⟨w.heap.size + 1 + 1, 0, none⟩, m.ents.length, da, dc⟩, rfl, hm.kept fun g hg _ => ⟨q6 g hg, by omega⟩, (hb2.trans (q1.mono (by omega))).trans q5⟩
  have c1 := hx.e.cap1
  have c2 := hx.e.cap2
  unfold msA
  clear hx hX0 hZ0 hM hcs hd hd2 hb2
  have HX1 := (HX.out _ HM0.out.2).1
  have HZ1 := (HX.out _ HM0.out.2).2.1
  obtain ⟨x0, x1, x2, x3, x4, x5, x6, x7, x8, x9, x10, xf⟩ := HX1
  go_enter Try.func53, Try.ntmps53
  go_wp2
  clear x0 x1 x2 x3 x4 x5 x6 x7 x8 x9 x10 xf hmk hsz HZ1
  generalize ((w.alloc _).alloc _) = wb at *
  generalize hnn : m.ents.length = n at *
  generalize hdd : m.data.length = nd at *
  go_loopw [13] (fun y wr => ∃ (i : Nat), i ≤ n ∧ y = .int .i64 i ∧ Hid (Below (w.heap.size + 1 + 1) wb wr) ∧ Hid (Mk wr (w.heap.size + 1 + 1) n m.ents i)) (fun y _ => n - (intOf y).toNat)
  case atStart => exact ⟨0, Nat.zero_le _, rfl, HM0.out.2, HM0.out.1⟩
  case round =>
    clear HM0
    obtain ⟨i, hi, rfl, HB, HK⟩ := hrel
    obtain ⟨HX1, HZ1, hz⟩ := HX.out wr HB.out
    have HX1 : Hid (Xc wr w.heap.size ax m) := HX1
    have HZ1 : Hid (Zc wr (w.heap.size + 1)) := HZ1
    by_cases hlt : i < n
    · obtain ⟨g, o, ka, kc, hea, hg, y0, y1, HRd, HIn⟩ := HE.out wr i HB.out hlt
      rw [hea] at *
      have hne : g ≠ wr.heap.size := by omega
      have hgz : g < wr.heap.size := by omega
      have hGz : w.heap.size + 1 + 1 < wr.heap.size := HK.out.l
      have hGne : w.heap.size + 1 + 1 ≠ wr.heap.size := by omega
      have hEn : Hid (m.ents.getD i zE = ((m.ents.getD i zE).1, (m.ents.getD i zE).2)) := rfl
      have HLd := HL.out i hlt
      have hst := fun (wq : World) (u0 u1 : Value) (h : Mk wq (w.heap.size + 1 + 1) n m.ents i) (hr : ReadsE wq (fun g => w.heap.size + 1 + 1 < g) u0 u1 (m.ents.getD i zE)) => h.step hlt hr
      have HSt : Hid (∀ (wq : World) (u0 u1 : Value), Mk wq (w.heap.size + 1 + 1) n m.ents i → ReadsE wq (fun g => w.heap.size + 1 + 1 < g) u0 u1 (m.ents.getD i zE) → Mk ((wq.setCell ⟨w.heap.size + 1 + 1, i * 2, none⟩ u0).setCell ⟨w.heap.size + 1 + 1, i * 2 + 1, none⟩ u1) (w.heap.size + 1 + 1) n m.ents (i + 1)) := hst
      clear hst
      rw [hEn.out] at HSt
      generalize (m.ents.getD i zE).1 = t at *
      generalize (m.ents.getD i zE).2 = d at *
      have HA : Hid (Below wr.heap.size wr (wr.alloc (.cells #[.int .i64 t, .slice ka d.length kc] 48)).drew) := ((Below.refl _ _).alloc (Nat.le_refl _) _).drew
      have HC2 : Hid (Cell2 (wr.alloc (.cells #[.int .i64 t, .slice ka d.length kc] 48)).drew wr.heap.size (.int .i64 t) (.slice ka d.length kc)) := (Cell2.new wr _ _ 48).below ((Below.refl _ _).drew)
      have HCl : Hid (Calls Try.prog 60 #[.slice ka d.length kc] (wr.alloc (.cells #[.int .i64 t, .slice ka d.length kc] 48)).drew fun e w' => ∃ a c, e = .returned (.slice a d.length c) ∧ Hid (Below wr.heap.size wr w' ∧ ReadsE w' (fun g => w.heap.size + 1 + 1 < g) (.int .i64 t) (.slice a d.length c) (t, d)) ∧ Cell2 w' wr.heap.size (.int .i64 t) (.slice ka d.length kc)) := (bclone_any _ d _ (HRd.out.below HA.out) HLd).mono fun e w' ⟨a, c, z1, z2, z3, z4⟩ => ⟨a, c, z1, ⟨HA.out.trans (z4.mono HA.out.size), a, c, rfl, rfl, z2, fun h0 x hx => by have := z3 (fun e => h0 (List.length_eq_zero_iff.1 e)) x hx; have := HA.out.size; omega, HIn.out⟩, HC2.out.below z4⟩
      clear HL HE HD HFin HLd hEn
      go_wp2
      go_region_held3 (fun w' => w'.cell? ⟨wr.heap.size, 0, none⟩ = some (.int .i64 t) ∧ w'.cell? ⟨wr.heap.size, 1, none⟩ = some (.slice ka d.length kc)) (go_keep) (first
        | (go_at_call 60; refine HCl.out.mono ?_; rintro e w5 ⟨a5, c5, rfl, q1, q2⟩; have HQ : Hid (Below wr.heap.size wr w5 ∧ ReadsE w5 (fun g => w.heap.size + 1 + 1 < g) (.int .i64 t) (.slice a5 d.length c5) (t, d)) := q1.out; have HK5 : Hid (Mk w5 (w.heap.size + 1 + 1) n m.ents i) := HK.out.below q1.out.1; obtain ⟨u0, u1, g0, g1, _⟩ := HK5.out.c i hlt; have gf := HK5.out.f; obtain ⟨k0, k1, kf⟩ := q2; clear q1))
      have HS5 : Hid (Mk ((w5.setCell ⟨w.heap.size + 1 + 1, i * 2, none⟩ (.int .i64 t)).setCell ⟨w.heap.size + 1 + 1, i * 2 + 1, none⟩ (.slice a5 d.length c5)) (w.heap.size + 1 + 1) n m.ents (i + 1)) := HSt.out _ _ _ HK5.out HQ.out.2
      have HB5 : Hid (Below (w.heap.size + 1 + 1) wb ((w5.setCell ⟨w.heap.size + 1 + 1, i * 2, none⟩ (.int .i64 t)).setCell ⟨w.heap.size + 1 + 1, i * 2 + 1, none⟩ (.slice a5 d.length c5))) := ((HB.out.trans (HQ.out.1.mono (by omega))).setCell (p := ⟨w.heap.size + 1 + 1, i * 2, none⟩) (Nat.le_refl _) _).setCell (p := ⟨w.heap.size + 1 + 1, i * 2 + 1, none⟩) (Nat.le_refl _) _
      clear g0 g1 gf k0 k1 kf
      go_wp2
      go_roundw
      case rel => exact ⟨i + 1, by omega, by go_num, HB5, HS5⟩
      case measure => simp [intOf]; omega
    · obtain rfl : i = n := by omega
      have HCl : Hid (Calls Try.prog 60 #[.slice ax.da nd ax.dc] wr fun e w' => ∃ a c, e = .returned (.slice a nd c) ∧ Hid (ReadsV w' (.slice a nd c) m.data ∧ PV (fun g => wr.heap.size ≤ g) a nd ∧ Below wr.heap.size wr w') ∧ Xc w' w.heap.size ax m ∧ Zc w' (w.heap.size + 1)) := (HD.out wr HB.out).mono fun e w' ⟨a, c, z1, z2, z3, z4⟩ => ⟨a, c, z1, ⟨z2, z3, z4⟩, HX1.out.below z4, HZ1.out.below z4⟩
      have hFin := HFin.out
      obtain ⟨x0, x1, x2, x3, x4, x5, x6, x7, x8, x9, x10, xf⟩ := id HX1.out
      clear HL HE HD HFin
      go_wp2_with (go_at_call 60; refine HCl.out.mono ?_; rintro e w5 ⟨a5, c5, rfl, HQ, q3, q4⟩; obtain ⟨y0, y1, y2, y3, y4, y5, y6, y7, y8, y9, y10, yf⟩ := id q3; obtain ⟨z0, z1, z2, z3, z4, z5, z6, z7, z8, z9, z10, zf⟩ := id q4; have HXq : Hid (Xc w5 w.heap.size ax m) := q3; have HZq : Hid (Zc w5 (w.heap.size + 1)) := q4; clear q3 q4)
      have hA : ∀ g, g ≠ w.heap.size → ((w5.setCell ⟨w.heap.size, 9, none⟩ (.slice (some ⟨w.heap.size + 1 + 1, 0, none⟩) i i)).setCell ⟨w.heap.size, 10, none⟩ (.slice a5 nd c5)).heap[g]? = w5.heap[g]? := fun g hg => (Below.heap_setCell _ _ _ _ hg).trans (Below.heap_setCell _ _ _ _ hg)
      have HC := (HZq.out.kept (hA (w.heap.size + 1) (by omega))).boxed (.int .i64 m.kind) (.int .i64 m.grp) (.int .i64 m.frm) (.int .i64 m.to) (.int .i64 m.term) (.int .i64 m.at_) (.int .i64 m.att) (.int .i64 m.commit) (.bool m.ok) (.slice (some ⟨w.heap.size + 1 + 1, 0, none⟩) i i) (.slice a5 nd c5)
      exact bodyPost_ret (resClone _ HC rfl) rfl (hFin w5 _ a5 c5 (HB.out.trans (HQ.out.2.2.mono (by omega))) (HK.out.below HQ.out.2.2) HQ.out.1 (fun h0 x hx => by have := HQ.out.2.1 h0 x hx; omega)
        (Cl11.under (b := w.heap.size + 1) (((Below.refl w.heap.size w5).setCell (p := ⟨w.heap.size, 9, none⟩) (Nat.le_refl _) _).setCell (p := ⟨w.heap.size, 10, none⟩) (Nat.le_refl _) _) (Nat.le_succ _) (v0 := .int .i64 m.kind) (v1 := .int .i64 m.grp) (v2 := .int .i64 m.frm) (v3 := .int .i64 m.to) (v4 := .int .i64 m.term) (v5 := .int .i64 m.at_) (v6 := .int .i64 m.att) (v7 := .int .i64 m.commit) (v8 := .bool m.ok) (v9 := .slice (some ⟨w.heap.size + 1 + 1, 0, none⟩) i i) (v10 := .slice a5 nd c5))
        (fun g hg => (Cl11.other (b := w.heap.size + 1) (v0 := .int .i64 m.kind) (v1 := .int .i64 m.grp) (v2 := .int .i64 m.frm) (v3 := .int .i64 m.to) (v4 := .int .i64 m.term) (v5 := .int .i64 m.at_) (v6 := .int .i64 m.att) (v7 := .int .i64 m.commit) (v8 := .bool m.ok) (v9 := .slice (some ⟨w.heap.size + 1 + 1, 0, none⟩) i i) (v10 := .slice a5 nd c5) (show g ≠ w.heap.size + 1 by omega)).trans (hA g (by omega))))
end
section
open Go.RowKit Pack
set_option linter.unusedVariables false
set_option linter.unusedSimpArgs false

theorem wtE_mem : ∀ {l : List En} {e : En}, e ∈ l → e.2.length ≤ 20 * wtEs l
  | x :: l, e, h => by
    unfold wtEs
    simp only [List.map_cons, List.sum_cons]
    rcases List.mem_cons.1 h with rfl | h
    · unfold wtE; omega
    · have := wtE_mem h
      unfold wtEs at this
      omega
/-- A message of a small weight is small. -/
theorem wt_small {m : Ms} (h : wtM m ≤ 300) : m.ents.length ≤ 1000 ∧ m.data.length ≤ 1000000 ∧ ∀ i, i < m.ents.length → (m.ents.getD i zE).2.length ≤ 1000000 := by
  have h1 := wtEs_len m.ents
  unfold wtM at h
  refine ⟨by omega, by omega, fun i hi => ?_⟩
  have := wtE_mem (l := m.ents) (e := m.ents.getD i zE) (by rw [List.getD_eq_getElem?_getD, List.getElem?_eq_getElem hi]; exact List.getElem_mem _)
  omega
set_option maxRecDepth 100000 in
set_option maxHeartbeats 2000000 in
theorem between_any {w : World} {P : Nat → Prop} {a : Option Addr} {c : Nat} {l : List Ms} (f t : Int) (hl : RwV msR w P a c l) (hw : wtMs l ≤ 300) : Calls Try.prog 39 #[.int .i64 f, .int .i64 t, .slice a l.length c] w fun e w' => ∃ a' c', e = .returned (.slice a' (mine f t l).length c') ∧ RwV msR w' (fun g => w.heap.size ≤ g) a' c' (mine f t l) ∧ Below w.heap.size w w' := by
  have h1 := hl.cap1
  have h2 := hl.cap2
  have hn := wtMs_len l
  have HC : Hid (∀ wr i, Below w.heap.size w wr → i < l.length → ∃ (g o : Nat) (ax : Ax), a = some ⟨g, o, none⟩ ∧ g < wr.heap.size ∧ (wr.cell? ⟨g, o + i * 11, none⟩ = some (.int .i64 (l.getD i zMs).kind) ∧ wr.cell? ⟨g, o + i * 11 + 1, none⟩ = some (.int .i64 (l.getD i zMs).grp) ∧ wr.cell? ⟨g, o + i * 11 + 2, none⟩ = some (.int .i64 (l.getD i zMs).frm) ∧ wr.cell? ⟨g, o + i * 11 + 3, none⟩ = some (.int .i64 (l.getD i zMs).to) ∧ wr.cell? ⟨g, o + i * 11 + 4, none⟩ = some (.int .i64 (l.getD i zMs).term) ∧ wr.cell? ⟨g, o + i * 11 + 5, none⟩ = some (.int .i64 (l.getD i zMs).at_) ∧ wr.cell? ⟨g, o + i * 11 + 6, none⟩ = some (.int .i64 (l.getD i zMs).att) ∧ wr.cell? ⟨g, o + i * 11 + 7, none⟩ = some (.int .i64 (l.getD i zMs).commit) ∧ wr.cell? ⟨g, o + i * 11 + 8, none⟩ = some (.bool (l.getD i zMs).ok) ∧ wr.cell? ⟨g, o + i * 11 + 9, none⟩ = some (.slice ax.ea (l.getD i zMs).ents.length ax.ec) ∧ wr.cell? ⟨g, o + i * 11 + 10, none⟩ = some (.slice ax.da (l.getD i zMs).data.length ax.dc)) ∧ Hid (∀ we, Below wr.heap.size wr we → Calls Try.prog 53 #[.agg #[.int .i64 (l.getD i zMs).kind, .int .i64 (l.getD i zMs).grp, .int .i64 (l.getD i zMs).frm, .int .i64 (l.getD i zMs).to, .int .i64 (l.getD i zMs).term, .int .i64 (l.getD i zMs).at_, .int .i64 (l.getD i zMs).att, .int .i64 (l.getD i zMs).commit, .bool (l.getD i zMs).ok, .slice ax.ea (l.getD i zMs).ents.length ax.ec, .slice ax.da (l.getD i zMs).data.length ax.dc]] we fun e w' => ∃ bx : Ax, e = .returned (.agg #[.int .i64 (l.getD i zMs).kind, .int .i64 (l.getD i zMs).grp, .int .i64 (l.getD i zMs).frm, .int .i64 (l.getD i zMs).to, .int .i64 (l.getD i zMs).term, .int .i64 (l.getD i zMs).at_, .int .i64 (l.getD i zMs).att, .int .i64 (l.getD i zMs).commit, .bool (l.getD i zMs).ok, .slice bx.ea (l.getD i zMs).ents.length bx.ec, .slice bx.da (l.getD i zMs).data.length bx.dc]) ∧ MsV w' (fun g => we.heap.size ≤ g) bx (l.getD i zMs) ∧ Below we.heap.size we w')) := fun wr i q hi => by
    obtain ⟨g, o, ax, q1, q2, q3, q4⟩ := (hl.below q).msg hi
    obtain ⟨s1, s2, s3⟩ := wt_small (m := l.getD i zMs) (Nat.le_trans (wtMs_mem (mem_getD hi)) hw)
    exact ⟨g, o, ax, q1, q2, q4, fun we qe => (clone_any (q3.below qe) s1 s2 s3).mono fun e w' ⟨bx, z1, z2, z3⟩ => ⟨bx, z1, z2, z3⟩⟩
  have HK : Hid (∀ i, i < l.length → mine f t (l.take (i + 1)) = mine f t (l.take i) ++ (if (l.getD i zMs).frm = f ∧ (l.getD i zMs).to = t then [(l.getD i zMs)] else [])) := fun i hi => mine_take hi
  have HT : Hid (mine f t (l.take l.length) = mine f t l) := by show _ = _; rw [List.take_length]
  have HLn : Hid (∀ i, (mine f t (l.take i)).length ≤ 1000) := fun i => Nat.le_trans (mine_len _ _ _) (by rw [List.length_take]; omega)
  clear hl hw hn
  generalize hln : l.length = n at *
  go_enter Try.func39, Try.ntmps39
  go_wp2
  go_loopw [7, 12] (fun v y wr => ∃ (i : Nat), i ≤ n ∧ y = .int .i64 i ∧ Hid (Gr msR 51 wr w.heap.size (fun g => w.heap.size ≤ g) v (mine f t (l.take i)) ∧ Below w.heap.size w wr)) (fun _ y _ => n - (intOf y).toNat)
  case atStart => exact ⟨0, Nat.zero_le _, rfl, by rw [List.take_zero]; exact Gr.nil _ _ _ _ _, Below.refl _ _⟩
  case round =>
    obtain ⟨i, hi, rfl, HR⟩ := hrel
    have HM : Hid (Gr msR 51 wr w.heap.size (fun g => w.heap.size ≤ g) u7 (mine f t (l.take i))) := HR.out.1
    have HB : Hid (Below w.heap.size w wr) := HR.out.2
    have hsz : w.heap.size ≤ wr.heap.size := HB.out.size
    clear HR
    by_cases hlt : i < n
    · obtain ⟨g, o, ax, rfl, hg, ⟨q0, q1, q2, q3, q4, q5, q6, q7, q8, q9, q10⟩, HCl⟩ := HC.out wr i HB.out hlt
      have hne : g ≠ wr.heap.size := by omega
      have HK2 : Hid (mine f t (l.take (i + 1)) = mine f t (l.take i) ++ (if (l.getD i zMs).frm = f ∧ (l.getD i zMs).to = t then [(l.getD i zMs)] else [])) := HK.out i hlt
      have HL2 : Hid ((mine f t (l.take i)).length + [(l.getD i zMs)].length ≤ 1048576) := by show _ ≤ _; have := HLn.out i; simp only [List.length_cons, List.length_nil]; omega
      clear HC HK HT HLn
      generalize l.getD i zMs = x at *
      generalize mine f t (l.take i) = acc at *
      by_cases e1 : x.frm = f
      · have y2 : (x.frm == f) = true := beq_iff_eq.2 e1
        by_cases e2 : x.to = t
        · have y3 : (x.to == t) = true := beq_iff_eq.2 e2
          have HK3 : Hid (mine f t (l.take (i + 1)) = acc ++ [x]) := by show _ = _; rw [HK2.out, if_pos ⟨e1, e2⟩]
          clear HK2 e1 e2
          have HBx : Hid (Below wr.heap.size wr (wr.alloc (Obj.cells #[.int .i64 x.kind, .int .i64 x.grp, .int .i64 x.frm, .int .i64 x.to, .int .i64 x.term, .int .i64 x.at_, .int .i64 x.att, .int .i64 x.commit, .bool x.ok, .slice ax.ea x.ents.length ax.ec, .slice ax.da x.data.length ax.dc] 51))) := (Below.refl _ _).alloc (Nat.le_refl _) _
          go_wp2_with (first
            | (go_at_call 53; refine (HCl.out _ HBx.out).mono ?_; rintro e w5 ⟨bx, rfl, hm, hb⟩; have HMs : Hid (MsV w5 (fun g => wr.heap.size ≤ g) bx x) := hm.sub (fun g hg _ => Nat.le_trans HBx.out.size hg); have HB5 : Hid (Below wr.heap.size wr w5) := HBx.out.trans (hb.mono HBx.out.size); clear hm hb; have HRw : Hid (RwV msR (w5.alloc (Obj.cells #[.int .i64 x.kind, .int .i64 x.grp, .int .i64 x.frm, .int .i64 x.to, .int .i64 x.term, .int .i64 x.at_, .int .i64 x.att, .int .i64 x.commit, .bool x.ok, .slice bx.ea x.ents.length bx.ec, .slice bx.da x.data.length bx.dc] 51)) (fun g => wr.heap.size ≤ g) (some ⟨w5.heap.size, 0, none⟩) 1 [x]) := RwV.one (r := msR) (us := msCells bx x) rfl HB5.out.size ⟨bx, rfl, HMs.out⟩; have HPp : Hid (∀ g, wr.heap.size ≤ g → w.heap.size ≤ g ∧ u7.ownBlock ≠ some g) := fun g hg => ⟨by omega, fun e => by have := HM.out.own g e; omega⟩; have HB6 : Hid (Below wr.heap.size wr (w5.alloc (Obj.cells #[.int .i64 x.kind, .int .i64 x.grp, .int .i64 x.frm, .int .i64 x.to, .int .i64 x.term, .int .i64 x.at_, .int .i64 x.att, .int .i64 x.commit, .bool x.ok, .slice bx.ea x.ents.length bx.ec, .slice bx.da x.data.length bx.dc] 51))) := HB5.out.alloc HB5.out.size _)
            | (at_builtin; refine list_appR tyMs (by decide) (B := w.heap.size) (S := fun g => w.heap.size ≤ g) (P := fun g => wr.heap.size ≤ g) (ts := acc) (l := [x]) rfl (.tmp 26) (.tmp 29) rfl (HM.out.below HB6.out) HRw.out rfl (fun g hg _ => HPp.out g hg) (Nat.le_trans hsz HB6.out.size) rfl rfl HL2.out ?_; intro v9 w9 g1 g2 g3; have HG9 : Hid (Gr msR 51 w9 w.heap.size (fun g => w.heap.size ≤ g) v9 (acc ++ [x])) := g1; have HB9 : Hid (Below w.heap.size w w9) := (HB.out.trans (HB6.out.mono hsz)).grown g2 (Nat.le_trans hsz HB6.out.size) (fun k hk => (HM.out.own k hk).1); clear g1 g2 g3))
          go_roundw
          case rel => exact ⟨i + 1, by omega, by go_num, by rw [HK3.out]; exact ⟨HG9.out, HB9.out⟩⟩
          case measure => simp [intOf]; omega
        · have y3 : (x.to == t) = false := beq_eq_false_iff_ne.2 e2
          have HK3 : Hid (mine f t (l.take (i + 1)) = acc) := by show _ = _; rw [HK2.out, if_neg (fun e => e2 e.2), List.append_nil]
          clear HK2 e1 e2 HCl
          go_wp2
          go_roundw
          case rel => exact ⟨i + 1, by omega, by go_num, by rw [HK3.out]; exact ⟨HM.out.below ((Below.refl _ _).alloc (Nat.le_refl _) _), HB.out.alloc hsz _⟩⟩
          case measure => simp [intOf]; omega
      · have y2 : (x.frm == f) = false := beq_eq_false_iff_ne.2 e1
        have HK3 : Hid (mine f t (l.take (i + 1)) = acc) := by show _ = _; rw [HK2.out, if_neg (fun e => e1 e.1), List.append_nil]
        clear HK2 e1 HCl
        go_wp2
        go_roundw
        case rel => exact ⟨i + 1, by omega, by go_num, by rw [HK3.out]; exact ⟨HM.out.below ((Below.refl _ _).alloc (Nat.le_refl _) _), HB.out.alloc hsz _⟩⟩
        case measure => simp [intOf]; omega
    · obtain rfl : i = n := by omega
      obtain ⟨a7, c7, hu7⟩ := HM.out.form
      subst hu7
      have HM2 : Hid (Gr msR 51 wr w.heap.size (fun g => w.heap.size ≤ g) (.slice a7 (mine f t l).length c7) (mine f t l)) := by have := HM.out; rw [HT.out] at this; exact this
      rw [HT.out] at *
      have HF : Hid (RwV msR wr (fun g => w.heap.size ≤ g) a7 c7 (mine f t l) ∧ Below w.heap.size w wr) := ⟨HM2.out.reads.2.sub fun g hg _ => hg.elim id id, HB.out⟩
      clear HM HT HK HC HLn HM2
      generalize hnm : (mine f t l).length = nm at *
      go_wp2
      go_ret
      subst hnm
      exact ⟨a7, c7, rfl, HF.out.1, HF.out.2⟩
set_option maxRecDepth 100000 in
set_option maxHeartbeats 2000000 in
theorem Tog_any {w : World} {P : Nat → Prop} {a : Option Addr} {c : Nat} {l : List Ms} (f : Int) (hl : RwV msR w P a c l) (hw : wtMs l ≤ 300) : Calls Try.prog 20 #[.int .i64 f, .slice a l.length c] w (TogP (togS f l 7) w) := by
  have HC : Hid (∀ wr t, Below w.heap.size w wr → Calls Try.prog 39 #[.int .i64 f, .int .i64 t, .slice a l.length c] wr fun e w' => ∃ a' c', e = .returned (.slice a' (mine f t l).length c') ∧ RwV msR w' (fun g => wr.heap.size ≤ g) a' c' (mine f t l) ∧ Below wr.heap.size wr w') := fun wr t q => between_any f t (hl.below q) hw
  clear hl hw
  go_enter Try.func20, Try.ntmps20
  go_wp2
  go_loopw [5, 6] (fun v y wr => ∃ (k : Nat), k ≤ 7 ∧ y = .int .i64 ((k : Int) + 1) ∧ Hid (Gr pkR 24 wr w.heap.size (fun _ => True) v (togS f l k) ∧ Below w.heap.size w wr)) (fun _ y _ => 9 - (intOf y).toNat)
  case atStart => exact ⟨0, by omega, rfl, Gr.nil _ _ _ _ _, Below.refl _ _⟩
  case round =>
    obtain ⟨k, hk, rfl, HR⟩ := hrel
    have HO : Hid (Gr pkR 24 wr w.heap.size (fun _ => True) u5 (togS f l k)) := HR.out.1
    have HB : Hid (Below w.heap.size w wr) := HR.out.2
    clear HR
    by_cases hk7 : k < 7
    · have HN : Hid (togS f l (k + 1) = if (k : Int) + 1 = f then togS f l k else if mine f ((k : Int) + 1) l = [] then togS f l k else togS f l k ++ [(f, (k : Int) + 1, mine f ((k : Int) + 1) l)]) := by show _ = _; rw [togS]
      have y0 : decide ((k : Int) + 1 ≤ 7) = true := decide_eq_true (by omega)
      by_cases hkf : (k : Int) + 1 = f
      · have y1 : ((k : Int) + 1 == f) = true := beq_iff_eq.2 hkf
        have HN2 : Hid (togS f l (k + 1) = togS f l k) := by show _ = _; rw [HN.out, if_pos hkf]
        clear HC HN
        go_wp2
        go_roundw
        case rel => exact ⟨k + 1, by omega, by go_num, by rw [HN2.out]; exact ⟨HO.out, HB.out⟩⟩
        case measure => simp [intOf]; omega
      · have y1 : ((k : Int) + 1 == f) = false := beq_eq_false_iff_ne.2 hkf
        have HN2 : Hid (togS f l (k + 1) = if mine f ((k : Int) + 1) l = [] then togS f l k else togS f l k ++ [(f, (k : Int) + 1, mine f ((k : Int) + 1) l)]) := by show _ = _; rw [HN.out, if_neg hkf]
        have HC2 := HC.out wr ((k : Int) + 1) HB.out
        have HC2 : Hid (Calls Try.prog 39 #[.int .i64 f, .int .i64 ((k : Int) + 1), .slice a l.length c] wr fun e w' => ∃ a' c', e = .returned (.slice a' (mine f ((k : Int) + 1) l).length c') ∧ RwV msR w' (fun g => wr.heap.size ≤ g) a' c' (mine f ((k : Int) + 1) l) ∧ Below wr.heap.size wr w') := HC2
        have HL2 : Hid (∀ y : Pk, (togS f l k).length + [y].length ≤ 1048576) := fun y => by have := tog_len f l k; simp only [List.length_cons, List.length_nil]; omega
        have hsz : w.heap.size ≤ wr.heap.size := HB.out.size
        clear HN HC hkf
        generalize mine f ((k : Int) + 1) l = ms at *
        by_cases hms : ms = []
        · subst hms
          have HK3 : Hid (togS f l (k + 1) = togS f l k) := by show _ = _; rw [HN2.out, if_pos rfl]
          clear HN2
          go_wp2_with (go_at_call 39; refine HC2.out.mono ?_; rintro e w5 ⟨a5, c5, rfl, hr, hb⟩; have HB5 : Hid (Below wr.heap.size wr w5) := hb; clear hr hb)
          go_roundw
          case rel => exact ⟨k + 1, by omega, by go_num, by rw [HK3.out]; exact ⟨HO.out.below HB5.out, HB.out.trans (HB5.out.mono hsz)⟩⟩
          case measure => simp [intOf]; omega
        · have HK3 : Hid (togS f l (k + 1) = togS f l k ++ [(f, (k : Int) + 1, ms)]) := by show _ = _; rw [HN2.out, if_neg hms]
          have hml : 0 < ms.length := List.length_pos_iff.2 hms
          have y4 : decide ((0 : Int) < (ms.length : Int)) = true := decide_eq_true (by omega)
          have HPp : Hid (∀ g, wr.heap.size ≤ g → True ∧ u5.ownBlock ≠ some g) := fun g hg => ⟨trivial, fun e => by have := HO.out.own g e; omega⟩
          have HRw : Hid (∀ (w5 : World) (a5 : Option Addr) (c5 : Nat), RwV msR w5 (fun g => wr.heap.size ≤ g) a5 c5 ms → wr.heap.size ≤ w5.heap.size → RwV pkR (w5.alloc (Obj.cells #[.int .i64 f, .int .i64 ((k : Int) + 1), .slice a5 ms.length c5] 24)) (fun g => wr.heap.size ≤ g) (some ⟨w5.heap.size, 0, none⟩) 1 [(f, (k : Int) + 1, ms)]) := fun w5 a5 c5 q1 q2 => RwV.one (r := pkR) (us := pkCells a5 c5 (f, (k : Int) + 1, ms)) rfl q2 ⟨a5, c5, rfl, q1⟩
          clear HN2 hms
          have HC3 : Hid (Calls Try.prog 39 #[.int .i64 f, .int .i64 ((k : Int) + 1), .slice a l.length c] wr fun e w' => ∃ a' c', e = .returned (.slice a' ms.length c') ∧ Hid (RwV pkR (w'.alloc (Obj.cells #[.int .i64 f, .int .i64 ((k : Int) + 1), .slice a' ms.length c'] 24)) (fun g => wr.heap.size ≤ g) (some ⟨w'.heap.size, 0, none⟩) 1 [(f, (k : Int) + 1, ms)]) ∧ Hid (Below wr.heap.size wr (w'.alloc (Obj.cells #[.int .i64 f, .int .i64 ((k : Int) + 1), .slice a' ms.length c'] 24)))) := HC2.out.mono fun e w' ⟨a', c', z1, z2, z3⟩ => ⟨a', c', z1, HRw.out w' a' c' z2 z3.size, z3.alloc z3.size _⟩
          clear HC2 HRw
          generalize ms.length = nm at *
          go_wp2_with (first
            | (go_at_call 39; refine HC3.out.mono ?_; rintro e w5 ⟨a5, c5, rfl, HR5, HB6⟩)
            | (at_builtin; refine list_appR tyPk (by decide) (B := w.heap.size) (S := fun _ => True) (P := fun g => wr.heap.size ≤ g) (ts := togS f l k) (l := [(f, (k : Int) + 1, ms)]) rfl (.tmp 22) (.tmp 27) rfl (HO.out.below HB6.out) HR5.out rfl (fun g hg _ => HPp.out g hg) (Nat.le_trans hsz HB6.out.size) rfl rfl (HL2.out _) ?_; intro v9 w9 g1 g2 g3; have HG9 : Hid (Gr pkR 24 w9 w.heap.size (fun _ => True) v9 (togS f l k ++ [(f, (k : Int) + 1, ms)])) := g1; have HB9 : Hid (Below w.heap.size w w9) := (HB.out.trans (HB6.out.mono hsz)).grown g2 (Nat.le_trans hsz HB6.out.size) (fun k hk => (HO.out.own k hk).1); clear g1 g2 g3))
          go_roundw
          case rel => exact ⟨k + 1, by omega, by go_num, by rw [HK3.out]; exact ⟨HG9.out, HB9.out⟩⟩
          case measure => simp [intOf]; omega
    · obtain rfl : k = 7 := by omega
      obtain ⟨a5, c5, hu5⟩ := HO.out.form
      subst hu5
      have HF : Hid (TogP (togS f l 7) w (.returned (.slice a5 (togS f l 7).length c5)) wr) := ⟨a5, c5, rfl, HO.out.reads.2.all, HB.out⟩
      clear HC HO
      generalize hnt : (togS f l 7).length = nt at *
      go_wp2
      go_ret
      subst hnt
      exact HF.out
end
end Go.Proofs.Ytcaddedkodjgcaa
