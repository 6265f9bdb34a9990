/-
  The document's Get: the contract.
-/
import Derived.Test.YtekhfepfaegpaaaRChk
import Derived.Test.YtekhfepfaegpaaaLastM
namespace Go.Proofs.Ytekhfepfaegpaaa
open Go.RowKit Pack
set_option linter.unusedVariables false

theorem look_drop {l : VL} {i : Nat} (hi : i < l.length) (x : ByteArray) : look (l.drop i) x = if (nmsOf l).getD i emp = x then some ((valsOf l).getD i 0) else look (l.drop (i + 1)) x := by
  have e1 : (nmsOf l).getD i emp = l[i].1 := by simp [nmsOf, List.getD_eq_getElem?_getD, hi]
  have e2 : (valsOf l).getD i 0 = l[i].2 := by simp [valsOf, List.getD_eq_getElem?_getD, hi]
  rw [List.drop_eq_getElem_cons hi, e1, e2]
  rfl
theorem getV_some {l : VL} {x : ByteArray} {z : Int} (hs : Srt (nmsOf l)) (h : look l x = some z) : getV l x = z ∧ fnd (nmsOf l) x = true := by
  rw [look_srt x hs] at h
  by_cases hf : fnd (nmsOf l) x = true
  · rw [if_pos hf] at h; exact ⟨Option.some.inj h, hf⟩
  · rw [if_neg hf] at h; cases h
theorem getV_none {l : VL} {x : ByteArray} (hs : Srt (nmsOf l)) (h : look l x = none) : getV l x = 0 ∧ fnd (nmsOf l) x = false := by
  rw [look_srt x hs] at h
  by_cases hf : fnd (nmsOf l) x = true
  · rw [if_pos hf] at h; cases h
  · refine ⟨by unfold getV; rw [if_neg hf], by simpa using hf⟩
set_option maxRecDepth 100000 in
set_option maxHeartbeats 1000000 in
theorem rGet_any (l : VL) (x : ByteArray) (v : Value) (w : World) (hv : RdV w v (nmsOf l) (valsOf l)) (hs : Srt (nmsOf l)) (hl : l.length ≤ 1000000) : Calls Try.prog 22 #[v, .string x] w fun e w' => e = .returned (.tuple #[.int .i64 (getV l x), .bool (fnd (nmsOf l) x)]) ∧ Below w.heap.size w w' := by
  obtain ⟨sn, sv, rfl, h1, h2⟩ := hv
  obtain ⟨a, c, rfl⟩ := h1.form
  obtain ⟨b, d, rfl⟩ := h2.form
  obtain ⟨_, hnc, hcm, _, hcell⟩ := h1.at
  obtain ⟨_, hnd, hdm, _, hcell2⟩ := h2.at
  simp only [strsV_len, intsV_len, nmsOf_len, valsOf_len] at *
  have HC : Hid (∀ i, i < l.length → ∃ b off, a = some ⟨b, off, none⟩ ∧ b < w.heap.size ∧ w.cell? ⟨b, off + i, none⟩ = some (.string ((nmsOf l).getD i emp))) := fun i hi => hcell i _ (strsV_at (by rw [nmsOf_len]; exact hi))
  have HC2 : Hid (∀ i, i < l.length → ∃ g off, b = some ⟨g, off, none⟩ ∧ g < w.heap.size ∧ w.cell? ⟨g, off + i, none⟩ = some (.int .i64 ((valsOf l).getD i 0))) := fun i hi => hcell2 i _ (intsV_at (by rw [valsOf_len]; exact hi))
  have HT : Hid (∀ w', Below (w.alloc (.cells #[.slice a l.length c, .slice b l.length d] 25)).heap.size (w.alloc (.cells #[.slice a l.length c, .slice b l.length d] 25)) w' → Two w' w.heap.size (.slice a l.length c) (.slice b l.length d) ∧ Below w.heap.size w w') := fun w' hb => ⟨(Two.new w _ _ 25).below hb, ((Below.refl _ _).alloc (Nat.le_refl _) _).trans (hb.mono (base_le (Nat.le_refl _) _))⟩
  have HS : Hid (∀ z, look l x = some z → getV l x = z ∧ fnd (nmsOf l) x = true) := fun z h => getV_some hs h
  have HN : Hid (look l x = none → getV l x = 0 ∧ fnd (nmsOf l) x = false) := fun h => getV_none hs h
  have HD : Hid (∀ i, i < l.length → look (l.drop i) x = if (nmsOf l).getD i emp = x then some ((valsOf l).getD i 0) else look (l.drop (i + 1)) x) := fun i hi => look_drop hi x
  have HZ : Hid (look (l.drop l.length) x = none) := by show look _ _ = _; rw [List.drop_length]; rfl
  have HI0 : Hid (look l x = look (l.drop 0) x) := rfl
  clear h1 h2 hcell hcell2 hs
  generalize getV l x = gv at *
  generalize fnd (nmsOf l) x = F at *
  generalize look l x = LK at *
  generalize hN : l.length = N at *
  go_enter Try.func22, Try.ntmps22
  go_wp2
  go_loopw [6] (fun s6 wr => ∃ i : Nat, i ≤ N ∧ s6 = .int .i64 i ∧ Hid (LK = look (l.drop i) x) ∧ Hid (Below (w.alloc (.cells #[.slice a N c, .slice b N d] 25)).heap.size (w.alloc (.cells #[.slice a N c, .slice b N d] 25)) wr)) (fun s6 _ => N - (intOf s6).toNat)
  case atStart => exact ⟨0, Nat.zero_le _, rfl, HI0, Below.refl _ _⟩
  case round =>
    obtain ⟨i, hi, rfl, HI, HB⟩ := hrel
    obtain ⟨⟨t4, t0, t1, t2, t3⟩, hBw⟩ := HT.out _ HB.out
    have HBw : Hid (Below w.heap.size w wr) := hBw
    by_cases hlt : i < N
    · obtain ⟨g, off, rfl, hg, hc⟩ := HC.out i hlt
      obtain ⟨g2, off2, rfl, hg2, hc2⟩ := HC2.out i hlt
      have cm := (hBw.cell (p := ⟨g, off + i, none⟩) hg).trans hc
      have cm2 := (hBw.cell (p := ⟨g2, off2 + i, none⟩) hg2).trans hc2
      have HI2 : Hid (LK = if (nmsOf l).getD i emp = x then some ((valsOf l).getD i 0) else look (l.drop (i + 1)) x) := HI.out.trans (HD.out i hlt)
      have HB2 := HB
      clear HC HC2 hc hc2 HI hBw HB HD HZ HI0
      generalize (nmsOf l).getD i emp = y at *
      generalize (valsOf l).getD i 0 = z at *
      by_cases hyx : y = x
      · subst hyx
        have HE : Hid (gv = z ∧ F = true) := HS.out z (by rw [HI2.out, if_pos rfl])
        clear HS HN HI2
        go_wp2
        go_ret2
        exact ⟨by rw [HE.out.1, HE.out.2]; rfl, HBw.out⟩
      · have hne : (y.toList == x.toList) = false := by rw [beq_eq_false_iff_ne]; exact fun h => hyx (ba_ext h)
        have HI3 : Hid (LK = look (l.drop (i + 1)) x) := by show _ = _; rw [HI2.out, if_neg hyx]
        clear HS HN HI2
        go_wp2
        go_roundw
        case rel => exact ⟨i + 1, by omega, by go_num, HI3, HB2⟩
        case measure => simp [intOf]; omega
    · have e : i = N := by omega
      have e' : N = i := e.symm
      clear e
      subst e'
      have HE : Hid (gv = 0 ∧ F = false) := HN.out (HI.out.trans HZ.out)
      clear HI HC HC2 HS HN HB hBw HD HZ HI0
      go_wp2
      go_ret2
      exact ⟨by rw [HE.out.1, HE.out.2]; rfl, HBw.out⟩
end Go.Proofs.Ytekhfepfaegpaaa
