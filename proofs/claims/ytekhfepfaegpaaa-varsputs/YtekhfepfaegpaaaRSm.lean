/-
  The document's Check, Texts and Same: contracts.
-/
import Derived.Test.YtekhfepfaegpaaaRCk
namespace Go.Proofs.Ytekhfepfaegpaaa
open Go.RowKit Pack
set_option linter.unusedVariables false

set_option maxRecDepth 100000 in
set_option maxHeartbeats 1000000 in
theorem texts_any (l m : List ByteArray) (va vb : Value) (w : World) (ha : Rd w va (strsV l)) (hb : Rd w vb (strsV m)) : Calls Try.prog 32 #[va, vb] w fun e w' => e = .returned (.bool (decide (l = m))) ∧ Below w.heap.size w w' := by
  obtain ⟨a, c, rfl⟩ := ha.form
  obtain ⟨b, d, rfl⟩ := hb.form
  obtain ⟨_, hnc, hcm, _, hca⟩ := ha.at
  obtain ⟨_, hnd, hdm, _, hcb⟩ := hb.at
  rw [strsV_len] at *
  rw [strsV_len] at *
  have HA : Hid (∀ i, i < l.length → ∃ b off, a = some ⟨b, off, none⟩ ∧ b < w.heap.size ∧ w.cell? ⟨b, off + i, none⟩ = some (.string (l.getD i emp))) := fun i hi => hca i _ (strsV_at hi)
  have HB : Hid (∀ i, i < m.length → ∃ g off, b = some ⟨g, off, none⟩ ∧ g < w.heap.size ∧ w.cell? ⟨g, off + i, none⟩ = some (.string (m.getD i emp))) := fun i hi => hcb i _ (strsV_at hi)
  obtain ⟨R, HR⟩ : ∃ R, Hid (decide (l = m) = R) := ⟨_, rfl⟩
  rw [HR.out]
  clear ha hb hca hcb
  by_cases he : l.length = m.length
  · have HN : Hid (∀ i, i < l.length → l.getD i emp ≠ m.getD i emp → R = false) := fun i hi h => HR.out.symm.trans (decide_eq_false (drop_ne hi he h))
    have HY : Hid ((∀ t, t < l.length → l.getD t emp = m.getD t emp) → R = true) := fun h => HR.out.symm.trans (decide_eq_true (drop_eq he emp h))
    rw [← he] at HB hnd ⊢
    generalize l.length = N at *
    clear he
    go_enter Try.func32, Try.ntmps32
    go_wp2
    go_loopw [5] (fun v wr => ∃ i : Nat, i ≤ N ∧ v = .int .i64 i ∧ Hid (∀ t, t < i → l.getD t emp = m.getD t emp) ∧ Hid (Below w.heap.size w wr)) (fun v _ => N - (intOf v).toNat)
    case atStart => exact ⟨0, Nat.zero_le _, rfl, fun t ht => by omega, Below.refl _ _⟩
    case round =>
      obtain ⟨i, hi, rfl, HI, HW⟩ := hrel
      by_cases hlt : i < N
      · obtain ⟨g, o, rfl, hg, hc⟩ := HA.out i hlt
        obtain ⟨g2, o2, rfl, hg2, hc2⟩ := HB.out i hlt
        have c1 := (HW.out.cell (p := ⟨g, o + i, none⟩) hg).trans hc
        have c2 := (HW.out.cell (p := ⟨g2, o2 + i, none⟩) hg2).trans hc2
        have HN2 : Hid (l.getD i emp ≠ m.getD i emp → R = false) := HN.out i hlt
        have HI2 : Hid (l.getD i emp = m.getD i emp → ∀ t, t < i + 1 → l.getD t emp = m.getD t emp) := fun h t ht => by
          rcases Nat.lt_or_ge t i with h1 | h1
          · exact HI.out t h1
          · rw [show t = i by omega]; exact h
        clear HA HB hc hc2 HN HI
        generalize l.getD i emp = x at *
        generalize m.getD i emp = y at *
        have HD : Hid (Below w.heap.size w wr.drew) := Below.drew HW.out
        clear HW
        by_cases hxy : x = y
        · subst hxy
          have HI3 := HI2.out rfl
          have HI4 : Hid _ := HI3
          clear HI2 HI3 HN2
          go_wp2
          go_region
          go_wp2
          go_roundw
          case rel => exact ⟨i + 1, by omega, by go_num, HI4, HD⟩
          case measure => simp [intOf]; omega
        · have hne : (x.toList == y.toList) = false := by rw [beq_eq_false_iff_ne]; exact fun h => hxy (ba_ext h)
          have HE : Hid (R = false) := HN2.out hxy
          go_wp2
          go_region
          go_wp2
          go_ret
          exact ⟨by rw [HE.out]; rfl, HD.out⟩
      · have e : i = N := by omega
        subst e
        have HE : Hid (R = true) := HY.out HI.out
        have HW2 := HW
        clear HA HB HN HY HI HW
        go_wp2
        go_ret
        exact ⟨by rw [HE.out]; rfl, HW2.out⟩
  · have HE : Hid (R = false) := HR.out.symm.trans (decide_eq_false fun e => he (by rw [e]))
    have he2 : ¬ ((l.length : Int) = (m.length : Int)) := by omega
    clear HA HB
    generalize l.length = N at *
    generalize m.length = M at *
    go_enter Try.func32, Try.ntmps32
    go_wp2
    go_ret
    exact ⟨by rw [HE.out]; rfl, Below.refl _ _⟩

set_option maxRecDepth 100000 in
set_option maxHeartbeats 2000000 in
theorem rSame_any (ns ms : List ByteArray) (vs us : List Int) (v u : Value) (w : World) (hv : RdV w v ns vs) (hu : RdV w u ms us) : Calls Try.prog 13 #[v, u] w fun e w' => e = .returned (.bool (decide (ns = ms) && decide (vs = us))) ∧ Below w.heap.size w w' := by
  obtain ⟨s1, s2, rfl, h1, h2⟩ := hv
  obtain ⟨s3, s4, rfl, h3, h4⟩ := hu
  have k2 := h2
  have k4 := h4
  obtain ⟨a1, n1, c1, rfl⟩ : ∃ a n c, s1 = .slice a n c := by obtain ⟨a, c, h⟩ := h1.form; exact ⟨_, _, _, h⟩
  obtain ⟨a3, n3, c3, rfl⟩ : ∃ a n c, s3 = .slice a n c := by obtain ⟨a, c, h⟩ := h3.form; exact ⟨_, _, _, h⟩
  obtain ⟨a2, c2, rfl⟩ := h2.form
  obtain ⟨a4, c4, rfl⟩ := h4.form
  obtain ⟨_, hk2, hm2, _, e2⟩ := h2.at
  obtain ⟨_, hk4, hm4, _, e4⟩ := h4.at
  simp only [intsV_len] at *
  have H1 : Hid (∀ w', Below w.heap.size w w' → Calls Try.prog 32 #[.slice a1 n1 c1, .slice a3 n3 c3] w' fun e w2 => e = .returned (.bool (decide (ns = ms))) ∧ Below w'.heap.size w' w2) := fun w' hb => texts_any ns ms _ _ w' (h1.below hb) (h3.below hb)
  have HB0 : Hid (Below w.heap.size w ((w.alloc (.cells #[.slice a1 n1 c1, .slice a2 vs.length c2] 25)).alloc (.cells #[.slice a3 n3 c3, .slice a4 us.length c4] 25))) := ((Below.refl _ _).alloc (Nat.le_refl _) _).alloc (base_le (Nat.le_refl _) _) _
  have HT : Hid (∀ w', Below ((w.alloc (.cells #[.slice a1 n1 c1, .slice a2 vs.length c2] 25)).alloc (.cells #[.slice a3 n3 c3, .slice a4 us.length c4] 25)).heap.size ((w.alloc (.cells #[.slice a1 n1 c1, .slice a2 vs.length c2] 25)).alloc (.cells #[.slice a3 n3 c3, .slice a4 us.length c4] 25)) w' → Two w' w.heap.size (.slice a1 n1 c1) (.slice a2 vs.length c2) ∧ Two w' (w.heap.size + 1) (.slice a3 n3 c3) (.slice a4 us.length c4) ∧ Below w.heap.size w w') := fun w' hb => by
    refine ⟨((Two.new w _ _ 25).alloc _).below hb, ?_, HB0.out.trans (hb.mono HB0.out.size)⟩
    have := (Two.new (w.alloc (.cells #[.slice a1 n1 c1, .slice a2 vs.length c2] 25)) (.slice a3 n3 c3) (.slice a4 us.length c4) 25).below hb
    rwa [size_alloc] at this
  obtain ⟨R, HR⟩ : ∃ R, Hid ((decide (ns = ms) && decide (vs = us)) = R) := ⟨_, rfl⟩
  rw [HR.out]
  cases hq : decide (ns = ms) with
  | false =>
    have HE : Hid (R = false) := by show R = _; rw [← HR.out, hq]; rfl
    rw [hq] at H1
    clear hq h1 h2 h3 h4 k2 k4 e2 e4
    generalize vs.length = N at *
    generalize us.length = M at *
    go_enter Try.func13, Try.ntmps13
    go_wp2_with (go_at_call 32; refine (H1.out _ HB0.out).mono ?_; rintro e w1 ⟨rfl, HB⟩)
    go_ret
    exact ⟨by rw [HE.out]; rfl, HB0.out.trans (HB.mono HB0.out.size)⟩
  | true =>
    rw [hq] at H1
    have HR2 : Hid (decide (vs = us) = R) := by show _ = R; rw [← HR.out, hq]; rfl
    by_cases he : vs.length = us.length
    · have HA : Hid (∀ i, i < vs.length → ∃ b off, a2 = some ⟨b, off, none⟩ ∧ b < w.heap.size ∧ w.cell? ⟨b, off + i, none⟩ = some (.int .i64 (vs.getD i 0))) := fun i hi => e2 i _ (intsV_at hi)
      have HBb : Hid (∀ i, i < vs.length → ∃ g off, a4 = some ⟨g, off, none⟩ ∧ g < w.heap.size ∧ w.cell? ⟨g, off + i, none⟩ = some (.int .i64 (us.getD i 0))) := fun i hi => e4 i _ (intsV_at (by omega))
      have HN : Hid (∀ i, i < vs.length → vs.getD i 0 ≠ us.getD i 0 → R = false) := fun i hi h => HR2.out.symm.trans (decide_eq_false (drop_ne hi he h))
      have HY : Hid ((∀ t, t < vs.length → vs.getD t 0 = us.getD t 0) → R = true) := fun h => HR2.out.symm.trans (decide_eq_true (drop_eq he 0 h))
      rw [← he] at HB0 HT hk4 ⊢
      clear hq h1 h2 h3 h4 k2 k4 e2 e4 he HR HR2
      generalize vs.length = N at *
      go_enter Try.func13, Try.ntmps13
      go_wp2_with (go_at_call 32; refine (H1.out _ HB0.out).mono ?_; rintro e w1 ⟨rfl, HB⟩; have HB1 : Hid (Below ((w.alloc (.cells #[.slice a1 n1 c1, .slice a2 N c2] 25)).alloc (.cells #[.slice a3 n3 c3, .slice a4 N c4] 25)).heap.size ((w.alloc (.cells #[.slice a1 n1 c1, .slice a2 N c2] 25)).alloc (.cells #[.slice a3 n3 c3, .slice a4 N c4] 25)) w1) := HB; obtain ⟨⟨p4, p0, p1, p2, p3⟩, ⟨q4, q0, q1, q2, q3⟩, _⟩ := HT.out _ HB; clear HB)
      go_loopw [5] (fun v wr => ∃ i : Nat, i ≤ N ∧ v = .int .i64 i ∧ Hid (∀ t, t < i → vs.getD t 0 = us.getD t 0) ∧ Hid (Below ((w.alloc (.cells #[.slice a1 n1 c1, .slice a2 N c2] 25)).alloc (.cells #[.slice a3 n3 c3, .slice a4 N c4] 25)).heap.size ((w.alloc (.cells #[.slice a1 n1 c1, .slice a2 N c2] 25)).alloc (.cells #[.slice a3 n3 c3, .slice a4 N c4] 25)) wr)) (fun v _ => N - (intOf v).toNat)
      case atStart => exact ⟨0, Nat.zero_le _, rfl, fun t ht => by omega, HB1⟩
      case round =>
        obtain ⟨i, hi, rfl, HI, HW⟩ := hrel
        obtain ⟨⟨p4, p0, p1, p2, p3⟩, ⟨q4, q0, q1, q2, q3⟩, hBw⟩ := HT.out _ HW.out
        by_cases hlt : i < N
        · obtain ⟨g, o, rfl, hg, hc⟩ := HA.out i hlt
          obtain ⟨g2, o2, rfl, hg2, hc2⟩ := HBb.out i hlt
          have d1 := (hBw.cell (p := ⟨g, o + i, none⟩) hg).trans hc
          have d2 := (hBw.cell (p := ⟨g2, o2 + i, none⟩) hg2).trans hc2
          have HN2 : Hid (vs.getD i 0 ≠ us.getD i 0 → R = false) := HN.out i hlt
          have HI2 : Hid (vs.getD i 0 = us.getD i 0 → ∀ t, t < i + 1 → vs.getD t 0 = us.getD t 0) := fun h t ht => by
            rcases Nat.lt_or_ge t i with h1 | h1
            · exact HI.out t h1
            · rw [show t = i by omega]; exact h
          have HWd : Hid (Below w.heap.size w wr.drew) := Below.drew hBw
          have HD : Hid (Below ((w.alloc (.cells #[.slice a1 n1 c1, .slice (some ⟨g, o, none⟩) N c2] 25)).alloc (.cells #[.slice a3 n3 c3, .slice (some ⟨g2, o2, none⟩) N c4] 25)).heap.size ((w.alloc (.cells #[.slice a1 n1 c1, .slice (some ⟨g, o, none⟩) N c2] 25)).alloc (.cells #[.slice a3 n3 c3, .slice (some ⟨g2, o2, none⟩) N c4] 25)) wr.drew) := Below.drew HW.out
          clear HA HBb hc hc2 HN HI HW hBw HY HB1 HB0 H1
          generalize vs.getD i 0 = x at *
          generalize us.getD i 0 = y at *
          by_cases hxy : x = y
          · subst hxy
            have HI3 := HI2.out rfl
            have HI4 : Hid _ := HI3
            clear HI2 HI3 HN2
            go_wp2
            go_region
            go_wp2
            go_roundw
            case rel => exact ⟨i + 1, by omega, by go_num, HI4, HD⟩
            case measure => simp [intOf]; omega
          · have HE : Hid (R = false) := HN2.out hxy
            clear HI2 HN2
            go_wp2
            go_region
            go_wp2
            go_ret
            exact ⟨by rw [HE.out]; rfl, HWd.out⟩
        · have e : i = N := by omega
          have e' : N = i := e.symm
          clear e
          subst e'
          have HE : Hid (R = true) := HY.out HI.out
          have HBw : Hid (Below w.heap.size w wr) := hBw
          clear HA HBb HN HY HI HW hBw
          go_wp2
          go_ret
          exact ⟨by rw [HE.out]; rfl, HBw.out⟩
    · have HE : Hid (R = false) := HR2.out.symm.trans (decide_eq_false fun e => he (by rw [e]))
      have he2 : ¬ ((vs.length : Int) = (us.length : Int)) := by omega
      clear hq h1 h2 h3 h4 k2 k4 e2 e4 HR HR2
      generalize vs.length = N at *
      generalize us.length = M at *
      go_enter Try.func13, Try.ntmps13
      go_wp2_with (go_at_call 32; refine (H1.out _ HB0.out).mono ?_; rintro e w1 ⟨rfl, HB⟩; have HB1 : Hid (Below w.heap.size w w1) := HB0.out.trans (HB.mono HB0.out.size); obtain ⟨⟨p4, p0, p1, p2, p3⟩, ⟨q4, q0, q1, q2, q3⟩, _⟩ := HT.out _ HB; clear HB)
      go_ret
      exact ⟨by rw [HE.out]; rfl, HB1.out⟩
end Go.Proofs.Ytekhfepfaegpaaa
