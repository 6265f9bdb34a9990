/-
  Contracts: Equal of texts, of numbers; Clone; Same; Get.
-/
import Derived.Test.YtekhfepfaegpaaaSm2
namespace Go.Proofs.Ytekhfepfaegpaaa
open Go.RowKit Pack
set_option linter.unusedVariables false

theorem drop_ne {α : Type} {l m : List α} {i : Nat} {d : α} (hi : i < l.length) (hm : l.length = m.length) (h : l.getD i d ≠ m.getD i d) : l ≠ m := fun e => h (by rw [e])
theorem drop_eq {α : Type} {l m : List α} (hm : l.length = m.length) (d : α) (h : ∀ t, t < l.length → l.getD t d = m.getD t d) : l = m := by
  apply List.ext_getElem hm
  intro i h1 h2
  have := h i h1
  simpa [List.getD_eq_getElem?_getD, List.getElem?_eq_getElem h1, List.getElem?_eq_getElem h2] using this
set_option maxRecDepth 100000 in
set_option maxHeartbeats 1000000 in
theorem equalS_any (l m : List ByteArray) (va vb : Value) (w : World) (ha : Rd w va (strsV l)) (hb : Rd w vb (strsV m)) : Calls Try.prog 30 #[va, vb] w fun e w' => e = .returned (.bool (decide (l = m))) ∧ Below w.heap.size w w' := by
  obtain ⟨a, c, rfl⟩ := ha.form
  obtain ⟨b, d, rfl⟩ := hb.form
  obtain ⟨_, hnc, hcm, _, hca⟩ := ha.at
  obtain ⟨_, hnd, hdm, _, hcb⟩ := hb.at
  rw [strsV_len] at *
  rw [strsV_len] at *
  have HA : Hid (∀ i, i < l.length → ∃ b off, a = some ⟨b, off, none⟩ ∧ b < w.heap.size ∧ w.cell? ⟨b, off + i, none⟩ = some (.string (l.getD i emp))) := fun i hi => hca i _ (strsV_at hi)
  have HB : Hid (∀ i, i < m.length → ∃ g off, b = some ⟨g, off, none⟩ ∧ g < w.heap.size ∧ w.cell? ⟨g, off + i, none⟩ = some (.string (m.getD i emp))) := fun i hi => hcb i _ (strsV_at hi)
  obtain ⟨R, HR⟩ : ∃ R, Hid (decide (l = m) = R) := ⟨_, rfl⟩
  rw [HR.out]
  clear ha hb hca hcb
  by_cases he : l.length = m.length
  · have HN : Hid (∀ i, i < l.length → l.getD i emp ≠ m.getD i emp → R = false) := fun i hi h => HR.out.symm.trans (decide_eq_false (drop_ne hi he h))
    have HY : Hid ((∀ t, t < l.length → l.getD t emp = m.getD t emp) → R = true) := fun h => HR.out.symm.trans (decide_eq_true (drop_eq he emp h))
    rw [← he] at HB hnd ⊢
    generalize l.length = N at *
    clear he
    go_enter Try.func30, Try.ntmps30
    go_wp2
    go_loopw [13] (fun v wr => ∃ i : Nat, i ≤ N ∧ v = .int .i64 i ∧ Hid (∀ t, t < i → l.getD t emp = m.getD t emp) ∧ Hid (Below w.heap.size w wr)) (fun v _ => N - (intOf v).toNat)
    case atStart => exact ⟨0, Nat.zero_le _, rfl, fun t ht => by omega, Below.refl _ _⟩
    case round =>
      obtain ⟨i, hi, rfl, HI, HW⟩ := hrel
      by_cases hlt : i < N
      · obtain ⟨g, o, rfl, hg, hc⟩ := HA.out i hlt
        obtain ⟨g2, o2, rfl, hg2, hc2⟩ := HB.out i hlt
        have c1 := (HW.out.cell (p := ⟨g, o + i, none⟩) hg).trans hc
        have c2 := (HW.out.cell (p := ⟨g2, o2 + i, none⟩) hg2).trans hc2
        have HN2 : Hid (l.getD i emp ≠ m.getD i emp → R = false) := HN.out i hlt
        have HI2 : Hid (l.getD i emp = m.getD i emp → ∀ t, t < i + 1 → l.getD t emp = m.getD t emp) := fun h t ht => by
          rcases Nat.lt_or_ge t i with h1 | h1
          · exact HI.out t h1
          · rw [show t = i by omega]; exact h
        clear HA HB hc hc2 HN HI
        generalize l.getD i emp = x at *
        generalize m.getD i emp = y at *
        have HD : Hid (Below w.heap.size w wr.drew) := Below.drew HW.out
        clear HW
        by_cases hxy : x = y
        · subst hxy
          have HI3 := HI2.out rfl
          have HI4 : Hid _ := HI3
          clear HI2 HI3 HN2
          go_wp2
          go_region
          go_wp2
          go_roundw
          case rel => exact ⟨i + 1, by omega, by go_num, HI4, HD⟩
          case measure => simp [intOf]; omega
        · have hne : (x.toList == y.toList) = false := by rw [beq_eq_false_iff_ne]; exact fun h => hxy (ba_ext h)
          have HE : Hid (R = false) := HN2.out hxy
          go_wp2
          go_region
          go_wp2
          go_ret
          exact ⟨by rw [HE.out]; rfl, HD.out⟩
      · have e : i = N := by omega
        subst e
        have HE : Hid (R = true) := HY.out HI.out
        have HW2 := HW
        clear HA HB HN HY HI HW
        go_wp2
        go_ret
        exact ⟨by rw [HE.out]; rfl, HW2.out⟩
  · have HE : Hid (R = false) := HR.out.symm.trans (decide_eq_false fun e => he (by rw [e]))
    have he2 : ¬ ((l.length : Int) = (m.length : Int)) := by omega
    clear HA HB
    generalize l.length = N at *
    generalize m.length = M at *
    go_enter Try.func30, Try.ntmps30
    go_wp2
    go_ret
    exact ⟨by rw [HE.out]; rfl, Below.refl _ _⟩
set_option maxRecDepth 100000 in
set_option maxHeartbeats 1000000 in
theorem equalI_any (l m : List Int) (va vb : Value) (w : World) (ha : Rd w va (intsV l)) (hb : Rd w vb (intsV m)) : Calls Try.prog 31 #[va, vb] w fun e w' => e = .returned (.bool (decide (l = m))) ∧ Below w.heap.size w w' := by
  obtain ⟨a, c, rfl⟩ := ha.form
  obtain ⟨b, d, rfl⟩ := hb.form
  obtain ⟨_, hnc, hcm, _, hca⟩ := ha.at
  obtain ⟨_, hnd, hdm, _, hcb⟩ := hb.at
  rw [intsV_len] at *
  rw [intsV_len] at *
  have HA : Hid (∀ i, i < l.length → ∃ b off, a = some ⟨b, off, none⟩ ∧ b < w.heap.size ∧ w.cell? ⟨b, off + i, none⟩ = some (.int .i64 (l.getD i 0))) := fun i hi => hca i _ (intsV_at hi)
  have HB : Hid (∀ i, i < m.length → ∃ g off, b = some ⟨g, off, none⟩ ∧ g < w.heap.size ∧ w.cell? ⟨g, off + i, none⟩ = some (.int .i64 (m.getD i 0))) := fun i hi => hcb i _ (intsV_at hi)
  obtain ⟨R, HR⟩ : ∃ R, Hid (decide (l = m) = R) := ⟨_, rfl⟩
  rw [HR.out]
  clear ha hb hca hcb
  by_cases he : l.length = m.length
  · have HN : Hid (∀ i, i < l.length → l.getD i 0 ≠ m.getD i 0 → R = false) := fun i hi h => HR.out.symm.trans (decide_eq_false (drop_ne hi he h))
    have HY : Hid ((∀ t, t < l.length → l.getD t 0 = m.getD t 0) → R = true) := fun h => HR.out.symm.trans (decide_eq_true (drop_eq he 0 h))
    rw [← he] at HB hnd ⊢
    generalize l.length = N at *
    clear he
    go_enter Try.func31, Try.ntmps31
    go_wp2
    go_loopw [13] (fun v wr => ∃ i : Nat, i ≤ N ∧ v = .int .i64 i ∧ Hid (∀ t, t < i → l.getD t 0 = m.getD t 0) ∧ Hid (Below w.heap.size w wr)) (fun v _ => N - (intOf v).toNat)
    case atStart => exact ⟨0, Nat.zero_le _, rfl, fun t ht => by omega, Below.refl _ _⟩
    case round =>
      obtain ⟨i, hi, rfl, HI, HW⟩ := hrel
      by_cases hlt : i < N
      · obtain ⟨g, o, rfl, hg, hc⟩ := HA.out i hlt
        obtain ⟨g2, o2, rfl, hg2, hc2⟩ := HB.out i hlt
        have c1 := (HW.out.cell (p := ⟨g, o + i, none⟩) hg).trans hc
        have c2 := (HW.out.cell (p := ⟨g2, o2 + i, none⟩) hg2).trans hc2
        have HN2 : Hid (l.getD i 0 ≠ m.getD i 0 → R = false) := HN.out i hlt
        have HI2 : Hid (l.getD i 0 = m.getD i 0 → ∀ t, t < i + 1 → l.getD t 0 = m.getD t 0) := fun h t ht => by
          rcases Nat.lt_or_ge t i with h1 | h1
          · exact HI.out t h1
          · rw [show t = i by omega]; exact h
        clear HA HB hc hc2 HN HI
        generalize l.getD i 0 = x at *
        generalize m.getD i 0 = y at *
        have HD : Hid (Below w.heap.size w wr.drew) := Below.drew HW.out
        clear HW
        by_cases hxy : x = y
        · subst hxy
          have HI3 := HI2.out rfl
          have HI4 : Hid _ := HI3
          clear HI2 HI3 HN2
          go_wp2
          go_region
          go_wp2
          go_roundw
          case rel => exact ⟨i + 1, by omega, by go_num, HI4, HD⟩
          case measure => simp [intOf]; omega
        · have HE : Hid (R = false) := HN2.out hxy
          go_wp2
          go_region
          go_wp2
          go_ret
          exact ⟨by rw [HE.out]; rfl, HD.out⟩
      · have e : i = N := by omega
        subst e
        have HE : Hid (R = true) := HY.out HI.out
        have HW2 := HW
        clear HA HB HN HY HI HW
        go_wp2
        go_ret
        exact ⟨by rw [HE.out]; rfl, HW2.out⟩
  · have HE : Hid (R = false) := HR.out.symm.trans (decide_eq_false fun e => he (by rw [e]))
    have he2 : ¬ ((l.length : Int) = (m.length : Int)) := by omega
    clear HA HB
    generalize l.length = N at *
    generalize m.length = M at *
    go_enter Try.func31, Try.ntmps31
    go_wp2
    go_ret
    exact ⟨by rw [HE.out]; rfl, Below.refl _ _⟩
end Go.Proofs.Ytekhfepfaegpaaa
