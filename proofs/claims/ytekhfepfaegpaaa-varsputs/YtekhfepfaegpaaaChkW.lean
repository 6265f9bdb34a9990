/-
  VarsChecks: the walk.
-/
import Derived.Test.YtekhfepfaegpaaaRChk
namespace Go.Proofs.Ytekhfepfaegpaaa
open Go.RowKit Pack
set_option linter.unusedVariables false

/-- The slices of variables as a value. -/
theorem RdV.two {w : World} {v : Value} {ns : List ByteArray} {vs : List Int} (h : RdV w v ns vs) : ∃ a1 c1 a2 c2, v = .agg #[.slice a1 ns.length c1, .slice a2 vs.length c2] := by
  obtain ⟨sn, sv, rfl, h1, h2⟩ := h
  obtain ⟨a1, c1, rfl⟩ := h1.form
  obtain ⟨a2, c2, rfl⟩ := h2.form
  rw [strsV_len, intsV_len]
  exact ⟨a1, c1, a2, c2, rfl⟩
theorem copy_form (ns : List ByteArray) (vs : List Int) (v : Value) (w : World) (hv : RdV w v ns vs) (hs : ∀ m ∈ ns, m.size ≤ 281474976710656) (hl : ns.length ≤ 1000000) (hl2 : vs.length ≤ 1000000) : Calls Try.prog 14 #[v] w fun e w' => ∃ a1 c1 a2 c2, e = .returned (.agg #[.slice a1 ns.length c1, .slice a2 vs.length c2]) ∧ RdV w' (.agg #[.slice a1 ns.length c1, .slice a2 vs.length c2]) ns vs ∧ Below w.heap.size w w' := by
  refine (Copy_any ns vs v w hv hs hl hl2).mono ?_
  rintro e w' ⟨r, rfl, h1, hb⟩
  obtain ⟨a1, c1, a2, c2, rfl⟩ := h1.two
  exact ⟨a1, c1, a2, c2, rfl, h1, hb⟩
set_option maxRecDepth 100000 in
set_option maxHeartbeats 4000000 in
theorem chk_walk (ns ms : List ByteArray) (vs us : List Int) (v u : Value) (w : World) (hv : Came w v ns vs) (hu : Came w u ms us) : Calls Try.prog 3 #[v, u] w fun e w' => e = .returned (.bool true) ∧ Below w.heap.size w w' := by
  have hV := hv.rd
  have hU := hu.rd
  obtain ⟨a1, c1, a2, c2, rfl⟩ := hV.two
  obtain ⟨a3, c3, a4, c4, rfl⟩ := hU.two
  have HWk : Hid (∀ w, Calls Try.prog 9 #[] w fun e w' => e = .returned (.bool true) ∧ Below w.heap.size w w') := works_any
  obtain ⟨W0, hW0⟩ : ∃ W, W = (w.alloc (.cells #[.slice a1 ns.length c1, .slice a2 vs.length c2] 25)).alloc (.cells #[.slice a3 ms.length c3, .slice a4 us.length c4] 25) := ⟨_, rfl⟩
  have HB0 : Hid (Below w.heap.size w W0) := by show Below _ _ _; rw [hW0]; exact below_alloc (below_alloc (Below.refl _ _) (Nat.le_refl _) _) (Nat.le_refl _) _
  have HT : Hid (∀ w', Below W0.heap.size W0 w' → Two w' w.heap.size (.slice a1 ns.length c1) (.slice a2 vs.length c2) ∧ Two w' (w.heap.size + 1) (.slice a3 ms.length c3) (.slice a4 us.length c4) ∧ Below w.heap.size w w') := fun w' hb => by
    have t1 : Two W0 w.heap.size (.slice a1 ns.length c1) (.slice a2 vs.length c2) := by rw [hW0]; exact (Two.new w _ _ 25).alloc _
    have t2 : Two W0 (w.heap.size + 1) (.slice a3 ms.length c3) (.slice a4 us.length c4) := by
      have h := Two.new (w.alloc (.cells #[.slice a1 ns.length c1, .slice a2 vs.length c2] 25)) (.slice a3 ms.length c3) (.slice a4 us.length c4) 25
      rw [size_alloc] at h
      rw [hW0]; exact h
    exact ⟨t1.below hb, t2.below hb, HB0.out.trans (hb.mono HB0.out.size)⟩
  have HL1 : Hid (∀ w', Below w.heap.size w w' → Calls Try.prog 8 #[.agg #[.slice a1 ns.length c1, .slice a2 vs.length c2]] w' fun e w2 => e = .returned (.bool (lightM ns vs)) ∧ Below w'.heap.size w' w2) := fun w' hb => light_any _ _ _ w' (hV.below hb) hv.sz
  have HL2 : Hid (∀ w', Below w.heap.size w w' → Calls Try.prog 8 #[.agg #[.slice a3 ms.length c3, .slice a4 us.length c4]] w' fun e w2 => e = .returned (.bool (lightM ms us)) ∧ Below w'.heap.size w' w2) := fun w' hb => light_any _ _ _ w' (hU.below hb) hu.sz
  cases hl1 : lightM ns vs with
  | false =>
    rw [hl1] at HL1
    clear hv hu hV hU hl1 HL2
    generalize ns.length = n1 at *
    generalize vs.length = n2 at *
    generalize ms.length = n3 at *
    generalize us.length = n4 at *
    go_enter Try.func3, Try.ntmps3
    go_wp2_with (first
      | (go_at_call 9; have := Z1; refine (HWk.out _).mono ?_; rintro e w2 ⟨rfl, HB⟩; have Z2 : Hid (Below w.heap.size w w2) := (HT.out _ Z1.out).2.2.trans (HB.mono (HT.out _ Z1.out).2.2.size); clear HB)
      | (go_at_call 8; rw [← hW0]; refine (HL1.out _ HB0.out).mono ?_; rintro e w1 ⟨rfl, HB⟩; have Z1 : Hid (Below W0.heap.size W0 w1) := HB; clear HB))
    go_ret
    exact ⟨rfl, Z2.out⟩
  | true =>
    rw [hl1] at HL1
    cases hl2 : lightM ms us with
    | false =>
      rw [hl2] at HL2
      clear hv hu hV hU hl1 hl2
      generalize ns.length = n1 at *
      generalize vs.length = n2 at *
      generalize ms.length = n3 at *
      generalize us.length = n4 at *
      go_enter Try.func3, Try.ntmps3
      go_wp2_with (first
        | (go_at_call 9; have := Z2; refine (HWk.out _).mono ?_; rintro e w3 ⟨rfl, HB⟩; have Z3 : Hid (Below w.heap.size w w3) := (HT.out _ Z2.out).2.2.trans (HB.mono (HT.out _ Z2.out).2.2.size); clear HB)
        | (go_at_call 8; have := Z1; refine (HL2.out _ (HT.out _ Z1.out).2.2).mono ?_; rintro e w2 ⟨rfl, HB⟩; have Z2 : Hid (Below W0.heap.size W0 w2) := Z1.out.trans (HB.mono Z1.out.size); clear HB Z1)
        | (go_at_call 8; rw [← hW0]; refine (HL1.out _ HB0.out).mono ?_; rintro e w1 ⟨rfl, HB⟩; have Z1 : Hid (Below W0.heap.size W0 w1) := HB; obtain ⟨_, ⟨p4, p0, p1, p2, p3⟩, _⟩ := HT.out _ HB; clear HB))
      go_ret
      exact ⟨rfl, Z3.out⟩
    | true =>
      rw [hl2] at HL2
      obtain ⟨z1, z2, z3⟩ := light_sz hl1
      have HC10 : Hid (∀ w', Below w.heap.size w w' → Calls Try.prog 10 #[.agg #[.slice a1 ns.length c1, .slice a2 vs.length c2]] w' fun e w2 => e = .returned (.int .i64 (chk ns vs : Nat)) ∧ Below w'.heap.size w' w2) := fun w' hb => Check_any _ _ _ w' (hV.below hb) hv.sz
      have HC11 : Hid (∀ w', Below w.heap.size w w' → Calls Try.prog 11 #[.agg #[.slice a1 ns.length c1, .slice a2 vs.length c2]] w' fun e w2 => e = .returned (.int .i64 (chk ns vs : Nat)) ∧ Below w'.heap.size w' w2) := fun w' hb => rCheck_any _ _ _ w' (hV.below hb) hv.sz
      have HC12 : Hid (∀ w', Below w.heap.size w w' → Calls Try.prog 12 #[.agg #[.slice a1 ns.length c1, .slice a2 vs.length c2], .agg #[.slice a3 ms.length c3, .slice a4 us.length c4]] w' fun e w2 => e = .returned (.bool (decide (ns = ms) && decide (vs = us))) ∧ Below w'.heap.size w' w2) := fun w' hb => Same_any _ _ _ _ _ _ w' (hV.below hb) (hU.below hb)
      have HC13 : Hid (∀ w', Below w.heap.size w w' → Calls Try.prog 13 #[.agg #[.slice a1 ns.length c1, .slice a2 vs.length c2], .agg #[.slice a3 ms.length c3, .slice a4 us.length c4]] w' fun e w2 => e = .returned (.bool (decide (ns = ms) && decide (vs = us))) ∧ Below w'.heap.size w' w2) := fun w' hb => rSame_any _ _ _ _ _ _ w' (hV.below hb) (hU.below hb)
      have HC14 : Hid (∀ w', Below w.heap.size w w' → Calls Try.prog 14 #[.agg #[.slice a1 ns.length c1, .slice a2 vs.length c2]] w' fun e w2 => ∃ b1 d1 b2 d2, e = .returned (.agg #[.slice b1 ns.length d1, .slice b2 vs.length d2]) ∧ RdV w2 (.agg #[.slice b1 ns.length d1, .slice b2 vs.length d2]) ns vs ∧ Below w'.heap.size w' w2) := fun w' hb => copy_form _ _ _ w' (hV.below hb) (fun m hm => by have := z3 m hm; omega) (by omega) (by omega)
      have HC13b : Hid (∀ w' R, RdV w' R ns vs → Below w.heap.size w w' → Calls Try.prog 13 #[R, .agg #[.slice a1 ns.length c1, .slice a2 vs.length c2]] w' fun e w2 => e = .returned (.bool true) ∧ Below w'.heap.size w' w2) := fun w' R hR hb => by
        have := rSame_any _ _ _ _ R _ w' hR (hV.below hb)
        simpa using this
      clear hv hu hV hU hl1 hl2 z1 z2 z3
      generalize (decide (ns = ms) && decide (vs = us)) = sb at *
      generalize chk ns vs = ck at *
      generalize hn1 : ns.length = n1 at *
      generalize hn2 : vs.length = n2 at *
      generalize ms.length = n3 at *
      generalize us.length = n4 at *
      go_enter Try.func3, Try.ntmps3
      go_wp2_with (first
        | (go_at_call 8; have := Z1; refine (HL2.out _ (HT.out _ Z1.out).2.2).mono ?_; rintro e w2 ⟨rfl, HB⟩; have Z2 : Hid (Below W0.heap.size W0 w2) := Z1.out.trans (HB.mono Z1.out.size); obtain ⟨⟨p4, p0, p1, p2, p3⟩, ⟨q4, q0, q1, q2, q3⟩, _⟩ := HT.out _ Z2.out; clear HB Z1)
        | (go_at_call 8; rw [← hW0]; refine (HL1.out _ HB0.out).mono ?_; rintro e w1 ⟨rfl, HB⟩; have Z1 : Hid (Below W0.heap.size W0 w1) := HB; obtain ⟨⟨p4, p0, p1, p2, p3⟩, ⟨q4, q0, q1, q2, q3⟩, _⟩ := HT.out _ HB; clear HB))
      have ZD : Hid (Below W0.heap.size W0 w2.drew) := Below.drew Z2.out
      go_region_held3 (fun w' => w'.cell? ⟨w.heap.size, 0, none⟩ = some (.slice a1 n1 c1) ∧ w'.cell? ⟨w.heap.size, 1, none⟩ = some (.slice a2 n2 c2) ∧ w'.cell? ⟨w.heap.size + 1, 0, none⟩ = some (.slice a3 n3 c3) ∧ w'.cell? ⟨w.heap.size + 1, 1, none⟩ = some (.slice a4 n4 c4)) (go_keep) (first
        | (go_at_call 9; have := ZE; refine (HWk.out _).mono ?_; rintro e wf ⟨rfl, HB⟩; have ZF : Hid (Below W0.heap.size W0 wf) := ZE.out.trans (HB.mono ZE.out.size); obtain ⟨⟨p4, p0, p1, p2, p3⟩, ⟨q4, q0, q1, q2, q3⟩, _⟩ := HT.out _ ZF.out; clear HB)
        | (go_at_call 13; have := ZC; refine (HC13b.out _ _ ZC.out.2 (HT.out _ ZC.out.1).2.2).mono ?_; rintro e we ⟨rfl, HB⟩; have ZE : Hid (Below W0.heap.size W0 we) := ZC.out.1.trans (HB.mono ZC.out.1.size); obtain ⟨⟨p4, p0, p1, p2, p3⟩, ⟨q4, q0, q1, q2, q3⟩, _⟩ := HT.out _ ZE.out; clear HB)
        | (go_at_call 14; refine (HC14.out _ (HT.out _ (by first | exact Y12.out | exact Y13.out)).2.2).mono ?_; rintro e wc ⟨b1, d1, b2, d2, rfl, HR, HB⟩; have ZC : Hid (Below W0.heap.size W0 wc ∧ RdV wc (.agg #[.slice b1 n1 d1, .slice b2 n2 d2]) ns vs) := ⟨by first | exact Y12.out.trans (HB.mono Y12.out.size) | exact Y13.out.trans (HB.mono Y13.out.size), HR⟩; obtain ⟨⟨p4, p0, p1, p2, p3⟩, ⟨q4, q0, q1, q2, q3⟩, _⟩ := HT.out _ ZC.out.1; clear HB HR)
        | (go_at_call 13; refine (HC13.out _ (HT.out _ (by first | exact Y12.out | exact Y10.out | exact Y11.out)).2.2).mono ?_; rintro e wy13 ⟨rfl, HB⟩; have Y13 : Hid (Below W0.heap.size W0 wy13) := (by first | exact Y12.out.trans (HB.mono Y12.out.size) | exact Y10.out.trans (HB.mono Y10.out.size) | exact Y11.out.trans (HB.mono Y11.out.size)); obtain ⟨⟨p4, p0, p1, p2, p3⟩, ⟨q4, q0, q1, q2, q3⟩, _⟩ := HT.out _ Y13.out; clear HB)
        | (go_at_call 12; refine (HC12.out _ (HT.out _ (by first | exact Y13.out | exact Y10.out | exact Y11.out)).2.2).mono ?_; rintro e wy12 ⟨rfl, HB⟩; have Y12 : Hid (Below W0.heap.size W0 wy12) := (by first | exact Y13.out.trans (HB.mono Y13.out.size) | exact Y10.out.trans (HB.mono Y10.out.size) | exact Y11.out.trans (HB.mono Y11.out.size)); obtain ⟨⟨p4, p0, p1, p2, p3⟩, ⟨q4, q0, q1, q2, q3⟩, _⟩ := HT.out _ Y12.out; clear HB)
        | (go_at_call 11; refine (HC11.out _ (HT.out _ (by first | exact Y10.out | exact ZD.out)).2.2).mono ?_; rintro e wy11 ⟨rfl, HB⟩; have Y11 : Hid (Below W0.heap.size W0 wy11) := (by first | exact Y10.out.trans (HB.mono Y10.out.size) | exact ZD.out.trans (HB.mono ZD.out.size)); obtain ⟨⟨p4, p0, p1, p2, p3⟩, ⟨q4, q0, q1, q2, q3⟩, _⟩ := HT.out _ Y11.out; clear HB)
        | (go_at_call 10; refine (HC10.out _ (HT.out _ (by first | exact Y11.out | exact ZD.out)).2.2).mono ?_; rintro e wy10 ⟨rfl, HB⟩; have Y10 : Hid (Below W0.heap.size W0 wy10) := (by first | exact Y11.out.trans (HB.mono Y11.out.size) | exact ZD.out.trans (HB.mono ZD.out.size)); obtain ⟨⟨p4, p0, p1, p2, p3⟩, ⟨q4, q0, q1, q2, q3⟩, _⟩ := HT.out _ Y10.out; clear HB))
      all_goals go_wp2
      all_goals
        (go_ret
         exact ⟨rfl, (HT.out _ ZF.out).2.2⟩)
end Go.Proofs.Ytekhfepfaegpaaa
