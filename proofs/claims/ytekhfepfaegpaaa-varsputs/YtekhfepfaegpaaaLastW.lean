/-
  VarsLast: the walk.
-/
import Derived.Test.YtekhfepfaegpaaaLastM
namespace Go.Proofs.Ytekhfepfaegpaaa
open Go.RowKit Pack
set_option linter.unusedVariables false

/-- Of two variables in a new list. -/
theorem of2_form {w : World} {x y : VP} {s1 s2 s3 s4 : Value} {ec : Nat} {R : VL} (h1 : RdV w (.agg #[s1, s2]) x.1 x.2) (h2 : RdV w (.agg #[s3, s4]) y.1 y.2) (hx : ∀ n ∈ x.1, n.size ≤ 60) (hy : ∀ n ∈ y.1, n.size ≤ 60) (hm : ofM [x, y] = (ec, R)) :
    Calls Try.prog 15 #[.slice (some ⟨w.heap.size, 0, none⟩) 2 2] (w.alloc (.cells #[s1, s2, s3, s4] 25)) fun e w' => ∃ b1 d1 b2 d2, e = .returned (.tuple #[.agg #[.slice b1 R.length d1, .slice b2 R.length d2], .int .i64 ec]) ∧ RdV w' (.agg #[.slice b1 R.length d1, .slice b2 R.length d2]) (nmsOf R) (valsOf R) ∧ Below w.heap.size w w' := by
  obtain ⟨t1, t2, e1, r1, r2⟩ := h1
  obtain ⟨t3, t4, e2, r3, r4⟩ := h2
  simp only [Value.agg.injEq, Array.mk.injEq, List.cons.injEq, and_true] at e1 e2
  obtain ⟨rfl, rfl⟩ := e1
  obtain ⟨rfl, rfl⟩ := e2
  have h := Of_any [x, y] _ _ (RdL.new2 (x := x) (y := y) r1 r2 r3 r4) (by
    intro q hq n hn
    simp at hq
    rcases hq with rfl | rfl
    · have := hx n hn; omega
    · have := hy n hn; omega) (by simp)
  refine h.mono ?_
  rintro e w' ⟨r, rfl, h7, hb⟩
  rw [hm] at h7 ⊢
  obtain ⟨b1, d1, b2, d2, rfl, hn⟩ := h7.read.num
  exact ⟨b1, d1, b2, d2, rfl, hn, ((Below.refl _ _).alloc (Nat.le_refl _) _).trans (hb.mono (base_le (Nat.le_refl _) _))⟩
theorem diff_form {w : World} {x y : VP} {v u : Value} {ec : Nat} {R : VL} (h1 : RdV w v x.1 x.2) (h2 : RdV w u y.1 y.2) (hx : ∀ n ∈ x.1, n.size ≤ 60) (hy : ∀ n ∈ y.1, n.size ≤ 60) (hm : diffM x y = (ec, R)) :
    Calls Try.prog 19 #[v, u] w fun e w' => ∃ b1 d1 b2 d2, e = .returned (.tuple #[.agg #[.slice b1 R.length d1, .slice b2 R.length d2], .int .i64 ec]) ∧ RdV w' (.agg #[.slice b1 R.length d1, .slice b2 R.length d2]) (nmsOf R) (valsOf R) ∧ Below w.heap.size w w' := by
  refine (Diff_any x y v u w h1 h2 (fun n hn => by have := hx n hn; omega) (fun n hn => by have := hy n hn; omega)).mono ?_
  rintro e w' ⟨r, rfl, h7, hb⟩
  rw [hm] at h7 ⊢
  obtain ⟨b1, d1, b2, d2, rfl, hn⟩ := h7.read.num
  exact ⟨b1, d1, b2, d2, rfl, hn, hb⟩
theorem var_sz {A : VL} (h : ∀ p ∈ A, isVar p.1 = true) : ∀ n ∈ nmsOf A, n.size ≤ 60 := fun n hn => by
  obtain ⟨p, hp, rfl⟩ := List.mem_map.1 hn
  have := (isVar_pos (h p hp)).2
  omega
set_option maxRecDepth 100000 in
set_option maxHeartbeats 2000000 in
theorem last_walk (ns ms : List ByteArray) (vs us : List Int) (v u : Value) (nm0 : ByteArray) (w : World) (hv : Came w v ns vs) (hu : Came w u ms us) (hn0 : nm0.size ≤ 9223372036854775807) : Calls Try.prog 7 #[v, u, .string nm0] w fun e w' => e = .returned (.bool true) ∧ Below w.heap.size w w' := by
  have hV := hv.rd
  have hU := hu.rd
  obtain ⟨a1, c1, a2, c2, rfl⟩ := hV.two
  obtain ⟨a3, c3, a4, c4, rfl⟩ := hU.two
  have HWk : Hid (∀ w, Calls Try.prog 9 #[] w fun e w' => e = .returned (.bool true) ∧ Below w.heap.size w w') := works_any
  obtain ⟨W0, hW0⟩ : ∃ W, W = (w.alloc (.cells #[.slice a1 ns.length c1, .slice a2 vs.length c2] 25)).alloc (.cells #[.slice a3 ms.length c3, .slice a4 us.length c4] 25) := ⟨_, rfl⟩
  have HB0 : Hid (Below w.heap.size w W0) := by show Below _ _ _; rw [hW0]; exact below_alloc (below_alloc (Below.refl _ _) (Nat.le_refl _) _) (Nat.le_refl _) _
  have HT : Hid (∀ w', Below W0.heap.size W0 w' → Two w' w.heap.size (.slice a1 ns.length c1) (.slice a2 vs.length c2) ∧ Two w' (w.heap.size + 1) (.slice a3 ms.length c3) (.slice a4 us.length c4) ∧ Below w.heap.size w w' ∧ RdV w' (.agg #[.slice a1 ns.length c1, .slice a2 vs.length c2]) ns vs ∧ RdV w' (.agg #[.slice a3 ms.length c3, .slice a4 us.length c4]) ms us) := fun w' hb => by
    have t1 : Two W0 w.heap.size (.slice a1 ns.length c1) (.slice a2 vs.length c2) := by rw [hW0]; exact (Two.new w _ _ 25).alloc _
    have t2 : Two W0 (w.heap.size + 1) (.slice a3 ms.length c3) (.slice a4 us.length c4) := by
      have h := Two.new (w.alloc (.cells #[.slice a1 ns.length c1, .slice a2 vs.length c2] 25)) (.slice a3 ms.length c3) (.slice a4 us.length c4) 25
      rw [size_alloc] at h
      rw [hW0]; exact h
    have b1 := HB0.out.trans (hb.mono HB0.out.size)
    exact ⟨t1.below hb, t2.below hb, b1, hV.below b1, hU.below b1⟩
  have HBr : Hid (Below W0.heap.size W0 W0) := Below.refl _ _
  have HL1 : Hid (∀ w', Below W0.heap.size W0 w' → Calls Try.prog 8 #[.agg #[.slice a1 ns.length c1, .slice a2 vs.length c2]] w' fun e w2 => e = .returned (.bool (lightM ns vs)) ∧ Below w'.heap.size w' w2) := fun w' hb => light_any _ _ _ w' (HT.out _ hb).2.2.2.1 hv.sz
  have HL2 : Hid (∀ w', Below W0.heap.size W0 w' → Calls Try.prog 8 #[.agg #[.slice a3 ms.length c3, .slice a4 us.length c4]] w' fun e w2 => e = .returned (.bool (lightM ms us)) ∧ Below w'.heap.size w' w2) := fun w' hb => light_any _ _ _ w' (HT.out _ hb).2.2.2.2 hu.sz
  cases hl1 : lightM ns vs with
  | false =>
    rw [hl1] at HL1
    clear hv hu hV hU hl1 HL2
    generalize hn1 : ns.length = n1 at *
    generalize hn2 : vs.length = n2 at *
    generalize hn3 : ms.length = n3 at *
    generalize hn4 : us.length = n4 at *
    go_enter Try.func7, Try.ntmps7
    go_wp2_with (first
      | (go_at_call 9; have := Z1; refine (HWk.out _).mono ?_; rintro e wf ⟨rfl, HB⟩; have ZF : Hid (Below W0.heap.size W0 wf) := Z1.out.trans (HB.mono Z1.out.size); clear HB Z1)
      | (go_at_call 8; rw [← hW0]; refine (HL1.out _ HBr.out).mono ?_; rintro e w1 ⟨rfl, HB⟩; have Z1 : Hid (Below W0.heap.size W0 w1) := HB; obtain ⟨⟨p4, p0, p1, p2, p3⟩, ⟨q4, q0, q1, q2, q3⟩, _⟩ := HT.out _ HB; clear HB))
    go_ret
    exact ⟨rfl, (HT.out _ ZF.out).2.2.1⟩
  | true =>
    rw [hl1] at HL1
    cases hl2 : lightM ms us with
    | false =>
      rw [hl2] at HL2
      clear hv hu hV hU hl1 hl2
      generalize hn1 : ns.length = n1 at *
      generalize hn2 : vs.length = n2 at *
      generalize hn3 : ms.length = n3 at *
      generalize hn4 : us.length = n4 at *
      go_enter Try.func7, Try.ntmps7
      go_wp2_with (first
        | (go_at_call 9; have := Z2; refine (HWk.out _).mono ?_; rintro e wf ⟨rfl, HB⟩; have ZF : Hid (Below W0.heap.size W0 wf) := Z2.out.trans (HB.mono Z2.out.size); clear HB Z2)
        | (go_at_call 8; have := Z1; refine (HL2.out _ Z1.out).mono ?_; rintro e w2 ⟨rfl, HB⟩; have Z2 : Hid (Below W0.heap.size W0 w2) := Z1.out.trans (HB.mono Z1.out.size); obtain ⟨⟨p4, p0, p1, p2, p3⟩, ⟨q4, q0, q1, q2, q3⟩, _⟩ := HT.out _ Z2.out; clear HB Z1)
        | (go_at_call 8; rw [← hW0]; refine (HL1.out _ HBr.out).mono ?_; rintro e w1 ⟨rfl, HB⟩; have Z1 : Hid (Below W0.heap.size W0 w1) := HB; obtain ⟨⟨p4, p0, p1, p2, p3⟩, ⟨q4, q0, q1, q2, q3⟩, _⟩ := HT.out _ HB; clear HB))
      go_ret
      exact ⟨rfl, (HT.out _ ZF.out).2.2.1⟩
    | true =>
      rw [hl2] at HL2
      by_cases h60 : nm0.size ≤ 60
      · obtain ⟨z1, z2, z3⟩ := light_sz hl1
        obtain ⟨y1, y2, y3⟩ := light_sz hl2
        obtain ⟨ec, A, hOf⟩ : ∃ ec A, ofM [(ns, vs), (ms, us)] = (ec, A) := ⟨_, _, rfl⟩
        have HO1 : Hid (∀ w', Below W0.heap.size W0 w' → Calls Try.prog 15 #[.slice (some ⟨w'.heap.size, 0, none⟩) 2 2] (w'.alloc (.cells #[.slice a1 ns.length c1, .slice a2 vs.length c2, .slice a3 ms.length c3, .slice a4 us.length c4] 25)) fun e w2 => ∃ b1 d1 b2 d2, e = .returned (.tuple #[.agg #[.slice b1 A.length d1, .slice b2 A.length d2], .int .i64 ec]) ∧ RdV w2 (.agg #[.slice b1 A.length d1, .slice b2 A.length d2]) (nmsOf A) (valsOf A) ∧ Below w'.heap.size w' w2) := fun w' hb => of2_form (x := (ns, vs)) (y := (ms, us)) (HT.out _ hb).2.2.2.1 (HT.out _ hb).2.2.2.2 z3 y3 hOf
        by_cases hec : ec = 0
        · subst hec
          obtain ⟨mv, mw, mA, vA, lA, mO2, mG, D, mD, vD, mO3⟩ := last_math hOf
          have hAsz := var_sz vA
          have hDsz := var_sz vD
          have HO2 : Hid (∀ w' g b1 d1 b2 d2, g = w'.heap.size → RdV w' (.agg #[.slice b1 A.length d1, .slice b2 A.length d2]) (nmsOf A) (valsOf A) → Below W0.heap.size W0 w' → Calls Try.prog 15 #[.slice (some ⟨g, 0, none⟩) 2 2] (w'.alloc (.cells #[.slice b1 A.length d1, .slice b2 A.length d2, .slice a3 ms.length c3, .slice a4 us.length c4] 25)) fun e w2 => ∃ e1 f1 e2 f2, e = .returned (.tuple #[.agg #[.slice e1 A.length f1, .slice e2 A.length f2], .int .i64 0]) ∧ RdV w2 (.agg #[.slice e1 A.length f1, .slice e2 A.length f2]) (nmsOf A) (valsOf A) ∧ Below w'.heap.size w' w2) := fun w' g b1 d1 b2 d2 hg hR hb => by subst hg; exact of2_form (x := (nmsOf A, valsOf A)) (y := (ms, us)) hR (HT.out _ hb).2.2.2.2 hAsz y3 mO2
          have HO3 : Hid (∀ w' g b1 d1 b2 d2, g = w'.heap.size → RdV w' (.agg #[.slice b1 D.length d1, .slice b2 D.length d2]) (nmsOf D) (valsOf D) → Below W0.heap.size W0 w' → Calls Try.prog 15 #[.slice (some ⟨g, 0, none⟩) 2 2] (w'.alloc (.cells #[.slice a1 ns.length c1, .slice a2 vs.length c2, .slice b1 D.length d1, .slice b2 D.length d2] 25)) fun e w2 => ∃ e1 f1 e2 f2, e = .returned (.tuple #[.agg #[.slice e1 A.length f1, .slice e2 A.length f2], .int .i64 0]) ∧ RdV w2 (.agg #[.slice e1 A.length f1, .slice e2 A.length f2]) (nmsOf A) (valsOf A) ∧ Below w'.heap.size w' w2) := fun w' g b1 d1 b2 d2 hg hR hb => by subst hg; exact of2_form (x := (ns, vs)) (y := (nmsOf D, valsOf D)) (HT.out _ hb).2.2.2.1 hR z3 hDsz mO3
          have HDf : Hid (∀ w' U, RdV w' U (nmsOf A) (valsOf A) → Below W0.heap.size W0 w' → Calls Try.prog 19 #[.agg #[.slice a1 ns.length c1, .slice a2 vs.length c2], U] w' fun e w2 => ∃ b1 d1 b2 d2, e = .returned (.tuple #[.agg #[.slice b1 D.length d1, .slice b2 D.length d2], .int .i64 0]) ∧ RdV w2 (.agg #[.slice b1 D.length d1, .slice b2 D.length d2]) (nmsOf D) (valsOf D) ∧ Below w'.heap.size w' w2) := fun w' U hR hb => diff_form (x := (ns, vs)) (y := (nmsOf A, valsOf A)) (HT.out _ hb).2.2.2.1 hR z3 hAsz mD
          have HS : Hid (∀ w' X Y, RdV w' X (nmsOf A) (valsOf A) → RdV w' Y (nmsOf A) (valsOf A) → Calls Try.prog 13 #[X, Y] w' fun e w2 => e = .returned (.bool true) ∧ Below w'.heap.size w' w2) := fun w' X Y h1 h2 => by
            have := rSame_any _ _ _ _ X Y w' h1 h2
            simpa using this
          have kv := chk_ok mv
          have kw := chk_ok mw
          have HGA : Hid (∀ w' X, RdV w' X (nmsOf A) (valsOf A) → Calls Try.prog 21 #[X, .string nm0] w' fun e w2 => e = .returned (.tuple #[.int .i64 (getV A nm0), .bool (fnd (nmsOf A) nm0)]) ∧ Below w'.heap.size w' w2) := fun w' X h => Get_any A nm0 X w' h (rise_all (chk_ok mA).2.2).2 (by omega)
          have HGW : Hid (∀ w', Below W0.heap.size W0 w' → Calls Try.prog 21 #[.agg #[.slice a3 ms.length c3, .slice a4 us.length c4], .string nm0] w' fun e w2 => e = .returned (.tuple #[.int .i64 (getV (zipV (ms, us)) nm0), .bool (fnd ms nm0)]) ∧ Below w'.heap.size w' w2) := fun w' hb => by
            have hn : nmsOf (zipV (ms, us)) = ms := nms_zip (v := (ms, us)) kw.1
            have h := Get_any (zipV (ms, us)) nm0 _ w' (by rw [hn, vals_zip (v := (ms, us)) kw.1]; exact (HT.out _ hb).2.2.2.2) (by rw [hn]; exact (rise_all kw.2.2).2) (by rw [zipV_len (v := (ms, us)) kw.1]; show ms.length ≤ _; omega)
            rwa [hn] at h
          have HGV : Hid (∀ w', Below W0.heap.size W0 w' → Calls Try.prog 21 #[.agg #[.slice a1 ns.length c1, .slice a2 vs.length c2], .string nm0] w' fun e w2 => e = .returned (.tuple #[.int .i64 (getV (zipV (ns, vs)) nm0), .bool (fnd ns nm0)]) ∧ Below w'.heap.size w' w2) := fun w' hb => by
            have hn : nmsOf (zipV (ns, vs)) = ns := nms_zip (v := (ns, vs)) kv.1
            have h := Get_any (zipV (ns, vs)) nm0 _ w' (by rw [hn, vals_zip (v := (ns, vs)) kv.1]; exact (HT.out _ hb).2.2.2.1) (by rw [hn]; exact (rise_all kv.2.2).2) (by rw [zipV_len (v := (ns, vs)) kv.1]; show ns.length ≤ _; omega)
            rwa [hn] at h
          obtain ⟨mg1, mg2⟩ := mG nm0
          rw [mg1, mg2] at HGA
          clear hv hu hV hU hl1 hl2 z1 z2 z3 y1 y2 y3 hOf mv mw mA vA lA mO2 mG mD vD mO3 hAsz hDsz kv kw mg1 mg2
          generalize hn1 : ns.length = n1 at *
          generalize hn2 : vs.length = n2 at *
          generalize hn3 : ms.length = n3 at *
          generalize hn4 : us.length = n4 at *
          generalize hLL : A.length = L at *
          generalize hLD : D.length = LD at *
          generalize getV (zipV (ms, us)) nm0 = gw at *
          generalize getV (zipV (ns, vs)) nm0 = gv at *
          generalize fnd ms nm0 = fw at *
          generalize fnd ns nm0 = fv at *
          cases fw with
          | true =>
            rw [if_pos rfl, if_pos rfl] at HGA
            go_enter Try.func7, Try.ntmps7
            go_wp2_with (first
              | (go_at_call 9; have := ZB; refine (HWk.out _).mono ?_; rintro e wf ⟨rfl, HB⟩; have ZF : Hid (Below W0.heap.size W0 wf) := ZB.out.trans (HB.mono ZB.out.size); clear HB ZB)
              | (go_at_call 13; have := YA; refine (HS.out _ _ _ YA.out.2 (HA.out _ YA.out.1).2.1).mono ?_; rintro e wb ⟨rfl, HB⟩; have ZB : Hid (Below W0.heap.size W0 wb) := (HA.out _ (YA.out.1.trans (HB.mono YA.out.1.size))).1; clear HB YA)
              | (go_at_call 15; have := Y9; refine (HO3.out _ _ _ _ _ _ (size_alloc _ _).symm Y9.out.2 (HA.out _ Y9.out.1).1).mono ?_; rintro e wa ⟨i1, j1, i2, j2, rfl, HR, HB⟩; have YA : Hid (Below (w3.alloc (.cells #[.slice b1 L d1, .slice b2 L d2] 25)).heap.size (w3.alloc (.cells #[.slice b1 L d1, .slice b2 L d2] 25)) (wa.alloc (.cells #[.slice i1 L j1, .slice i2 L j2] 25)) ∧ RdV (wa.alloc (.cells #[.slice i1 L j1, .slice i2 L j2] 25)) (.agg #[.slice i1 L j1, .slice i2 L j2]) (nmsOf A) (valsOf A)) := ⟨below_alloc (Y9.out.1.trans (HB.mono Y9.out.1.size)) (Nat.le_refl _) _, HR.below ((Below.refl _ _).alloc (Nat.le_refl _) _)⟩; obtain ⟨x4, x0, x1, x2, x3⟩ := (HA.out _ (Y9.out.1.trans (HB.mono Y9.out.1.size))).2.2; obtain ⟨⟨p4, p0, p1, p2, p3⟩, ⟨q4, q0, q1, q2, q3⟩, _⟩ := HT.out _ (HA.out _ (Y9.out.1.trans (HB.mono Y9.out.1.size))).1; clear HB HR Y9)
              | (go_at_call 19; have := Y8; refine (HDf.out _ _ (HA.out _ Y8.out).2.1 (HA.out _ Y8.out).1).mono ?_; rintro e w9 ⟨g1, h1, g2, h2, rfl, HR, HB⟩; have Y9 : Hid (Below (w3.alloc (.cells #[.slice b1 L d1, .slice b2 L d2] 25)).heap.size (w3.alloc (.cells #[.slice b1 L d1, .slice b2 L d2] 25)) (w9.alloc (.cells #[.slice g1 LD h1, .slice g2 LD h2] 25)) ∧ RdV (w9.alloc (.cells #[.slice g1 LD h1, .slice g2 LD h2] 25)) (.agg #[.slice g1 LD h1, .slice g2 LD h2]) (nmsOf D) (valsOf D)) := ⟨below_alloc (Y8.out.trans (HB.mono Y8.out.size)) (Nat.le_refl _) _, HR.below ((Below.refl _ _).alloc (Nat.le_refl _) _)⟩; obtain ⟨x4, x0, x1, x2, x3⟩ := (HA.out _ (Y8.out.trans (HB.mono Y8.out.size))).2.2; obtain ⟨⟨p4, p0, p1, p2, p3⟩, ⟨q4, q0, q1, q2, q3⟩, _⟩ := HT.out _ (HA.out _ (Y8.out.trans (HB.mono Y8.out.size))).1; clear HB HR Y8)
              | (go_at_call 21; have := Y6; refine (HGW.out _ (HA.out _ Y6.out).1).mono ?_; rintro e w7 ⟨rfl, HB⟩; have Y8 : Hid (Below (w3.alloc (.cells #[.slice b1 L d1, .slice b2 L d2] 25)).heap.size (w3.alloc (.cells #[.slice b1 L d1, .slice b2 L d2] 25)) w7) := Y6.out.trans (HB.mono Y6.out.size); obtain ⟨x4, x0, x1, x2, x3⟩ := (HA.out _ Y8.out).2.2; obtain ⟨⟨p4, p0, p1, p2, p3⟩, ⟨q4, q0, q1, q2, q3⟩, _⟩ := HT.out _ (HA.out _ Y8.out).1; clear HB Y6)
              | (go_at_call 21; have := Y5; refine (HGA.out _ _ (HA.out _ Y5.out).2.1).mono ?_; rintro e w6 ⟨rfl, HB⟩; have Y6 : Hid (Below (w3.alloc (.cells #[.slice b1 L d1, .slice b2 L d2] 25)).heap.size (w3.alloc (.cells #[.slice b1 L d1, .slice b2 L d2] 25)) w6) := Y5.out.trans (HB.mono Y5.out.size); obtain ⟨x4, x0, x1, x2, x3⟩ := (HA.out _ Y6.out).2.2; obtain ⟨⟨p4, p0, p1, p2, p3⟩, ⟨q4, q0, q1, q2, q3⟩, _⟩ := HT.out _ (HA.out _ Y6.out).1; clear HB Y5)
              | (go_at_call 13; have := Y4; refine (HS.out _ _ _ (HA.out _ Y4.out.1).2.1 Y4.out.2).mono ?_; rintro e w5 ⟨rfl, HB⟩; have Y5 : Hid (Below (w3.alloc (.cells #[.slice b1 L d1, .slice b2 L d2] 25)).heap.size (w3.alloc (.cells #[.slice b1 L d1, .slice b2 L d2] 25)) w5) := Y4.out.1.trans (HB.mono Y4.out.1.size); obtain ⟨x4, x0, x1, x2, x3⟩ := (HA.out _ Y5.out).2.2; obtain ⟨⟨p4, p0, p1, p2, p3⟩, ⟨q4, q0, q1, q2, q3⟩, _⟩ := HT.out _ (HA.out _ Y5.out).1; clear HB Y4)
              | (go_at_call 15; have := Y3; refine (HO2.out _ _ _ _ _ _ (size_alloc _ _).symm (HA.out _ Y3.out).2.1 (HA.out _ Y3.out).1).mono ?_; rintro e w4 ⟨e1, f1, e2, f2, rfl, HR, HB⟩; have Y4 : Hid (Below (w3.alloc (.cells #[.slice b1 L d1, .slice b2 L d2] 25)).heap.size (w3.alloc (.cells #[.slice b1 L d1, .slice b2 L d2] 25)) (w4.alloc (.cells #[.slice e1 L f1, .slice e2 L f2] 25)) ∧ RdV (w4.alloc (.cells #[.slice e1 L f1, .slice e2 L f2] 25)) (.agg #[.slice e1 L f1, .slice e2 L f2]) (nmsOf A) (valsOf A)) := ⟨below_alloc (Y3.out.trans HB) (Nat.le_refl _) _, HR.below ((Below.refl _ _).alloc (Nat.le_refl _) _)⟩; obtain ⟨x4, x0, x1, x2, x3⟩ := (HA.out _ (Y3.out.trans HB)).2.2; obtain ⟨⟨p4, p0, p1, p2, p3⟩, ⟨q4, q0, q1, q2, q3⟩, _⟩ := HT.out _ (HA.out _ (Y3.out.trans HB)).1; clear HB HR Y3 Z3)
              | (go_at_call 15; have := Z2; refine (HO1.out _ Z2.out).mono ?_; rintro e w3 ⟨b1, d1, b2, d2, rfl, HR, HB⟩; have HA : Hid (∀ w', Below (w3.alloc (.cells #[.slice b1 L d1, .slice b2 L d2] 25)).heap.size (w3.alloc (.cells #[.slice b1 L d1, .slice b2 L d2] 25)) w' → Below W0.heap.size W0 w' ∧ RdV w' (.agg #[.slice b1 L d1, .slice b2 L d2]) (nmsOf A) (valsOf A) ∧ Two w' w3.heap.size (.slice b1 L d1) (.slice b2 L d2)) := (fun w' hb => ⟨(below_alloc (Z2.out.trans (HB.mono Z2.out.size)) (Nat.le_refl _) _).trans (hb.mono (below_alloc (Z2.out.trans (HB.mono Z2.out.size)) (Nat.le_refl _) _).size), (HR.below ((Below.refl _ _).alloc (Nat.le_refl _) _)).below hb, (Two.new w3 _ _ 25).below hb⟩); have Y3 : Hid (Below (w3.alloc (.cells #[.slice b1 L d1, .slice b2 L d2] 25)).heap.size (w3.alloc (.cells #[.slice b1 L d1, .slice b2 L d2] 25)) (w3.alloc (.cells #[.slice b1 L d1, .slice b2 L d2] 25))) := Below.refl _ _; have Z3 : Hid (Below W0.heap.size W0 (w3.alloc (.cells #[.slice b1 L d1, .slice b2 L d2] 25))) := (HA.out _ (Below.refl _ _)).1; obtain ⟨⟨p4, p0, p1, p2, p3⟩, ⟨q4, q0, q1, q2, q3⟩, _⟩ := HT.out _ (Z2.out.trans (HB.mono Z2.out.size)); clear HB HR Z2)
              | (go_at_call 8; have := Z1; refine (HL2.out _ Z1.out).mono ?_; rintro e w2 ⟨rfl, HB⟩; have Z2 : Hid (Below W0.heap.size W0 w2) := Z1.out.trans (HB.mono Z1.out.size); obtain ⟨⟨p4, p0, p1, p2, p3⟩, ⟨q4, q0, q1, q2, q3⟩, _⟩ := HT.out _ Z2.out; clear HB Z1)
              | (go_at_call 8; rw [← hW0]; refine (HL1.out _ HBr.out).mono ?_; rintro e w1 ⟨rfl, HB⟩; have Z1 : Hid (Below W0.heap.size W0 w1) := HB; obtain ⟨⟨p4, p0, p1, p2, p3⟩, ⟨q4, q0, q1, q2, q3⟩, _⟩ := HT.out _ HB; clear HB))
            go_ret
            exact ⟨rfl, (HT.out _ ZF.out).2.2.1⟩
          | false =>
            rw [if_neg (by simp), if_neg (by simp)] at HGA
            go_enter Try.func7, Try.ntmps7
            go_wp2_with (first
              | (go_at_call 9; have := ZB; refine (HWk.out _).mono ?_; rintro e wf ⟨rfl, HB⟩; have ZF : Hid (Below W0.heap.size W0 wf) := ZB.out.trans (HB.mono ZB.out.size); clear HB ZB)
              | (go_at_call 13; have := YA; refine (HS.out _ _ _ YA.out.2 (HA.out _ YA.out.1).2.1).mono ?_; rintro e wb ⟨rfl, HB⟩; have ZB : Hid (Below W0.heap.size W0 wb) := (HA.out _ (YA.out.1.trans (HB.mono YA.out.1.size))).1; clear HB YA)
              | (go_at_call 15; have := Y9; refine (HO3.out _ _ _ _ _ _ (size_alloc _ _).symm Y9.out.2 (HA.out _ Y9.out.1).1).mono ?_; rintro e wa ⟨i1, j1, i2, j2, rfl, HR, HB⟩; have YA : Hid (Below (w3.alloc (.cells #[.slice b1 L d1, .slice b2 L d2] 25)).heap.size (w3.alloc (.cells #[.slice b1 L d1, .slice b2 L d2] 25)) (wa.alloc (.cells #[.slice i1 L j1, .slice i2 L j2] 25)) ∧ RdV (wa.alloc (.cells #[.slice i1 L j1, .slice i2 L j2] 25)) (.agg #[.slice i1 L j1, .slice i2 L j2]) (nmsOf A) (valsOf A)) := ⟨below_alloc (Y9.out.1.trans (HB.mono Y9.out.1.size)) (Nat.le_refl _) _, HR.below ((Below.refl _ _).alloc (Nat.le_refl _) _)⟩; obtain ⟨x4, x0, x1, x2, x3⟩ := (HA.out _ (Y9.out.1.trans (HB.mono Y9.out.1.size))).2.2; obtain ⟨⟨p4, p0, p1, p2, p3⟩, ⟨q4, q0, q1, q2, q3⟩, _⟩ := HT.out _ (HA.out _ (Y9.out.1.trans (HB.mono Y9.out.1.size))).1; clear HB HR Y9)
              | (go_at_call 19; have := Y8; refine (HDf.out _ _ (HA.out _ Y8.out).2.1 (HA.out _ Y8.out).1).mono ?_; rintro e w9 ⟨g1, h1, g2, h2, rfl, HR, HB⟩; have Y9 : Hid (Below (w3.alloc (.cells #[.slice b1 L d1, .slice b2 L d2] 25)).heap.size (w3.alloc (.cells #[.slice b1 L d1, .slice b2 L d2] 25)) (w9.alloc (.cells #[.slice g1 LD h1, .slice g2 LD h2] 25)) ∧ RdV (w9.alloc (.cells #[.slice g1 LD h1, .slice g2 LD h2] 25)) (.agg #[.slice g1 LD h1, .slice g2 LD h2]) (nmsOf D) (valsOf D)) := ⟨below_alloc (Y8.out.trans (HB.mono Y8.out.size)) (Nat.le_refl _) _, HR.below ((Below.refl _ _).alloc (Nat.le_refl _) _)⟩; obtain ⟨x4, x0, x1, x2, x3⟩ := (HA.out _ (Y8.out.trans (HB.mono Y8.out.size))).2.2; obtain ⟨⟨p4, p0, p1, p2, p3⟩, ⟨q4, q0, q1, q2, q3⟩, _⟩ := HT.out _ (HA.out _ (Y8.out.trans (HB.mono Y8.out.size))).1; clear HB HR Y8)
              | (go_at_call 21; have := Y7; refine (HGV.out _ (HA.out _ Y7.out).1).mono ?_; rintro e w8 ⟨rfl, HB⟩; have Y8 : Hid (Below (w3.alloc (.cells #[.slice b1 L d1, .slice b2 L d2] 25)).heap.size (w3.alloc (.cells #[.slice b1 L d1, .slice b2 L d2] 25)) w8) := Y7.out.trans (HB.mono Y7.out.size); obtain ⟨x4, x0, x1, x2, x3⟩ := (HA.out _ Y8.out).2.2; obtain ⟨⟨p4, p0, p1, p2, p3⟩, ⟨q4, q0, q1, q2, q3⟩, _⟩ := HT.out _ (HA.out _ Y8.out).1; clear HB Y7)
              | (go_at_call 21; have := Y6; refine (HGW.out _ (HA.out _ Y6.out).1).mono ?_; rintro e w7 ⟨rfl, HB⟩; have Y7 : Hid (Below (w3.alloc (.cells #[.slice b1 L d1, .slice b2 L d2] 25)).heap.size (w3.alloc (.cells #[.slice b1 L d1, .slice b2 L d2] 25)) w7) := Y6.out.trans (HB.mono Y6.out.size); obtain ⟨x4, x0, x1, x2, x3⟩ := (HA.out _ Y7.out).2.2; obtain ⟨⟨p4, p0, p1, p2, p3⟩, ⟨q4, q0, q1, q2, q3⟩, _⟩ := HT.out _ (HA.out _ Y7.out).1; clear HB Y6)
              | (go_at_call 21; have := Y5; refine (HGA.out _ _ (HA.out _ Y5.out).2.1).mono ?_; rintro e w6 ⟨rfl, HB⟩; have Y6 : Hid (Below (w3.alloc (.cells #[.slice b1 L d1, .slice b2 L d2] 25)).heap.size (w3.alloc (.cells #[.slice b1 L d1, .slice b2 L d2] 25)) w6) := Y5.out.trans (HB.mono Y5.out.size); obtain ⟨x4, x0, x1, x2, x3⟩ := (HA.out _ Y6.out).2.2; obtain ⟨⟨p4, p0, p1, p2, p3⟩, ⟨q4, q0, q1, q2, q3⟩, _⟩ := HT.out _ (HA.out _ Y6.out).1; clear HB Y5)
              | (go_at_call 13; have := Y4; refine (HS.out _ _ _ (HA.out _ Y4.out.1).2.1 Y4.out.2).mono ?_; rintro e w5 ⟨rfl, HB⟩; have Y5 : Hid (Below (w3.alloc (.cells #[.slice b1 L d1, .slice b2 L d2] 25)).heap.size (w3.alloc (.cells #[.slice b1 L d1, .slice b2 L d2] 25)) w5) := Y4.out.1.trans (HB.mono Y4.out.1.size); obtain ⟨x4, x0, x1, x2, x3⟩ := (HA.out _ Y5.out).2.2; obtain ⟨⟨p4, p0, p1, p2, p3⟩, ⟨q4, q0, q1, q2, q3⟩, _⟩ := HT.out _ (HA.out _ Y5.out).1; clear HB Y4)
              | (go_at_call 15; have := Y3; refine (HO2.out _ _ _ _ _ _ (size_alloc _ _).symm (HA.out _ Y3.out).2.1 (HA.out _ Y3.out).1).mono ?_; rintro e w4 ⟨e1, f1, e2, f2, rfl, HR, HB⟩; have Y4 : Hid (Below (w3.alloc (.cells #[.slice b1 L d1, .slice b2 L d2] 25)).heap.size (w3.alloc (.cells #[.slice b1 L d1, .slice b2 L d2] 25)) (w4.alloc (.cells #[.slice e1 L f1, .slice e2 L f2] 25)) ∧ RdV (w4.alloc (.cells #[.slice e1 L f1, .slice e2 L f2] 25)) (.agg #[.slice e1 L f1, .slice e2 L f2]) (nmsOf A) (valsOf A)) := ⟨below_alloc (Y3.out.trans HB) (Nat.le_refl _) _, HR.below ((Below.refl _ _).alloc (Nat.le_refl _) _)⟩; obtain ⟨x4, x0, x1, x2, x3⟩ := (HA.out _ (Y3.out.trans HB)).2.2; obtain ⟨⟨p4, p0, p1, p2, p3⟩, ⟨q4, q0, q1, q2, q3⟩, _⟩ := HT.out _ (HA.out _ (Y3.out.trans HB)).1; clear HB HR Y3 Z3)
              | (go_at_call 15; have := Z2; refine (HO1.out _ Z2.out).mono ?_; rintro e w3 ⟨b1, d1, b2, d2, rfl, HR, HB⟩; have HA : Hid (∀ w', Below (w3.alloc (.cells #[.slice b1 L d1, .slice b2 L d2] 25)).heap.size (w3.alloc (.cells #[.slice b1 L d1, .slice b2 L d2] 25)) w' → Below W0.heap.size W0 w' ∧ RdV w' (.agg #[.slice b1 L d1, .slice b2 L d2]) (nmsOf A) (valsOf A) ∧ Two w' w3.heap.size (.slice b1 L d1) (.slice b2 L d2)) := (fun w' hb => ⟨(below_alloc (Z2.out.trans (HB.mono Z2.out.size)) (Nat.le_refl _) _).trans (hb.mono (below_alloc (Z2.out.trans (HB.mono Z2.out.size)) (Nat.le_refl _) _).size), (HR.below ((Below.refl _ _).alloc (Nat.le_refl _) _)).below hb, (Two.new w3 _ _ 25).below hb⟩); have Y3 : Hid (Below (w3.alloc (.cells #[.slice b1 L d1, .slice b2 L d2] 25)).heap.size (w3.alloc (.cells #[.slice b1 L d1, .slice b2 L d2] 25)) (w3.alloc (.cells #[.slice b1 L d1, .slice b2 L d2] 25))) := Below.refl _ _; have Z3 : Hid (Below W0.heap.size W0 (w3.alloc (.cells #[.slice b1 L d1, .slice b2 L d2] 25))) := (HA.out _ (Below.refl _ _)).1; obtain ⟨⟨p4, p0, p1, p2, p3⟩, ⟨q4, q0, q1, q2, q3⟩, _⟩ := HT.out _ (Z2.out.trans (HB.mono Z2.out.size)); clear HB HR Z2)
              | (go_at_call 8; have := Z1; refine (HL2.out _ Z1.out).mono ?_; rintro e w2 ⟨rfl, HB⟩; have Z2 : Hid (Below W0.heap.size W0 w2) := Z1.out.trans (HB.mono Z1.out.size); obtain ⟨⟨p4, p0, p1, p2, p3⟩, ⟨q4, q0, q1, q2, q3⟩, _⟩ := HT.out _ Z2.out; clear HB Z1)
              | (go_at_call 8; rw [← hW0]; refine (HL1.out _ HBr.out).mono ?_; rintro e w1 ⟨rfl, HB⟩; have Z1 : Hid (Below W0.heap.size W0 w1) := HB; obtain ⟨⟨p4, p0, p1, p2, p3⟩, ⟨q4, q0, q1, q2, q3⟩, _⟩ := HT.out _ HB; clear HB))
            go_ret
            exact ⟨rfl, (HT.out _ ZF.out).2.2.1⟩
        · have hne : ¬ ((ec : Int) = 0) := by omega
          clear hv hu hV hU hl1 hl2 z1 z2 z3 y1 y2 y3 hOf
          generalize hn1 : ns.length = n1 at *
          generalize hn2 : vs.length = n2 at *
          generalize hn3 : ms.length = n3 at *
          generalize hn4 : us.length = n4 at *
          generalize hLL : A.length = L at *
          go_enter Try.func7, Try.ntmps7
          go_wp2_with (first
            | (go_at_call 9; have := Z3; refine (HWk.out _).mono ?_; rintro e wf ⟨rfl, HB⟩; have ZF : Hid (Below W0.heap.size W0 wf) := Z3.out.trans (HB.mono Z3.out.size); clear HB Z3)
            | (go_at_call 15; have := Z2; refine (HO1.out _ Z2.out).mono ?_; rintro e w3 ⟨b1, d1, b2, d2, rfl, HR, HB⟩; have HA : Hid (∀ w', Below (w3.alloc (.cells #[.slice b1 L d1, .slice b2 L d2] 25)).heap.size (w3.alloc (.cells #[.slice b1 L d1, .slice b2 L d2] 25)) w' → Below W0.heap.size W0 w' ∧ RdV w' (.agg #[.slice b1 L d1, .slice b2 L d2]) (nmsOf A) (valsOf A) ∧ Two w' w3.heap.size (.slice b1 L d1) (.slice b2 L d2)) := (fun w' hb => ⟨(below_alloc (Z2.out.trans (HB.mono Z2.out.size)) (Nat.le_refl _) _).trans (hb.mono (below_alloc (Z2.out.trans (HB.mono Z2.out.size)) (Nat.le_refl _) _).size), (HR.below ((Below.refl _ _).alloc (Nat.le_refl _) _)).below hb, (Two.new w3 _ _ 25).below hb⟩); have Y3 : Hid (Below (w3.alloc (.cells #[.slice b1 L d1, .slice b2 L d2] 25)).heap.size (w3.alloc (.cells #[.slice b1 L d1, .slice b2 L d2] 25)) (w3.alloc (.cells #[.slice b1 L d1, .slice b2 L d2] 25))) := Below.refl _ _; have Z3 : Hid (Below W0.heap.size W0 (w3.alloc (.cells #[.slice b1 L d1, .slice b2 L d2] 25))) := (HA.out _ (Below.refl _ _)).1; obtain ⟨⟨p4, p0, p1, p2, p3⟩, ⟨q4, q0, q1, q2, q3⟩, _⟩ := HT.out _ (Z2.out.trans (HB.mono Z2.out.size)); clear HB HR Z2)
            | (go_at_call 8; have := Z1; refine (HL2.out _ Z1.out).mono ?_; rintro e w2 ⟨rfl, HB⟩; have Z2 : Hid (Below W0.heap.size W0 w2) := Z1.out.trans (HB.mono Z1.out.size); obtain ⟨⟨p4, p0, p1, p2, p3⟩, ⟨q4, q0, q1, q2, q3⟩, _⟩ := HT.out _ Z2.out; clear HB Z1)
            | (go_at_call 8; rw [← hW0]; refine (HL1.out _ HBr.out).mono ?_; rintro e w1 ⟨rfl, HB⟩; have Z1 : Hid (Below W0.heap.size W0 w1) := HB; obtain ⟨⟨p4, p0, p1, p2, p3⟩, ⟨q4, q0, q1, q2, q3⟩, _⟩ := HT.out _ HB; clear HB))
          go_ret
          exact ⟨rfl, (HT.out _ ZF.out).2.2.1⟩
      · clear hv hu hV hU hl1 hl2
        generalize hn1 : ns.length = n1 at *
        generalize hn2 : vs.length = n2 at *
        generalize hn3 : ms.length = n3 at *
        generalize hn4 : us.length = n4 at *
        go_enter Try.func7, Try.ntmps7
        go_wp2_with (first
          | (go_at_call 9; have := Z2; refine (HWk.out _).mono ?_; rintro e wf ⟨rfl, HB⟩; have ZF : Hid (Below W0.heap.size W0 wf) := Z2.out.trans (HB.mono Z2.out.size); clear HB Z2)
          | (go_at_call 8; have := Z1; refine (HL2.out _ Z1.out).mono ?_; rintro e w2 ⟨rfl, HB⟩; have Z2 : Hid (Below W0.heap.size W0 w2) := Z1.out.trans (HB.mono Z1.out.size); obtain ⟨⟨p4, p0, p1, p2, p3⟩, ⟨q4, q0, q1, q2, q3⟩, _⟩ := HT.out _ Z2.out; clear HB Z1)
          | (go_at_call 8; rw [← hW0]; refine (HL1.out _ HBr.out).mono ?_; rintro e w1 ⟨rfl, HB⟩; have Z1 : Hid (Below W0.heap.size W0 w1) := HB; obtain ⟨⟨p4, p0, p1, p2, p3⟩, ⟨q4, q0, q1, q2, q3⟩, _⟩ := HT.out _ HB; clear HB))
        go_ret
        exact ⟨rfl, (HT.out _ ZF.out).2.2.1⟩
end Go.Proofs.Ytekhfepfaegpaaa
