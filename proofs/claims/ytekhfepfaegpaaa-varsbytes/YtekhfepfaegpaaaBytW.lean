/-
  VarsBytes: the walk.
-/
import Derived.Test.YtekhfepfaegpaaaRRd
import Derived.Test.YtekhfepfaegpaaaBackW
namespace Go.Proofs.Ytekhfepfaegpaaa
open Go.RowKit Pack
set_option linter.unusedVariables false

theorem rread_form {w : World} {v : Value} {b r : List (BitVec 8)} {l : VL} (h : ReadsV w v b) (hb : b.length ≤ 100000000) (hm : readM b = .ok (l, r)) : Calls Try.prog 24 #[v] w fun e w' => ∃ a1 c1 a2 c2, e = .returned (.tuple #[.agg #[.slice a1 l.length c1, .slice a2 l.length c2], .int .i64 (b.length - r.length : Nat), .int .i64 0]) ∧ RdV w' (.agg #[.slice a1 l.length c1, .slice a2 l.length c2]) (nmsOf l) (valsOf l) ∧ Below w.heap.size w w' := by
  refine (rRead_any b v w h hb).mono ?_
  intro e w' h3
  unfold RReadPost at h3
  rw [hm] at h3
  obtain ⟨vv, k, rfl, h4, h5, h6, h7⟩ := h3
  obtain ⟨a1, c1, a2, c2, rfl, hn⟩ := h4.num
  have hk : b.length - r.length = k := by rw [← h5, List.length_drop]; omega
  rw [hk]
  exact ⟨a1, c1, a2, c2, rfl, hn, h7⟩
theorem rread_err {w : World} {v : Value} {b : List (BitVec 8)} {c : Int} (h : ReadsV w v b) (hb : b.length ≤ 100000000) (hm : readM b = .error c) : Calls Try.prog 24 #[v] w fun e w' => e = .returned (.tuple #[.agg #[.slice none 0 0, .slice none 0 0], .int .i64 0, .int .i64 c]) ∧ Below w.heap.size w w' := by
  refine (rRead_any b v w h hb).mono ?_
  intro e w' h3
  unfold RReadPost at h3
  rw [hm] at h3
  exact h3
set_option maxRecDepth 100000 in
set_option maxHeartbeats 4000000 in
theorem byt_walk (ns : List ByteArray) (vs : List Int) (v x : Value) (b : List (BitVec 8)) (w : World) (hv : Came w v ns vs) (hx : ReadsV w x b) : Calls Try.prog 5 #[v, x] w fun e w' => e = .returned (.bool true) ∧ Below w.heap.size w w' := by
  have hV := hv.rd
  obtain ⟨a1, c1, a2, c2, rfl⟩ := hV.two
  obtain ⟨xa, xc, rfl, hxr⟩ : ∃ xa xc, x = .slice xa b.length xc ∧ (b.length ≤ xc ∧ xc ≤ 9223372036854775807) := by
    obtain ⟨xa, xc, h1, _, h3, h4, _⟩ := hx
    exact ⟨xa, xc, h1, h3, h4⟩
  have HWk : Hid (∀ w, Calls Try.prog 9 #[] w fun e w' => e = .returned (.bool true) ∧ Below w.heap.size w w') := works_any
  obtain ⟨W0, hW0⟩ : ∃ W, W = w.alloc (.cells #[.slice a1 ns.length c1, .slice a2 vs.length c2] 25) := ⟨_, rfl⟩
  have HB0 : Hid (Below w.heap.size w W0) := by show Below _ _ _; rw [hW0]; exact below_alloc (Below.refl _ _) (Nat.le_refl _) _
  have HT : Hid (∀ w', Below W0.heap.size W0 w' → Two w' w.heap.size (.slice a1 ns.length c1) (.slice a2 vs.length c2) ∧ Below w.heap.size w w' ∧ RdV w' (.agg #[.slice a1 ns.length c1, .slice a2 vs.length c2]) ns vs ∧ ReadsV w' (.slice xa b.length xc) b) := fun w' hb => by
    have t1 : Two W0 w.heap.size (.slice a1 ns.length c1) (.slice a2 vs.length c2) := by rw [hW0]; exact Two.new w _ _ 25
    have b1 := HB0.out.trans (hb.mono HB0.out.size)
    exact ⟨t1.below hb, b1, hV.below b1, hx.below b1⟩
  have HL1 : Hid (∀ w', Below W0.heap.size W0 w' → Calls Try.prog 8 #[.agg #[.slice a1 ns.length c1, .slice a2 vs.length c2]] w' fun e w2 => e = .returned (.bool (lightM ns vs)) ∧ Below w'.heap.size w' w2) := fun w' hb => light_any _ _ _ w' (HT.out _ hb).2.2.1 hv.sz
  have HBr : Hid (Below W0.heap.size W0 W0) := Below.refl _ _
  obtain ⟨hx1, hx2⟩ := hxr
  cases hl1 : lightM ns vs with
  | false =>
    rw [hl1] at HL1
    clear hv hx hV hl1
    generalize hn1 : ns.length = n1 at *
    generalize hn2 : vs.length = n2 at *
    generalize hn3 : b.length = n3 at *
    go_enter Try.func5, Try.ntmps5
    go_wp2_with (first
      | (go_at_call 9; have := Z1; refine (HWk.out _).mono ?_; rintro e wf ⟨rfl, HB⟩; have ZF : Hid (Below W0.heap.size W0 wf) := Z1.out.trans (HB.mono Z1.out.size); clear HB Z1)
      | (go_at_call 8; rw [← hW0]; refine (HL1.out _ HBr.out).mono ?_; rintro e w1 ⟨rfl, HB⟩; have Z1 : Hid (Below W0.heap.size W0 w1) := HB; obtain ⟨⟨p4, p0, p1, p2, p3⟩, _⟩ := HT.out _ HB; clear HB))
    go_ret
    exact ⟨rfl, (HT.out _ ZF.out).2.1⟩
  | true =>
    rw [hl1] at HL1
    by_cases hb3 : b.length ≤ 3000
    · obtain ⟨z1, z2, z3⟩ := light_sz hl1
      have HC11 : Hid (∀ w', Below W0.heap.size W0 w' → Calls Try.prog 11 #[.agg #[.slice a1 ns.length c1, .slice a2 vs.length c2]] w' fun e w2 => e = .returned (.int .i64 (chk ns vs : Nat)) ∧ Below w'.heap.size w' w2) := fun w' hb => rCheck_any _ _ _ w' (HT.out _ hb).2.2.1 hv.sz
      have HSame : Hid (∀ w' u u' l, ReadsV w' u l → ReadsV w' u' l → Calls Try.prog 25 #[u, u'] w' fun e w2 => e = .returned (.bool true) ∧ w2 = w') := fun w' u u' l h1 h2 => same_yes _ _ _ w' h1 h2
      by_cases hck : chk ns vs = 0
      · cases hrm : readM b with
        | error cc =>
          have HA : Hid ((∀ w', Below W0.heap.size W0 w' → Calls Try.prog 26 #[.slice none 0 0, .agg #[.slice a1 ns.length c1, .slice a2 vs.length c2]] w' fun e w2 => ∃ v', e = .returned v' ∧ ReadsV w2 v' (packV (zipV (ns, vs))) ∧ Below w'.heap.size w' w2) ∧ ∀ w', Below W0.heap.size W0 w' → Calls Try.prog 27 #[.agg #[.slice a1 ns.length c1, .slice a2 vs.length c2]] w' fun e w2 => ∃ v', e = .returned v' ∧ ReadsV w2 v' (packV (zipV (ns, vs))) ∧ Below w'.heap.size w' w2) := by
            obtain ⟨v1, v2, v3⟩ := chk_ok hck
            have hn : nmsOf (zipV (ns, vs)) = ns := nms_zip (v := (ns, vs)) v1
            have hvl : valsOf (zipV (ns, vs)) = vs := vals_zip (v := (ns, vs)) v1
            have hsz : ∀ p ∈ zipV (ns, vs), p.1.size ≤ 1000000 ∧ I64 p.2 := fun p hp => ⟨by have := z3 p.1 (zip_mem hp).1; omega, hv.i64 p.2 (zip_mem hp).2⟩
            have hlen : (zipV (ns, vs)).length ≤ 64 := by rw [zipV_len (v := (ns, vs)) v1]; exact v2
            refine ⟨fun w' hb => (Put_any _ _ w' (by rw [hn, hvl]; exact (HT.out _ hb).2.2.1) (by omega) hsz).mono ?_, fun w' hb => rBytes_any _ _ w' (by rw [hn, hvl]; exact (HT.out _ hb).2.2.1) (by omega) hsz⟩
            rintro e w2 ⟨v', rfl, h1, h2⟩
            exact ⟨v', rfl, ReadsV.of_own h1, h2⟩
          rw [hck] at HC11
          generalize packV (zipV (ns, vs)) = PK at *
          have HRd : Hid (∀ w', Below W0.heap.size W0 w' → Calls Try.prog 23 #[.slice xa b.length xc] w' fun e w2 => e = .returned (.tuple #[.agg #[.slice none 0 0, .slice none 0 0], .slice none 0 0, .int .i64 cc]) ∧ Below w'.heap.size w' w2) := fun w' hb => read_err (HT.out _ hb).2.2.2 (by omega) hrm
          have HRr : Hid (∀ w', Below W0.heap.size W0 w' → Calls Try.prog 24 #[.slice xa b.length xc] w' fun e w2 => e = .returned (.tuple #[.agg #[.slice none 0 0, .slice none 0 0], .int .i64 0, .int .i64 cc]) ∧ Below w'.heap.size w' w2) := fun w' hb => rread_err (HT.out _ hb).2.2.2 (by omega) hrm
          have HS0 : Hid (∀ w', Calls Try.prog 13 #[.agg #[.slice none 0 0, .slice none 0 0], .agg #[.slice none 0 0, .slice none 0 0]] w' fun e w2 => e = .returned (.bool true) ∧ Below w'.heap.size w' w2) := fun w' => by
            have := rSame_any _ _ _ _ _ _ w' (RdV.nil w') (RdV.nil w')
            simpa using this
          have hne2 : ¬ cc = 0 := readM_err hrm
          clear hv hx hV hl1 z1 z2 z3 hck hrm
          generalize hn1 : ns.length = n1 at *
          generalize hn2 : vs.length = n2 at *
          generalize hn3 : b.length = n3 at *
          go_enter Try.func5, Try.ntmps5
          go_wp2_with (first
            | (go_at_call 13; have := Z3; refine (HS0.out _).mono ?_; rintro e w4 ⟨rfl, HB⟩; have Z4 : Hid (Below W0.heap.size W0 w4) := Z3.out.trans (HB.mono Z3.out.size); obtain ⟨⟨p4, p0, p1, p2, p3⟩, _⟩ := HT.out _ Z4.out; clear HB Z3)
            | (go_at_call 24; have := Z2; refine (HRr.out _ Z2.out).mono ?_; rintro e w3 ⟨rfl, HB⟩; have Z3 : Hid (Below W0.heap.size W0 (w3.alloc (.cells #[.slice none 0 0, .slice none 0 0] 25))) := below_alloc (Z2.out.trans (HB.mono Z2.out.size)) (Nat.le_refl _) _; obtain ⟨x4, x0, x1, x2, x3⟩ := (Two.new w2 (.slice none 0 0) (.slice none 0 0) 25).below HB; obtain ⟨⟨p4, p0, p1, p2, p3⟩, _⟩ := HT.out _ (Z2.out.trans (HB.mono Z2.out.size)); clear HB Z2)
            | (go_at_call 23; have := Z1; refine (HRd.out _ Z1.out).mono ?_; rintro e w2 ⟨rfl, HB⟩; have Z2 : Hid (Below W0.heap.size W0 (w2.alloc (.cells #[.slice none 0 0, .slice none 0 0] 25))) := below_alloc (Z1.out.trans (HB.mono Z1.out.size)) (Nat.le_refl _) _; obtain ⟨⟨p4, p0, p1, p2, p3⟩, _⟩ := HT.out _ (Z1.out.trans (HB.mono Z1.out.size)); clear HB Z1)
            | (go_at_call 8; rw [← hW0]; refine (HL1.out _ HBr.out).mono ?_; rintro e w1 ⟨rfl, HB⟩; have Z1 : Hid (Below W0.heap.size W0 w1) := HB; obtain ⟨⟨p4, p0, p1, p2, p3⟩, _⟩ := HT.out _ HB; clear HB))
          obtain ⟨⟨p4, p0, p1, p2, p3⟩, _⟩ := HT.out _ Z4.out
          have ZD : Hid (Below W0.heap.size W0 w4.drew) := Below.drew Z4.out
          go_region_held3 (fun w' => w'.cell? ⟨w.heap.size, 0, none⟩ = some (.slice a1 n1 c1) ∧ w'.cell? ⟨w.heap.size, 1, none⟩ = some (.slice a2 n2 c2)) (go_keep) (first
            | (go_at_call 9; have := YC; refine (HWk.out _).mono ?_; rintro e wf ⟨rfl, HB⟩; have ZF : Hid (Below W0.heap.size W0 wf) := YC.out.trans (HB.mono YC.out.size); obtain ⟨⟨p4, p0, p1, p2, p3⟩, _⟩ := HT.out _ ZF.out; clear HB YC)
            | (go_at_call 25; have := YB; refine (HSame.out _ _ _ PK YB.out.2.1 YB.out.2.2).mono ?_; rintro e w9 ⟨rfl, hw9⟩; have hw9s := hw9.symm; subst hw9s; have YC : Hid (Below W0.heap.size W0 wB) := YB.out.1; clear hw9 YB)
            | (go_at_call 27; have := Y26; refine (HA.out.2 _ Y26.out.1).mono ?_; rintro e wB ⟨v27, rfl, HR, HB⟩; have YB : Hid (Below W0.heap.size W0 wB ∧ ReadsV wB v26 PK ∧ ReadsV wB v27 PK) := ⟨Y26.out.1.trans (HB.mono Y26.out.1.size), Y26.out.2.below HB, HR⟩; obtain ⟨⟨p4, p0, p1, p2, p3⟩, _⟩ := HT.out _ YB.out.1; clear HB HR Y26)
            | (go_at_call 26; have := Y27; refine (HA.out.1 _ Y27.out.1).mono ?_; rintro e wB ⟨v26, rfl, HR, HB⟩; have YB : Hid (Below W0.heap.size W0 wB ∧ ReadsV wB v26 PK ∧ ReadsV wB v27 PK) := ⟨Y27.out.1.trans (HB.mono Y27.out.1.size), HR, Y27.out.2.below HB⟩; obtain ⟨⟨p4, p0, p1, p2, p3⟩, _⟩ := HT.out _ YB.out.1; clear HB HR Y27)
            | (go_at_call 27; have := Y11; refine (HA.out.2 _ Y11.out).mono ?_; rintro e w27 ⟨v27, rfl, HR, HB⟩; have Y27 : Hid (Below W0.heap.size W0 w27 ∧ ReadsV w27 v27 PK) := ⟨Y11.out.trans (HB.mono Y11.out.size), HR⟩; obtain ⟨⟨p4, p0, p1, p2, p3⟩, _⟩ := HT.out _ Y27.out.1; clear HB HR)
            | (go_at_call 26; have := Y11; refine (HA.out.1 _ Y11.out).mono ?_; rintro e w26 ⟨v26, rfl, HR, HB⟩; have Y26 : Hid (Below W0.heap.size W0 w26 ∧ ReadsV w26 v26 PK) := ⟨Y11.out.trans (HB.mono Y11.out.size), HR⟩; obtain ⟨⟨p4, p0, p1, p2, p3⟩, _⟩ := HT.out _ Y26.out.1; clear HB HR)
            | (go_at_call 11; refine (HC11.out _ ZD.out).mono ?_; rintro e w11 ⟨rfl, HB⟩; have Y11 : Hid (Below W0.heap.size W0 w11) := ZD.out.trans (HB.mono ZD.out.size); obtain ⟨⟨p4, p0, p1, p2, p3⟩, _⟩ := HT.out _ Y11.out; clear HB))
          all_goals go_wp2
          all_goals
            (go_ret
             exact ⟨rfl, (HT.out _ ZF.out).2.1⟩)
        | ok lr =>
          obtain ⟨rl, rr⟩ := lr
          have HA : Hid ((∀ w', Below W0.heap.size W0 w' → Calls Try.prog 26 #[.slice none 0 0, .agg #[.slice a1 ns.length c1, .slice a2 vs.length c2]] w' fun e w2 => ∃ v', e = .returned v' ∧ ReadsV w2 v' (packV (zipV (ns, vs))) ∧ Below w'.heap.size w' w2) ∧ ∀ w', Below W0.heap.size W0 w' → Calls Try.prog 27 #[.agg #[.slice a1 ns.length c1, .slice a2 vs.length c2]] w' fun e w2 => ∃ v', e = .returned v' ∧ ReadsV w2 v' (packV (zipV (ns, vs))) ∧ Below w'.heap.size w' w2) := by
            obtain ⟨v1, v2, v3⟩ := chk_ok hck
            have hn : nmsOf (zipV (ns, vs)) = ns := nms_zip (v := (ns, vs)) v1
            have hvl : valsOf (zipV (ns, vs)) = vs := vals_zip (v := (ns, vs)) v1
            have hsz : ∀ p ∈ zipV (ns, vs), p.1.size ≤ 1000000 ∧ I64 p.2 := fun p hp => ⟨by have := z3 p.1 (zip_mem hp).1; omega, hv.i64 p.2 (zip_mem hp).2⟩
            have hlen : (zipV (ns, vs)).length ≤ 64 := by rw [zipV_len (v := (ns, vs)) v1]; exact v2
            refine ⟨fun w' hb => (Put_any _ _ w' (by rw [hn, hvl]; exact (HT.out _ hb).2.2.1) (by omega) hsz).mono ?_, fun w' hb => rBytes_any _ _ w' (by rw [hn, hvl]; exact (HT.out _ hb).2.2.1) (by omega) hsz⟩
            rintro e w2 ⟨v', rfl, h1, h2⟩
            exact ⟨v', rfl, ReadsV.of_own h1, h2⟩
          rw [hck] at HC11
          generalize packV (zipV (ns, vs)) = PK at *
          have HRd : Hid (∀ w', Below W0.heap.size W0 w' → Calls Try.prog 23 #[.slice xa b.length xc] w' fun e w2 => ∃ b1 d1 b2 d2 rv, e = .returned (.tuple #[.agg #[.slice b1 rl.length d1, .slice b2 rl.length d2], rv, .int .i64 0]) ∧ RdV w2 (.agg #[.slice b1 rl.length d1, .slice b2 rl.length d2]) (nmsOf rl) (valsOf rl) ∧ ReadsV w2 rv rr ∧ Below w'.heap.size w' w2) := fun w' hb => read_form (HT.out _ hb).2.2.2 (by omega) hrm
          have HRr : Hid (∀ w', Below W0.heap.size W0 w' → Calls Try.prog 24 #[.slice xa b.length xc] w' fun e w2 => ∃ b1 d1 b2 d2, e = .returned (.tuple #[.agg #[.slice b1 rl.length d1, .slice b2 rl.length d2], .int .i64 (b.length - rr.length : Nat), .int .i64 0]) ∧ RdV w2 (.agg #[.slice b1 rl.length d1, .slice b2 rl.length d2]) (nmsOf rl) (valsOf rl) ∧ Below w'.heap.size w' w2) := fun w' hb => rread_form (HT.out _ hb).2.2.2 (by omega) hrm
          have HS1 : Hid (∀ w' X Y, RdV w' X (nmsOf rl) (valsOf rl) → RdV w' Y (nmsOf rl) (valsOf rl) → Calls Try.prog 13 #[X, Y] w' fun e w2 => e = .returned (.bool true) ∧ Below w'.heap.size w' w2) := fun w' X Y h1 h2 => by
            have := rSame_any _ _ _ _ X Y w' h1 h2
            simpa using this
          have hbk := (readM_back hrm).1
          have hkk : ∃ kk, b.length - rr.length = kk ∧ kk ≤ b.length ∧ b.drop kk = rr := by
            refine ⟨(packV rl).length, ?_, ?_, ?_⟩
            · rw [← hbk, List.length_append]; omega
            · rw [← hbk, List.length_append]; omega
            · rw [← hbk, List.drop_left]
          obtain ⟨kk, hk1, hk2, hk3⟩ := hkk
          rw [hk1] at HRr
          clear hk1 hbk
          clear hv hx hV hl1 z1 z2 z3 hck hrm
          generalize hn1 : ns.length = n1 at *
          generalize hn2 : vs.length = n2 at *
          generalize hL2 : rl.length = L2 at *
          by_cases hxk : xc = kk
          · have hbb : b.length = kk := by omega
            have HCut : Hid (∀ w', Below W0.heap.size W0 w' → ReadsV w' (.slice xa 0 0) rr) := fun w' hb => by
              have h0 : rr = [] := by rw [← hk3]; exact List.drop_eq_nil_of_le (by omega)
              rw [h0]
              exact ⟨xa, 0, rfl, fun _ => rfl, Nat.le_refl _, by decide, by decide, .inl rfl⟩
            clear hk3 hk2
            generalize b.length = n3 at *
            subst hbb
            subst hxk
            go_enter Try.func5, Try.ntmps5
            go_wp2_with (first
              | (go_at_call 25; have := Z3b; refine (HSame.out _ _ _ rr Z3b.out.2 (HCut.out _ Z3b.out.1)).mono ?_; rintro e w4b ⟨rfl, hw4⟩; have hw4s := hw4.symm; subst hw4s; have Z4 : Hid (Below W0.heap.size W0 w4) := Z3b.out.1; clear hw4 Z3b)
              | (go_at_call 13; have := Z3; refine (HS1.out _ _ _ Z3.out.2.1 Z3.out.2.2.1).mono ?_; rintro e w4 ⟨rfl, HB⟩; have Z3b : Hid (Below W0.heap.size W0 w4 ∧ ReadsV w4 r2 rr) := ⟨Z3.out.1.trans (HB.mono Z3.out.1.size), Z3.out.2.2.2.below HB⟩; obtain ⟨⟨p4, p0, p1, p2, p3⟩, _⟩ := HT.out _ Z3b.out.1; clear HB Z3)
              | (go_at_call 24; have := Z2; refine (HRr.out _ Z2.out.1).mono ?_; rintro e w3 ⟨e1, f1, e2, f2, rfl, HR, HB⟩; have Z3 : Hid (Below W0.heap.size W0 (w3.alloc (.cells #[.slice e1 L2 f1, .slice e2 L2 f2] 25)) ∧ RdV (w3.alloc (.cells #[.slice e1 L2 f1, .slice e2 L2 f2] 25)) (.agg #[.slice b1 L2 d1, .slice b2 L2 d2]) (nmsOf rl) (valsOf rl) ∧ RdV (w3.alloc (.cells #[.slice e1 L2 f1, .slice e2 L2 f2] 25)) (.agg #[.slice e1 L2 f1, .slice e2 L2 f2]) (nmsOf rl) (valsOf rl) ∧ ReadsV (w3.alloc (.cells #[.slice e1 L2 f1, .slice e2 L2 f2] 25)) r2 rr) := ⟨below_alloc (Z2.out.1.trans (HB.mono Z2.out.1.size)) (Nat.le_refl _) _, (Z2.out.2.1.below HB).below ((Below.refl _ _).alloc (Nat.le_refl _) _), HR.below ((Below.refl _ _).alloc (Nat.le_refl _) _), (Z2.out.2.2.below HB).below ((Below.refl _ _).alloc (Nat.le_refl _) _)⟩; obtain ⟨x4, x0, x1, x2, x3⟩ := (Two.new w2 (.slice b1 L2 d1) (.slice b2 L2 d2) 25).below HB; obtain ⟨⟨p4, p0, p1, p2, p3⟩, _⟩ := HT.out _ (Z2.out.1.trans (HB.mono Z2.out.1.size)); clear HB HR Z2)
              | (go_at_call 23; have := Z1; refine (HRd.out _ Z1.out).mono ?_; rintro e w2 ⟨b1, d1, b2, d2, r2, rfl, HR, HR2, HB⟩; have Z2 : Hid (Below W0.heap.size W0 (w2.alloc (.cells #[.slice b1 L2 d1, .slice b2 L2 d2] 25)) ∧ RdV (w2.alloc (.cells #[.slice b1 L2 d1, .slice b2 L2 d2] 25)) (.agg #[.slice b1 L2 d1, .slice b2 L2 d2]) (nmsOf rl) (valsOf rl) ∧ ReadsV (w2.alloc (.cells #[.slice b1 L2 d1, .slice b2 L2 d2] 25)) r2 rr) := ⟨below_alloc (Z1.out.trans (HB.mono Z1.out.size)) (Nat.le_refl _) _, HR.below ((Below.refl _ _).alloc (Nat.le_refl _) _), HR2.below ((Below.refl _ _).alloc (Nat.le_refl _) _)⟩; obtain ⟨⟨p4, p0, p1, p2, p3⟩, _⟩ := HT.out _ (Z1.out.trans (HB.mono Z1.out.size)); clear HB HR HR2 Z1)
              | (go_at_call 8; rw [← hW0]; refine (HL1.out _ HBr.out).mono ?_; rintro e w1 ⟨rfl, HB⟩; have Z1 : Hid (Below W0.heap.size W0 w1) := HB; obtain ⟨⟨p4, p0, p1, p2, p3⟩, _⟩ := HT.out _ HB; clear HB))
            obtain ⟨⟨p4, p0, p1, p2, p3⟩, _⟩ := HT.out _ Z4.out
            have ZD : Hid (Below W0.heap.size W0 w4.drew) := Below.drew Z4.out
            go_region_held3 (fun w' => w'.cell? ⟨w.heap.size, 0, none⟩ = some (.slice a1 n1 c1) ∧ w'.cell? ⟨w.heap.size, 1, none⟩ = some (.slice a2 n2 c2)) (go_keep) (first
              | (go_at_call 9; have := YC; refine (HWk.out _).mono ?_; rintro e wf ⟨rfl, HB⟩; have ZF : Hid (Below W0.heap.size W0 wf) := YC.out.trans (HB.mono YC.out.size); obtain ⟨⟨p4, p0, p1, p2, p3⟩, _⟩ := HT.out _ ZF.out; clear HB YC)
              | (go_at_call 25; have := YB; refine (HSame.out _ _ _ PK YB.out.2.1 YB.out.2.2).mono ?_; rintro e w9 ⟨rfl, hw9⟩; have hw9s := hw9.symm; subst hw9s; have YC : Hid (Below W0.heap.size W0 wB) := YB.out.1; clear hw9 YB)
              | (go_at_call 27; have := Y26; refine (HA.out.2 _ Y26.out.1).mono ?_; rintro e wB ⟨v27, rfl, HR, HB⟩; have YB : Hid (Below W0.heap.size W0 wB ∧ ReadsV wB v26 PK ∧ ReadsV wB v27 PK) := ⟨Y26.out.1.trans (HB.mono Y26.out.1.size), Y26.out.2.below HB, HR⟩; obtain ⟨⟨p4, p0, p1, p2, p3⟩, _⟩ := HT.out _ YB.out.1; clear HB HR Y26)
              | (go_at_call 26; have := Y27; refine (HA.out.1 _ Y27.out.1).mono ?_; rintro e wB ⟨v26, rfl, HR, HB⟩; have YB : Hid (Below W0.heap.size W0 wB ∧ ReadsV wB v26 PK ∧ ReadsV wB v27 PK) := ⟨Y27.out.1.trans (HB.mono Y27.out.1.size), HR, Y27.out.2.below HB⟩; obtain ⟨⟨p4, p0, p1, p2, p3⟩, _⟩ := HT.out _ YB.out.1; clear HB HR Y27)
              | (go_at_call 27; have := Y11; refine (HA.out.2 _ Y11.out).mono ?_; rintro e w27 ⟨v27, rfl, HR, HB⟩; have Y27 : Hid (Below W0.heap.size W0 w27 ∧ ReadsV w27 v27 PK) := ⟨Y11.out.trans (HB.mono Y11.out.size), HR⟩; obtain ⟨⟨p4, p0, p1, p2, p3⟩, _⟩ := HT.out _ Y27.out.1; clear HB HR)
              | (go_at_call 26; have := Y11; refine (HA.out.1 _ Y11.out).mono ?_; rintro e w26 ⟨v26, rfl, HR, HB⟩; have Y26 : Hid (Below W0.heap.size W0 w26 ∧ ReadsV w26 v26 PK) := ⟨Y11.out.trans (HB.mono Y11.out.size), HR⟩; obtain ⟨⟨p4, p0, p1, p2, p3⟩, _⟩ := HT.out _ Y26.out.1; clear HB HR)
              | (go_at_call 11; refine (HC11.out _ ZD.out).mono ?_; rintro e w11 ⟨rfl, HB⟩; have Y11 : Hid (Below W0.heap.size W0 w11) := ZD.out.trans (HB.mono ZD.out.size); obtain ⟨⟨p4, p0, p1, p2, p3⟩, _⟩ := HT.out _ Y11.out; clear HB))
            all_goals go_wp2
            all_goals
              (go_ret
               exact ⟨rfl, (HT.out _ ZF.out).2.1⟩)
          · have HCut : Hid (∀ w', Below W0.heap.size W0 w' → ReadsV w' (.slice (xa.map (fun x => x.add kk)) (b.length - kk) (xc - kk)) rr) := fun w' hb => by
              have h := tailA (HT.out _ hb).2.2.2 hk2 hxk
              rwa [hk3] at h
            clear hk3
            generalize hn3 : b.length = n3 at *
            go_enter Try.func5, Try.ntmps5
            go_wp2_with (first
              | (go_at_call 25; have := Z3b; refine (HSame.out _ _ _ rr Z3b.out.2 (HCut.out _ Z3b.out.1)).mono ?_; rintro e w4b ⟨rfl, hw4⟩; have hw4s := hw4.symm; subst hw4s; have Z4 : Hid (Below W0.heap.size W0 w4) := Z3b.out.1; clear hw4 Z3b)
              | (go_at_call 13; have := Z3; refine (HS1.out _ _ _ Z3.out.2.1 Z3.out.2.2.1).mono ?_; rintro e w4 ⟨rfl, HB⟩; have Z3b : Hid (Below W0.heap.size W0 w4 ∧ ReadsV w4 r2 rr) := ⟨Z3.out.1.trans (HB.mono Z3.out.1.size), Z3.out.2.2.2.below HB⟩; obtain ⟨⟨p4, p0, p1, p2, p3⟩, _⟩ := HT.out _ Z3b.out.1; clear HB Z3)
              | (go_at_call 24; have := Z2; refine (HRr.out _ Z2.out.1).mono ?_; rintro e w3 ⟨e1, f1, e2, f2, rfl, HR, HB⟩; have Z3 : Hid (Below W0.heap.size W0 (w3.alloc (.cells #[.slice e1 L2 f1, .slice e2 L2 f2] 25)) ∧ RdV (w3.alloc (.cells #[.slice e1 L2 f1, .slice e2 L2 f2] 25)) (.agg #[.slice b1 L2 d1, .slice b2 L2 d2]) (nmsOf rl) (valsOf rl) ∧ RdV (w3.alloc (.cells #[.slice e1 L2 f1, .slice e2 L2 f2] 25)) (.agg #[.slice e1 L2 f1, .slice e2 L2 f2]) (nmsOf rl) (valsOf rl) ∧ ReadsV (w3.alloc (.cells #[.slice e1 L2 f1, .slice e2 L2 f2] 25)) r2 rr) := ⟨below_alloc (Z2.out.1.trans (HB.mono Z2.out.1.size)) (Nat.le_refl _) _, (Z2.out.2.1.below HB).below ((Below.refl _ _).alloc (Nat.le_refl _) _), HR.below ((Below.refl _ _).alloc (Nat.le_refl _) _), (Z2.out.2.2.below HB).below ((Below.refl _ _).alloc (Nat.le_refl _) _)⟩; obtain ⟨x4, x0, x1, x2, x3⟩ := (Two.new w2 (.slice b1 L2 d1) (.slice b2 L2 d2) 25).below HB; obtain ⟨⟨p4, p0, p1, p2, p3⟩, _⟩ := HT.out _ (Z2.out.1.trans (HB.mono Z2.out.1.size)); clear HB HR Z2)
              | (go_at_call 23; have := Z1; refine (HRd.out _ Z1.out).mono ?_; rintro e w2 ⟨b1, d1, b2, d2, r2, rfl, HR, HR2, HB⟩; have Z2 : Hid (Below W0.heap.size W0 (w2.alloc (.cells #[.slice b1 L2 d1, .slice b2 L2 d2] 25)) ∧ RdV (w2.alloc (.cells #[.slice b1 L2 d1, .slice b2 L2 d2] 25)) (.agg #[.slice b1 L2 d1, .slice b2 L2 d2]) (nmsOf rl) (valsOf rl) ∧ ReadsV (w2.alloc (.cells #[.slice b1 L2 d1, .slice b2 L2 d2] 25)) r2 rr) := ⟨below_alloc (Z1.out.trans (HB.mono Z1.out.size)) (Nat.le_refl _) _, HR.below ((Below.refl _ _).alloc (Nat.le_refl _) _), HR2.below ((Below.refl _ _).alloc (Nat.le_refl _) _)⟩; obtain ⟨⟨p4, p0, p1, p2, p3⟩, _⟩ := HT.out _ (Z1.out.trans (HB.mono Z1.out.size)); clear HB HR HR2 Z1)
              | (go_at_call 8; rw [← hW0]; refine (HL1.out _ HBr.out).mono ?_; rintro e w1 ⟨rfl, HB⟩; have Z1 : Hid (Below W0.heap.size W0 w1) := HB; obtain ⟨⟨p4, p0, p1, p2, p3⟩, _⟩ := HT.out _ HB; clear HB))
            obtain ⟨⟨p4, p0, p1, p2, p3⟩, _⟩ := HT.out _ Z4.out
            have ZD : Hid (Below W0.heap.size W0 w4.drew) := Below.drew Z4.out
            go_region_held3 (fun w' => w'.cell? ⟨w.heap.size, 0, none⟩ = some (.slice a1 n1 c1) ∧ w'.cell? ⟨w.heap.size, 1, none⟩ = some (.slice a2 n2 c2)) (go_keep) (first
              | (go_at_call 9; have := YC; refine (HWk.out _).mono ?_; rintro e wf ⟨rfl, HB⟩; have ZF : Hid (Below W0.heap.size W0 wf) := YC.out.trans (HB.mono YC.out.size); obtain ⟨⟨p4, p0, p1, p2, p3⟩, _⟩ := HT.out _ ZF.out; clear HB YC)
              | (go_at_call 25; have := YB; refine (HSame.out _ _ _ PK YB.out.2.1 YB.out.2.2).mono ?_; rintro e w9 ⟨rfl, hw9⟩; have hw9s := hw9.symm; subst hw9s; have YC : Hid (Below W0.heap.size W0 wB) := YB.out.1; clear hw9 YB)
              | (go_at_call 27; have := Y26; refine (HA.out.2 _ Y26.out.1).mono ?_; rintro e wB ⟨v27, rfl, HR, HB⟩; have YB : Hid (Below W0.heap.size W0 wB ∧ ReadsV wB v26 PK ∧ ReadsV wB v27 PK) := ⟨Y26.out.1.trans (HB.mono Y26.out.1.size), Y26.out.2.below HB, HR⟩; obtain ⟨⟨p4, p0, p1, p2, p3⟩, _⟩ := HT.out _ YB.out.1; clear HB HR Y26)
              | (go_at_call 26; have := Y27; refine (HA.out.1 _ Y27.out.1).mono ?_; rintro e wB ⟨v26, rfl, HR, HB⟩; have YB : Hid (Below W0.heap.size W0 wB ∧ ReadsV wB v26 PK ∧ ReadsV wB v27 PK) := ⟨Y27.out.1.trans (HB.mono Y27.out.1.size), HR, Y27.out.2.below HB⟩; obtain ⟨⟨p4, p0, p1, p2, p3⟩, _⟩ := HT.out _ YB.out.1; clear HB HR Y27)
              | (go_at_call 27; have := Y11; refine (HA.out.2 _ Y11.out).mono ?_; rintro e w27 ⟨v27, rfl, HR, HB⟩; have Y27 : Hid (Below W0.heap.size W0 w27 ∧ ReadsV w27 v27 PK) := ⟨Y11.out.trans (HB.mono Y11.out.size), HR⟩; obtain ⟨⟨p4, p0, p1, p2, p3⟩, _⟩ := HT.out _ Y27.out.1; clear HB HR)
              | (go_at_call 26; have := Y11; refine (HA.out.1 _ Y11.out).mono ?_; rintro e w26 ⟨v26, rfl, HR, HB⟩; have Y26 : Hid (Below W0.heap.size W0 w26 ∧ ReadsV w26 v26 PK) := ⟨Y11.out.trans (HB.mono Y11.out.size), HR⟩; obtain ⟨⟨p4, p0, p1, p2, p3⟩, _⟩ := HT.out _ Y26.out.1; clear HB HR)
              | (go_at_call 11; refine (HC11.out _ ZD.out).mono ?_; rintro e w11 ⟨rfl, HB⟩; have Y11 : Hid (Below W0.heap.size W0 w11) := ZD.out.trans (HB.mono ZD.out.size); obtain ⟨⟨p4, p0, p1, p2, p3⟩, _⟩ := HT.out _ Y11.out; clear HB))
            all_goals go_wp2
            all_goals
              (go_ret
               exact ⟨rfl, (HT.out _ ZF.out).2.1⟩)
      · rcases (by have := chk_vals ns vs; omega : chk ns vs = 1 ∨ chk ns vs = 6) with hck | hck
        · cases hrm : readM b with
          | error cc =>
            rw [hck] at HC11
            have HC11 : Hid (∀ w', Below W0.heap.size W0 w' → Calls Try.prog 11 #[.agg #[.slice a1 ns.length c1, .slice a2 vs.length c2]] w' fun e w2 => e = .returned (.int .i64 1) ∧ Below w'.heap.size w' w2) := HC11
            have HRd : Hid (∀ w', Below W0.heap.size W0 w' → Calls Try.prog 23 #[.slice xa b.length xc] w' fun e w2 => e = .returned (.tuple #[.agg #[.slice none 0 0, .slice none 0 0], .slice none 0 0, .int .i64 cc]) ∧ Below w'.heap.size w' w2) := fun w' hb => read_err (HT.out _ hb).2.2.2 (by omega) hrm
            have HRr : Hid (∀ w', Below W0.heap.size W0 w' → Calls Try.prog 24 #[.slice xa b.length xc] w' fun e w2 => e = .returned (.tuple #[.agg #[.slice none 0 0, .slice none 0 0], .int .i64 0, .int .i64 cc]) ∧ Below w'.heap.size w' w2) := fun w' hb => rread_err (HT.out _ hb).2.2.2 (by omega) hrm
            have HS0 : Hid (∀ w', Calls Try.prog 13 #[.agg #[.slice none 0 0, .slice none 0 0], .agg #[.slice none 0 0, .slice none 0 0]] w' fun e w2 => e = .returned (.bool true) ∧ Below w'.heap.size w' w2) := fun w' => by
              have := rSame_any _ _ _ _ _ _ w' (RdV.nil w') (RdV.nil w')
              simpa using this
            have hne2 : ¬ cc = 0 := readM_err hrm
            clear hv hx hV hl1 z1 z2 z3 hck hrm
            generalize hn1 : ns.length = n1 at *
            generalize hn2 : vs.length = n2 at *
            generalize hn3 : b.length = n3 at *
            go_enter Try.func5, Try.ntmps5
            go_wp2_with (first
              | (go_at_call 13; have := Z3; refine (HS0.out _).mono ?_; rintro e w4 ⟨rfl, HB⟩; have Z4 : Hid (Below W0.heap.size W0 w4) := Z3.out.trans (HB.mono Z3.out.size); obtain ⟨⟨p4, p0, p1, p2, p3⟩, _⟩ := HT.out _ Z4.out; clear HB Z3)
              | (go_at_call 24; have := Z2; refine (HRr.out _ Z2.out).mono ?_; rintro e w3 ⟨rfl, HB⟩; have Z3 : Hid (Below W0.heap.size W0 (w3.alloc (.cells #[.slice none 0 0, .slice none 0 0] 25))) := below_alloc (Z2.out.trans (HB.mono Z2.out.size)) (Nat.le_refl _) _; obtain ⟨x4, x0, x1, x2, x3⟩ := (Two.new w2 (.slice none 0 0) (.slice none 0 0) 25).below HB; obtain ⟨⟨p4, p0, p1, p2, p3⟩, _⟩ := HT.out _ (Z2.out.trans (HB.mono Z2.out.size)); clear HB Z2)
              | (go_at_call 23; have := Z1; refine (HRd.out _ Z1.out).mono ?_; rintro e w2 ⟨rfl, HB⟩; have Z2 : Hid (Below W0.heap.size W0 (w2.alloc (.cells #[.slice none 0 0, .slice none 0 0] 25))) := below_alloc (Z1.out.trans (HB.mono Z1.out.size)) (Nat.le_refl _) _; obtain ⟨⟨p4, p0, p1, p2, p3⟩, _⟩ := HT.out _ (Z1.out.trans (HB.mono Z1.out.size)); clear HB Z1)
              | (go_at_call 8; rw [← hW0]; refine (HL1.out _ HBr.out).mono ?_; rintro e w1 ⟨rfl, HB⟩; have Z1 : Hid (Below W0.heap.size W0 w1) := HB; obtain ⟨⟨p4, p0, p1, p2, p3⟩, _⟩ := HT.out _ HB; clear HB))
            obtain ⟨⟨p4, p0, p1, p2, p3⟩, _⟩ := HT.out _ Z4.out
            have ZD : Hid (Below W0.heap.size W0 w4.drew) := Below.drew Z4.out
            go_region_with (first
              | (go_at_call 9; have := Y11; refine (HWk.out _).mono ?_; rintro e wf ⟨rfl, HB⟩; have ZF : Hid (Below W0.heap.size W0 wf) := Y11.out.trans (HB.mono Y11.out.size); obtain ⟨⟨p4, p0, p1, p2, p3⟩, _⟩ := HT.out _ ZF.out; clear HB Y11)
              | (go_at_call 11; refine (HC11.out _ ZD.out).mono ?_; rintro e w11 ⟨rfl, HB⟩; have Y11 : Hid (Below W0.heap.size W0 w11) := ZD.out.trans (HB.mono ZD.out.size); obtain ⟨⟨p4, p0, p1, p2, p3⟩, _⟩ := HT.out _ Y11.out; clear HB))
            all_goals go_wp2
            all_goals
              (go_ret
               exact ⟨rfl, (HT.out _ ZF.out).2.1⟩)
          | ok lr =>
            obtain ⟨rl, rr⟩ := lr
            rw [hck] at HC11
            have HC11 : Hid (∀ w', Below W0.heap.size W0 w' → Calls Try.prog 11 #[.agg #[.slice a1 ns.length c1, .slice a2 vs.length c2]] w' fun e w2 => e = .returned (.int .i64 1) ∧ Below w'.heap.size w' w2) := HC11
            have HRd : Hid (∀ w', Below W0.heap.size W0 w' → Calls Try.prog 23 #[.slice xa b.length xc] w' fun e w2 => ∃ b1 d1 b2 d2 rv, e = .returned (.tuple #[.agg #[.slice b1 rl.length d1, .slice b2 rl.length d2], rv, .int .i64 0]) ∧ RdV w2 (.agg #[.slice b1 rl.length d1, .slice b2 rl.length d2]) (nmsOf rl) (valsOf rl) ∧ ReadsV w2 rv rr ∧ Below w'.heap.size w' w2) := fun w' hb => read_form (HT.out _ hb).2.2.2 (by omega) hrm
            have HRr : Hid (∀ w', Below W0.heap.size W0 w' → Calls Try.prog 24 #[.slice xa b.length xc] w' fun e w2 => ∃ b1 d1 b2 d2, e = .returned (.tuple #[.agg #[.slice b1 rl.length d1, .slice b2 rl.length d2], .int .i64 (b.length - rr.length : Nat), .int .i64 0]) ∧ RdV w2 (.agg #[.slice b1 rl.length d1, .slice b2 rl.length d2]) (nmsOf rl) (valsOf rl) ∧ Below w'.heap.size w' w2) := fun w' hb => rread_form (HT.out _ hb).2.2.2 (by omega) hrm
            have HS1 : Hid (∀ w' X Y, RdV w' X (nmsOf rl) (valsOf rl) → RdV w' Y (nmsOf rl) (valsOf rl) → Calls Try.prog 13 #[X, Y] w' fun e w2 => e = .returned (.bool true) ∧ Below w'.heap.size w' w2) := fun w' X Y h1 h2 => by
              have := rSame_any _ _ _ _ X Y w' h1 h2
              simpa using this
            have hbk := (readM_back hrm).1
            have hkk : ∃ kk, b.length - rr.length = kk ∧ kk ≤ b.length ∧ b.drop kk = rr := by
              refine ⟨(packV rl).length, ?_, ?_, ?_⟩
              · rw [← hbk, List.length_append]; omega
              · rw [← hbk, List.length_append]; omega
              · rw [← hbk, List.drop_left]
            obtain ⟨kk, hk1, hk2, hk3⟩ := hkk
            rw [hk1] at HRr
            clear hk1 hbk
            clear hv hx hV hl1 z1 z2 z3 hck hrm
            generalize hn1 : ns.length = n1 at *
            generalize hn2 : vs.length = n2 at *
            generalize hL2 : rl.length = L2 at *
            by_cases hxk : xc = kk
            · have hbb : b.length = kk := by omega
              have HCut : Hid (∀ w', Below W0.heap.size W0 w' → ReadsV w' (.slice xa 0 0) rr) := fun w' hb => by
                have h0 : rr = [] := by rw [← hk3]; exact List.drop_eq_nil_of_le (by omega)
                rw [h0]
                exact ⟨xa, 0, rfl, fun _ => rfl, Nat.le_refl _, by decide, by decide, .inl rfl⟩
              clear hk3 hk2
              generalize b.length = n3 at *
              subst hbb
              subst hxk
              go_enter Try.func5, Try.ntmps5
              go_wp2_with (first
                | (go_at_call 25; have := Z3b; refine (HSame.out _ _ _ rr Z3b.out.2 (HCut.out _ Z3b.out.1)).mono ?_; rintro e w4b ⟨rfl, hw4⟩; have hw4s := hw4.symm; subst hw4s; have Z4 : Hid (Below W0.heap.size W0 w4) := Z3b.out.1; clear hw4 Z3b)
                | (go_at_call 13; have := Z3; refine (HS1.out _ _ _ Z3.out.2.1 Z3.out.2.2.1).mono ?_; rintro e w4 ⟨rfl, HB⟩; have Z3b : Hid (Below W0.heap.size W0 w4 ∧ ReadsV w4 r2 rr) := ⟨Z3.out.1.trans (HB.mono Z3.out.1.size), Z3.out.2.2.2.below HB⟩; obtain ⟨⟨p4, p0, p1, p2, p3⟩, _⟩ := HT.out _ Z3b.out.1; clear HB Z3)
                | (go_at_call 24; have := Z2; refine (HRr.out _ Z2.out.1).mono ?_; rintro e w3 ⟨e1, f1, e2, f2, rfl, HR, HB⟩; have Z3 : Hid (Below W0.heap.size W0 (w3.alloc (.cells #[.slice e1 L2 f1, .slice e2 L2 f2] 25)) ∧ RdV (w3.alloc (.cells #[.slice e1 L2 f1, .slice e2 L2 f2] 25)) (.agg #[.slice b1 L2 d1, .slice b2 L2 d2]) (nmsOf rl) (valsOf rl) ∧ RdV (w3.alloc (.cells #[.slice e1 L2 f1, .slice e2 L2 f2] 25)) (.agg #[.slice e1 L2 f1, .slice e2 L2 f2]) (nmsOf rl) (valsOf rl) ∧ ReadsV (w3.alloc (.cells #[.slice e1 L2 f1, .slice e2 L2 f2] 25)) r2 rr) := ⟨below_alloc (Z2.out.1.trans (HB.mono Z2.out.1.size)) (Nat.le_refl _) _, (Z2.out.2.1.below HB).below ((Below.refl _ _).alloc (Nat.le_refl _) _), HR.below ((Below.refl _ _).alloc (Nat.le_refl _) _), (Z2.out.2.2.below HB).below ((Below.refl _ _).alloc (Nat.le_refl _) _)⟩; obtain ⟨x4, x0, x1, x2, x3⟩ := (Two.new w2 (.slice b1 L2 d1) (.slice b2 L2 d2) 25).below HB; obtain ⟨⟨p4, p0, p1, p2, p3⟩, _⟩ := HT.out _ (Z2.out.1.trans (HB.mono Z2.out.1.size)); clear HB HR Z2)
                | (go_at_call 23; have := Z1; refine (HRd.out _ Z1.out).mono ?_; rintro e w2 ⟨b1, d1, b2, d2, r2, rfl, HR, HR2, HB⟩; have Z2 : Hid (Below W0.heap.size W0 (w2.alloc (.cells #[.slice b1 L2 d1, .slice b2 L2 d2] 25)) ∧ RdV (w2.alloc (.cells #[.slice b1 L2 d1, .slice b2 L2 d2] 25)) (.agg #[.slice b1 L2 d1, .slice b2 L2 d2]) (nmsOf rl) (valsOf rl) ∧ ReadsV (w2.alloc (.cells #[.slice b1 L2 d1, .slice b2 L2 d2] 25)) r2 rr) := ⟨below_alloc (Z1.out.trans (HB.mono Z1.out.size)) (Nat.le_refl _) _, HR.below ((Below.refl _ _).alloc (Nat.le_refl _) _), HR2.below ((Below.refl _ _).alloc (Nat.le_refl _) _)⟩; obtain ⟨⟨p4, p0, p1, p2, p3⟩, _⟩ := HT.out _ (Z1.out.trans (HB.mono Z1.out.size)); clear HB HR HR2 Z1)
                | (go_at_call 8; rw [← hW0]; refine (HL1.out _ HBr.out).mono ?_; rintro e w1 ⟨rfl, HB⟩; have Z1 : Hid (Below W0.heap.size W0 w1) := HB; obtain ⟨⟨p4, p0, p1, p2, p3⟩, _⟩ := HT.out _ HB; clear HB))
              obtain ⟨⟨p4, p0, p1, p2, p3⟩, _⟩ := HT.out _ Z4.out
              have ZD : Hid (Below W0.heap.size W0 w4.drew) := Below.drew Z4.out
              go_region_with (first
                | (go_at_call 9; have := Y11; refine (HWk.out _).mono ?_; rintro e wf ⟨rfl, HB⟩; have ZF : Hid (Below W0.heap.size W0 wf) := Y11.out.trans (HB.mono Y11.out.size); obtain ⟨⟨p4, p0, p1, p2, p3⟩, _⟩ := HT.out _ ZF.out; clear HB Y11)
                | (go_at_call 11; refine (HC11.out _ ZD.out).mono ?_; rintro e w11 ⟨rfl, HB⟩; have Y11 : Hid (Below W0.heap.size W0 w11) := ZD.out.trans (HB.mono ZD.out.size); obtain ⟨⟨p4, p0, p1, p2, p3⟩, _⟩ := HT.out _ Y11.out; clear HB))
              all_goals go_wp2
              all_goals
                (go_ret
                 exact ⟨rfl, (HT.out _ ZF.out).2.1⟩)
            · have HCut : Hid (∀ w', Below W0.heap.size W0 w' → ReadsV w' (.slice (xa.map (fun x => x.add kk)) (b.length - kk) (xc - kk)) rr) := fun w' hb => by
                have h := tailA (HT.out _ hb).2.2.2 hk2 hxk
                rwa [hk3] at h
              clear hk3
              generalize hn3 : b.length = n3 at *
              go_enter Try.func5, Try.ntmps5
              go_wp2_with (first
                | (go_at_call 25; have := Z3b; refine (HSame.out _ _ _ rr Z3b.out.2 (HCut.out _ Z3b.out.1)).mono ?_; rintro e w4b ⟨rfl, hw4⟩; have hw4s := hw4.symm; subst hw4s; have Z4 : Hid (Below W0.heap.size W0 w4) := Z3b.out.1; clear hw4 Z3b)
                | (go_at_call 13; have := Z3; refine (HS1.out _ _ _ Z3.out.2.1 Z3.out.2.2.1).mono ?_; rintro e w4 ⟨rfl, HB⟩; have Z3b : Hid (Below W0.heap.size W0 w4 ∧ ReadsV w4 r2 rr) := ⟨Z3.out.1.trans (HB.mono Z3.out.1.size), Z3.out.2.2.2.below HB⟩; obtain ⟨⟨p4, p0, p1, p2, p3⟩, _⟩ := HT.out _ Z3b.out.1; clear HB Z3)
                | (go_at_call 24; have := Z2; refine (HRr.out _ Z2.out.1).mono ?_; rintro e w3 ⟨e1, f1, e2, f2, rfl, HR, HB⟩; have Z3 : Hid (Below W0.heap.size W0 (w3.alloc (.cells #[.slice e1 L2 f1, .slice e2 L2 f2] 25)) ∧ RdV (w3.alloc (.cells #[.slice e1 L2 f1, .slice e2 L2 f2] 25)) (.agg #[.slice b1 L2 d1, .slice b2 L2 d2]) (nmsOf rl) (valsOf rl) ∧ RdV (w3.alloc (.cells #[.slice e1 L2 f1, .slice e2 L2 f2] 25)) (.agg #[.slice e1 L2 f1, .slice e2 L2 f2]) (nmsOf rl) (valsOf rl) ∧ ReadsV (w3.alloc (.cells #[.slice e1 L2 f1, .slice e2 L2 f2] 25)) r2 rr) := ⟨below_alloc (Z2.out.1.trans (HB.mono Z2.out.1.size)) (Nat.le_refl _) _, (Z2.out.2.1.below HB).below ((Below.refl _ _).alloc (Nat.le_refl _) _), HR.below ((Below.refl _ _).alloc (Nat.le_refl _) _), (Z2.out.2.2.below HB).below ((Below.refl _ _).alloc (Nat.le_refl _) _)⟩; obtain ⟨x4, x0, x1, x2, x3⟩ := (Two.new w2 (.slice b1 L2 d1) (.slice b2 L2 d2) 25).below HB; obtain ⟨⟨p4, p0, p1, p2, p3⟩, _⟩ := HT.out _ (Z2.out.1.trans (HB.mono Z2.out.1.size)); clear HB HR Z2)
                | (go_at_call 23; have := Z1; refine (HRd.out _ Z1.out).mono ?_; rintro e w2 ⟨b1, d1, b2, d2, r2, rfl, HR, HR2, HB⟩; have Z2 : Hid (Below W0.heap.size W0 (w2.alloc (.cells #[.slice b1 L2 d1, .slice b2 L2 d2] 25)) ∧ RdV (w2.alloc (.cells #[.slice b1 L2 d1, .slice b2 L2 d2] 25)) (.agg #[.slice b1 L2 d1, .slice b2 L2 d2]) (nmsOf rl) (valsOf rl) ∧ ReadsV (w2.alloc (.cells #[.slice b1 L2 d1, .slice b2 L2 d2] 25)) r2 rr) := ⟨below_alloc (Z1.out.trans (HB.mono Z1.out.size)) (Nat.le_refl _) _, HR.below ((Below.refl _ _).alloc (Nat.le_refl _) _), HR2.below ((Below.refl _ _).alloc (Nat.le_refl _) _)⟩; obtain ⟨⟨p4, p0, p1, p2, p3⟩, _⟩ := HT.out _ (Z1.out.trans (HB.mono Z1.out.size)); clear HB HR HR2 Z1)
                | (go_at_call 8; rw [← hW0]; refine (HL1.out _ HBr.out).mono ?_; rintro e w1 ⟨rfl, HB⟩; have Z1 : Hid (Below W0.heap.size W0 w1) := HB; obtain ⟨⟨p4, p0, p1, p2, p3⟩, _⟩ := HT.out _ HB; clear HB))
              obtain ⟨⟨p4, p0, p1, p2, p3⟩, _⟩ := HT.out _ Z4.out
              have ZD : Hid (Below W0.heap.size W0 w4.drew) := Below.drew Z4.out
              go_region_with (first
                | (go_at_call 9; have := Y11; refine (HWk.out _).mono ?_; rintro e wf ⟨rfl, HB⟩; have ZF : Hid (Below W0.heap.size W0 wf) := Y11.out.trans (HB.mono Y11.out.size); obtain ⟨⟨p4, p0, p1, p2, p3⟩, _⟩ := HT.out _ ZF.out; clear HB Y11)
                | (go_at_call 11; refine (HC11.out _ ZD.out).mono ?_; rintro e w11 ⟨rfl, HB⟩; have Y11 : Hid (Below W0.heap.size W0 w11) := ZD.out.trans (HB.mono ZD.out.size); obtain ⟨⟨p4, p0, p1, p2, p3⟩, _⟩ := HT.out _ Y11.out; clear HB))
              all_goals go_wp2
              all_goals
                (go_ret
                 exact ⟨rfl, (HT.out _ ZF.out).2.1⟩)
        · cases hrm : readM b with
          | error cc =>
            rw [hck] at HC11
            have HC11 : Hid (∀ w', Below W0.heap.size W0 w' → Calls Try.prog 11 #[.agg #[.slice a1 ns.length c1, .slice a2 vs.length c2]] w' fun e w2 => e = .returned (.int .i64 6) ∧ Below w'.heap.size w' w2) := HC11
            have HRd : Hid (∀ w', Below W0.heap.size W0 w' → Calls Try.prog 23 #[.slice xa b.length xc] w' fun e w2 => e = .returned (.tuple #[.agg #[.slice none 0 0, .slice none 0 0], .slice none 0 0, .int .i64 cc]) ∧ Below w'.heap.size w' w2) := fun w' hb => read_err (HT.out _ hb).2.2.2 (by omega) hrm
            have HRr : Hid (∀ w', Below W0.heap.size W0 w' → Calls Try.prog 24 #[.slice xa b.length xc] w' fun e w2 => e = .returned (.tuple #[.agg #[.slice none 0 0, .slice none 0 0], .int .i64 0, .int .i64 cc]) ∧ Below w'.heap.size w' w2) := fun w' hb => rread_err (HT.out _ hb).2.2.2 (by omega) hrm
            have HS0 : Hid (∀ w', Calls Try.prog 13 #[.agg #[.slice none 0 0, .slice none 0 0], .agg #[.slice none 0 0, .slice none 0 0]] w' fun e w2 => e = .returned (.bool true) ∧ Below w'.heap.size w' w2) := fun w' => by
              have := rSame_any _ _ _ _ _ _ w' (RdV.nil w') (RdV.nil w')
              simpa using this
            have hne2 : ¬ cc = 0 := readM_err hrm
            clear hv hx hV hl1 z1 z2 z3 hck hrm
            generalize hn1 : ns.length = n1 at *
            generalize hn2 : vs.length = n2 at *
            generalize hn3 : b.length = n3 at *
            go_enter Try.func5, Try.ntmps5
            go_wp2_with (first
              | (go_at_call 13; have := Z3; refine (HS0.out _).mono ?_; rintro e w4 ⟨rfl, HB⟩; have Z4 : Hid (Below W0.heap.size W0 w4) := Z3.out.trans (HB.mono Z3.out.size); obtain ⟨⟨p4, p0, p1, p2, p3⟩, _⟩ := HT.out _ Z4.out; clear HB Z3)
              | (go_at_call 24; have := Z2; refine (HRr.out _ Z2.out).mono ?_; rintro e w3 ⟨rfl, HB⟩; have Z3 : Hid (Below W0.heap.size W0 (w3.alloc (.cells #[.slice none 0 0, .slice none 0 0] 25))) := below_alloc (Z2.out.trans (HB.mono Z2.out.size)) (Nat.le_refl _) _; obtain ⟨x4, x0, x1, x2, x3⟩ := (Two.new w2 (.slice none 0 0) (.slice none 0 0) 25).below HB; obtain ⟨⟨p4, p0, p1, p2, p3⟩, _⟩ := HT.out _ (Z2.out.trans (HB.mono Z2.out.size)); clear HB Z2)
              | (go_at_call 23; have := Z1; refine (HRd.out _ Z1.out).mono ?_; rintro e w2 ⟨rfl, HB⟩; have Z2 : Hid (Below W0.heap.size W0 (w2.alloc (.cells #[.slice none 0 0, .slice none 0 0] 25))) := below_alloc (Z1.out.trans (HB.mono Z1.out.size)) (Nat.le_refl _) _; obtain ⟨⟨p4, p0, p1, p2, p3⟩, _⟩ := HT.out _ (Z1.out.trans (HB.mono Z1.out.size)); clear HB Z1)
              | (go_at_call 8; rw [← hW0]; refine (HL1.out _ HBr.out).mono ?_; rintro e w1 ⟨rfl, HB⟩; have Z1 : Hid (Below W0.heap.size W0 w1) := HB; obtain ⟨⟨p4, p0, p1, p2, p3⟩, _⟩ := HT.out _ HB; clear HB))
            obtain ⟨⟨p4, p0, p1, p2, p3⟩, _⟩ := HT.out _ Z4.out
            have ZD : Hid (Below W0.heap.size W0 w4.drew) := Below.drew Z4.out
            go_region_with (first
              | (go_at_call 9; have := Y11; refine (HWk.out _).mono ?_; rintro e wf ⟨rfl, HB⟩; have ZF : Hid (Below W0.heap.size W0 wf) := Y11.out.trans (HB.mono Y11.out.size); obtain ⟨⟨p4, p0, p1, p2, p3⟩, _⟩ := HT.out _ ZF.out; clear HB Y11)
              | (go_at_call 11; refine (HC11.out _ ZD.out).mono ?_; rintro e w11 ⟨rfl, HB⟩; have Y11 : Hid (Below W0.heap.size W0 w11) := ZD.out.trans (HB.mono ZD.out.size); obtain ⟨⟨p4, p0, p1, p2, p3⟩, _⟩ := HT.out _ Y11.out; clear HB))
            all_goals go_wp2
            all_goals
              (go_ret
               exact ⟨rfl, (HT.out _ ZF.out).2.1⟩)
          | ok lr =>
            obtain ⟨rl, rr⟩ := lr
            rw [hck] at HC11
            have HC11 : Hid (∀ w', Below W0.heap.size W0 w' → Calls Try.prog 11 #[.agg #[.slice a1 ns.length c1, .slice a2 vs.length c2]] w' fun e w2 => e = .returned (.int .i64 6) ∧ Below w'.heap.size w' w2) := HC11
            have HRd : Hid (∀ w', Below W0.heap.size W0 w' → Calls Try.prog 23 #[.slice xa b.length xc] w' fun e w2 => ∃ b1 d1 b2 d2 rv, e = .returned (.tuple #[.agg #[.slice b1 rl.length d1, .slice b2 rl.length d2], rv, .int .i64 0]) ∧ RdV w2 (.agg #[.slice b1 rl.length d1, .slice b2 rl.length d2]) (nmsOf rl) (valsOf rl) ∧ ReadsV w2 rv rr ∧ Below w'.heap.size w' w2) := fun w' hb => read_form (HT.out _ hb).2.2.2 (by omega) hrm
            have HRr : Hid (∀ w', Below W0.heap.size W0 w' → Calls Try.prog 24 #[.slice xa b.length xc] w' fun e w2 => ∃ b1 d1 b2 d2, e = .returned (.tuple #[.agg #[.slice b1 rl.length d1, .slice b2 rl.length d2], .int .i64 (b.length - rr.length : Nat), .int .i64 0]) ∧ RdV w2 (.agg #[.slice b1 rl.length d1, .slice b2 rl.length d2]) (nmsOf rl) (valsOf rl) ∧ Below w'.heap.size w' w2) := fun w' hb => rread_form (HT.out _ hb).2.2.2 (by omega) hrm
            have HS1 : Hid (∀ w' X Y, RdV w' X (nmsOf rl) (valsOf rl) → RdV w' Y (nmsOf rl) (valsOf rl) → Calls Try.prog 13 #[X, Y] w' fun e w2 => e = .returned (.bool true) ∧ Below w'.heap.size w' w2) := fun w' X Y h1 h2 => by
              have := rSame_any _ _ _ _ X Y w' h1 h2
              simpa using this
            have hbk := (readM_back hrm).1
            have hkk : ∃ kk, b.length - rr.length = kk ∧ kk ≤ b.length ∧ b.drop kk = rr := by
              refine ⟨(packV rl).length, ?_, ?_, ?_⟩
              · rw [← hbk, List.length_append]; omega
              · rw [← hbk, List.length_append]; omega
              · rw [← hbk, List.drop_left]
            obtain ⟨kk, hk1, hk2, hk3⟩ := hkk
            rw [hk1] at HRr
            clear hk1 hbk
            clear hv hx hV hl1 z1 z2 z3 hck hrm
            generalize hn1 : ns.length = n1 at *
            generalize hn2 : vs.length = n2 at *
            generalize hL2 : rl.length = L2 at *
            by_cases hxk : xc = kk
            · have hbb : b.length = kk := by omega
              have HCut : Hid (∀ w', Below W0.heap.size W0 w' → ReadsV w' (.slice xa 0 0) rr) := fun w' hb => by
                have h0 : rr = [] := by rw [← hk3]; exact List.drop_eq_nil_of_le (by omega)
                rw [h0]
                exact ⟨xa, 0, rfl, fun _ => rfl, Nat.le_refl _, by decide, by decide, .inl rfl⟩
              clear hk3 hk2
              generalize b.length = n3 at *
              subst hbb
              subst hxk
              go_enter Try.func5, Try.ntmps5
              go_wp2_with (first
                | (go_at_call 25; have := Z3b; refine (HSame.out _ _ _ rr Z3b.out.2 (HCut.out _ Z3b.out.1)).mono ?_; rintro e w4b ⟨rfl, hw4⟩; have hw4s := hw4.symm; subst hw4s; have Z4 : Hid (Below W0.heap.size W0 w4) := Z3b.out.1; clear hw4 Z3b)
                | (go_at_call 13; have := Z3; refine (HS1.out _ _ _ Z3.out.2.1 Z3.out.2.2.1).mono ?_; rintro e w4 ⟨rfl, HB⟩; have Z3b : Hid (Below W0.heap.size W0 w4 ∧ ReadsV w4 r2 rr) := ⟨Z3.out.1.trans (HB.mono Z3.out.1.size), Z3.out.2.2.2.below HB⟩; obtain ⟨⟨p4, p0, p1, p2, p3⟩, _⟩ := HT.out _ Z3b.out.1; clear HB Z3)
                | (go_at_call 24; have := Z2; refine (HRr.out _ Z2.out.1).mono ?_; rintro e w3 ⟨e1, f1, e2, f2, rfl, HR, HB⟩; have Z3 : Hid (Below W0.heap.size W0 (w3.alloc (.cells #[.slice e1 L2 f1, .slice e2 L2 f2] 25)) ∧ RdV (w3.alloc (.cells #[.slice e1 L2 f1, .slice e2 L2 f2] 25)) (.agg #[.slice b1 L2 d1, .slice b2 L2 d2]) (nmsOf rl) (valsOf rl) ∧ RdV (w3.alloc (.cells #[.slice e1 L2 f1, .slice e2 L2 f2] 25)) (.agg #[.slice e1 L2 f1, .slice e2 L2 f2]) (nmsOf rl) (valsOf rl) ∧ ReadsV (w3.alloc (.cells #[.slice e1 L2 f1, .slice e2 L2 f2] 25)) r2 rr) := ⟨below_alloc (Z2.out.1.trans (HB.mono Z2.out.1.size)) (Nat.le_refl _) _, (Z2.out.2.1.below HB).below ((Below.refl _ _).alloc (Nat.le_refl _) _), HR.below ((Below.refl _ _).alloc (Nat.le_refl _) _), (Z2.out.2.2.below HB).below ((Below.refl _ _).alloc (Nat.le_refl _) _)⟩; obtain ⟨x4, x0, x1, x2, x3⟩ := (Two.new w2 (.slice b1 L2 d1) (.slice b2 L2 d2) 25).below HB; obtain ⟨⟨p4, p0, p1, p2, p3⟩, _⟩ := HT.out _ (Z2.out.1.trans (HB.mono Z2.out.1.size)); clear HB HR Z2)
                | (go_at_call 23; have := Z1; refine (HRd.out _ Z1.out).mono ?_; rintro e w2 ⟨b1, d1, b2, d2, r2, rfl, HR, HR2, HB⟩; have Z2 : Hid (Below W0.heap.size W0 (w2.alloc (.cells #[.slice b1 L2 d1, .slice b2 L2 d2] 25)) ∧ RdV (w2.alloc (.cells #[.slice b1 L2 d1, .slice b2 L2 d2] 25)) (.agg #[.slice b1 L2 d1, .slice b2 L2 d2]) (nmsOf rl) (valsOf rl) ∧ ReadsV (w2.alloc (.cells #[.slice b1 L2 d1, .slice b2 L2 d2] 25)) r2 rr) := ⟨below_alloc (Z1.out.trans (HB.mono Z1.out.size)) (Nat.le_refl _) _, HR.below ((Below.refl _ _).alloc (Nat.le_refl _) _), HR2.below ((Below.refl _ _).alloc (Nat.le_refl _) _)⟩; obtain ⟨⟨p4, p0, p1, p2, p3⟩, _⟩ := HT.out _ (Z1.out.trans (HB.mono Z1.out.size)); clear HB HR HR2 Z1)
                | (go_at_call 8; rw [← hW0]; refine (HL1.out _ HBr.out).mono ?_; rintro e w1 ⟨rfl, HB⟩; have Z1 : Hid (Below W0.heap.size W0 w1) := HB; obtain ⟨⟨p4, p0, p1, p2, p3⟩, _⟩ := HT.out _ HB; clear HB))
              obtain ⟨⟨p4, p0, p1, p2, p3⟩, _⟩ := HT.out _ Z4.out
              have ZD : Hid (Below W0.heap.size W0 w4.drew) := Below.drew Z4.out
              go_region_with (first
                | (go_at_call 9; have := Y11; refine (HWk.out _).mono ?_; rintro e wf ⟨rfl, HB⟩; have ZF : Hid (Below W0.heap.size W0 wf) := Y11.out.trans (HB.mono Y11.out.size); obtain ⟨⟨p4, p0, p1, p2, p3⟩, _⟩ := HT.out _ ZF.out; clear HB Y11)
                | (go_at_call 11; refine (HC11.out _ ZD.out).mono ?_; rintro e w11 ⟨rfl, HB⟩; have Y11 : Hid (Below W0.heap.size W0 w11) := ZD.out.trans (HB.mono ZD.out.size); obtain ⟨⟨p4, p0, p1, p2, p3⟩, _⟩ := HT.out _ Y11.out; clear HB))
              all_goals go_wp2
              all_goals
                (go_ret
                 exact ⟨rfl, (HT.out _ ZF.out).2.1⟩)
            · have HCut : Hid (∀ w', Below W0.heap.size W0 w' → ReadsV w' (.slice (xa.map (fun x => x.add kk)) (b.length - kk) (xc - kk)) rr) := fun w' hb => by
                have h := tailA (HT.out _ hb).2.2.2 hk2 hxk
                rwa [hk3] at h
              clear hk3
              generalize hn3 : b.length = n3 at *
              go_enter Try.func5, Try.ntmps5
              go_wp2_with (first
                | (go_at_call 25; have := Z3b; refine (HSame.out _ _ _ rr Z3b.out.2 (HCut.out _ Z3b.out.1)).mono ?_; rintro e w4b ⟨rfl, hw4⟩; have hw4s := hw4.symm; subst hw4s; have Z4 : Hid (Below W0.heap.size W0 w4) := Z3b.out.1; clear hw4 Z3b)
                | (go_at_call 13; have := Z3; refine (HS1.out _ _ _ Z3.out.2.1 Z3.out.2.2.1).mono ?_; rintro e w4 ⟨rfl, HB⟩; have Z3b : Hid (Below W0.heap.size W0 w4 ∧ ReadsV w4 r2 rr) := ⟨Z3.out.1.trans (HB.mono Z3.out.1.size), Z3.out.2.2.2.below HB⟩; obtain ⟨⟨p4, p0, p1, p2, p3⟩, _⟩ := HT.out _ Z3b.out.1; clear HB Z3)
                | (go_at_call 24; have := Z2; refine (HRr.out _ Z2.out.1).mono ?_; rintro e w3 ⟨e1, f1, e2, f2, rfl, HR, HB⟩; have Z3 : Hid (Below W0.heap.size W0 (w3.alloc (.cells #[.slice e1 L2 f1, .slice e2 L2 f2] 25)) ∧ RdV (w3.alloc (.cells #[.slice e1 L2 f1, .slice e2 L2 f2] 25)) (.agg #[.slice b1 L2 d1, .slice b2 L2 d2]) (nmsOf rl) (valsOf rl) ∧ RdV (w3.alloc (.cells #[.slice e1 L2 f1, .slice e2 L2 f2] 25)) (.agg #[.slice e1 L2 f1, .slice e2 L2 f2]) (nmsOf rl) (valsOf rl) ∧ ReadsV (w3.alloc (.cells #[.slice e1 L2 f1, .slice e2 L2 f2] 25)) r2 rr) := ⟨below_alloc (Z2.out.1.trans (HB.mono Z2.out.1.size)) (Nat.le_refl _) _, (Z2.out.2.1.below HB).below ((Below.refl _ _).alloc (Nat.le_refl _) _), HR.below ((Below.refl _ _).alloc (Nat.le_refl _) _), (Z2.out.2.2.below HB).below ((Below.refl _ _).alloc (Nat.le_refl _) _)⟩; obtain ⟨x4, x0, x1, x2, x3⟩ := (Two.new w2 (.slice b1 L2 d1) (.slice b2 L2 d2) 25).below HB; obtain ⟨⟨p4, p0, p1, p2, p3⟩, _⟩ := HT.out _ (Z2.out.1.trans (HB.mono Z2.out.1.size)); clear HB HR Z2)
                | (go_at_call 23; have := Z1; refine (HRd.out _ Z1.out).mono ?_; rintro e w2 ⟨b1, d1, b2, d2, r2, rfl, HR, HR2, HB⟩; have Z2 : Hid (Below W0.heap.size W0 (w2.alloc (.cells #[.slice b1 L2 d1, .slice b2 L2 d2] 25)) ∧ RdV (w2.alloc (.cells #[.slice b1 L2 d1, .slice b2 L2 d2] 25)) (.agg #[.slice b1 L2 d1, .slice b2 L2 d2]) (nmsOf rl) (valsOf rl) ∧ ReadsV (w2.alloc (.cells #[.slice b1 L2 d1, .slice b2 L2 d2] 25)) r2 rr) := ⟨below_alloc (Z1.out.trans (HB.mono Z1.out.size)) (Nat.le_refl _) _, HR.below ((Below.refl _ _).alloc (Nat.le_refl _) _), HR2.below ((Below.refl _ _).alloc (Nat.le_refl _) _)⟩; obtain ⟨⟨p4, p0, p1, p2, p3⟩, _⟩ := HT.out _ (Z1.out.trans (HB.mono Z1.out.size)); clear HB HR HR2 Z1)
                | (go_at_call 8; rw [← hW0]; refine (HL1.out _ HBr.out).mono ?_; rintro e w1 ⟨rfl, HB⟩; have Z1 : Hid (Below W0.heap.size W0 w1) := HB; obtain ⟨⟨p4, p0, p1, p2, p3⟩, _⟩ := HT.out _ HB; clear HB))
              obtain ⟨⟨p4, p0, p1, p2, p3⟩, _⟩ := HT.out _ Z4.out
              have ZD : Hid (Below W0.heap.size W0 w4.drew) := Below.drew Z4.out
              go_region_with (first
                | (go_at_call 9; have := Y11; refine (HWk.out _).mono ?_; rintro e wf ⟨rfl, HB⟩; have ZF : Hid (Below W0.heap.size W0 wf) := Y11.out.trans (HB.mono Y11.out.size); obtain ⟨⟨p4, p0, p1, p2, p3⟩, _⟩ := HT.out _ ZF.out; clear HB Y11)
                | (go_at_call 11; refine (HC11.out _ ZD.out).mono ?_; rintro e w11 ⟨rfl, HB⟩; have Y11 : Hid (Below W0.heap.size W0 w11) := ZD.out.trans (HB.mono ZD.out.size); obtain ⟨⟨p4, p0, p1, p2, p3⟩, _⟩ := HT.out _ Y11.out; clear HB))
              all_goals go_wp2
              all_goals
                (go_ret
                 exact ⟨rfl, (HT.out _ ZF.out).2.1⟩)
    · clear hv hx hV hl1
      generalize hn1 : ns.length = n1 at *
      generalize hn2 : vs.length = n2 at *
      generalize hn3 : b.length = n3 at *
      go_enter Try.func5, Try.ntmps5
      go_wp2_with (first
        | (go_at_call 9; have := Z1; refine (HWk.out _).mono ?_; rintro e wf ⟨rfl, HB⟩; have ZF : Hid (Below W0.heap.size W0 wf) := Z1.out.trans (HB.mono Z1.out.size); clear HB Z1)
        | (go_at_call 8; rw [← hW0]; refine (HL1.out _ HBr.out).mono ?_; rintro e w1 ⟨rfl, HB⟩; have Z1 : Hid (Below W0.heap.size W0 w1) := HB; obtain ⟨⟨p4, p0, p1, p2, p3⟩, _⟩ := HT.out _ HB; clear HB))
      go_ret
      exact ⟨rfl, (HT.out _ ZF.out).2.1⟩
end Go.Proofs.Ytekhfepfaegpaaa
