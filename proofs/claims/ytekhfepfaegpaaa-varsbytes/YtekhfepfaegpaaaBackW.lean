/-
  VarsBack: the walk.
-/
import Derived.Test.YtekhfepfaegpaaaChkW
import Derived.Test.YtekhfepfaegpaaaGuarded
namespace Go.Proofs.Ytekhfepfaegpaaa
open Go.RowKit Pack
set_option linter.unusedVariables false

theorem zip_mem {ns : List ByteArray} {vs : List Int} {p : ByteArray × Int} (h : p ∈ zipV (ns, vs)) : p.1 ∈ ns ∧ p.2 ∈ vs := by
  obtain ⟨a, b⟩ := p
  exact List.of_mem_zip h
theorem packV_len {l : VL} (hl : l.length ≤ 64) (h : ∀ p ∈ l, p.1.size ≤ 1000000 ∧ I64 p.2) : (packV l).length ≤ 64001300 := by
  have h1 := packE_len (l := l) h
  have h2 := urow_len (n := l.length) (by omega)
  unfold packV
  rw [List.length_append]
  omega
/-- What Read gives where it gives variables. -/
theorem read_form {w : World} {v : Value} {b r : List (BitVec 8)} {l : VL} (h : ReadsV w v b) (hb : b.length ≤ 100000000) (hm : readM b = .ok (l, r)) : Calls Try.prog 23 #[v] w fun e w' => ∃ a1 c1 a2 c2 rv, e = .returned (.tuple #[.agg #[.slice a1 l.length c1, .slice a2 l.length c2], rv, .int .i64 0]) ∧ RdV w' (.agg #[.slice a1 l.length c1, .slice a2 l.length c2]) (nmsOf l) (valsOf l) ∧ ReadsV w' rv r ∧ Below w.heap.size w w' := by
  refine (Read_any b v w h hb).mono ?_
  intro e w' h3
  unfold ReadPost at h3
  rw [hm] at h3
  obtain ⟨vv, rv, rfl, h4, h5, h6⟩ := h3
  obtain ⟨a1, c1, a2, c2, rfl, hn⟩ := h4.num
  exact ⟨a1, c1, a2, c2, rv, rfl, hn, h5, h6⟩
theorem read_err {w : World} {v : Value} {b : List (BitVec 8)} {c : Int} (h : ReadsV w v b) (hb : b.length ≤ 100000000) (hm : readM b = .error c) : Calls Try.prog 23 #[v] w fun e w' => e = .returned (.tuple #[.agg #[.slice none 0 0, .slice none 0 0], .slice none 0 0, .int .i64 c]) ∧ Below w.heap.size w w' := by
  refine (Read_any b v w h hb).mono ?_
  intro e w' h3
  unfold ReadPost at h3
  rw [hm] at h3
  exact h3
theorem oneM_err {b : List (BitVec 8)} {c : Int} (h : oneM b = .error c) : c ≠ 0 := by
  unfold oneM at h
  split at h
  · split at h
    · split at h
      · cases h
      · rename_i r _
        simp only [Except.error.injEq] at h
        have := code_ne (r := .inr r) (fun k e => by cases e)
        omega
    · simp only [Except.error.injEq] at h; omega
  · rename_i r _
    simp only [Except.error.injEq] at h
    have := code_ne (r := .inr r) (fun k e => by cases e)
    omega
theorem manyM_err : ∀ {n : Nat} {b : List (BitVec 8)} {l : VL} {c : Int}, manyM n b l = .error c → c ≠ 0
  | 0, b, l, c, h => by cases h
  | n + 1, b, l, c, h => by
    rw [manyM] at h
    cases ho : oneM b with
    | error c' =>
      rw [ho] at h
      simp only [Except.error.injEq] at h
      rw [← h]; exact oneM_err ho
    | ok x =>
      obtain ⟨s, y, r⟩ := x
      rw [ho] at h
      exact manyM_err h
theorem readM_err {b : List (BitVec 8)} {c : Int} (h : readM b = .error c) : c ≠ 0 := by
  unfold readM at h
  split at h
  · rename_i r _
    simp only [Except.error.injEq] at h
    have := code_ne (r := .inr r) (fun k e => by cases e)
    omega
  · split at h
    · simp only [Except.error.injEq] at h; omega
    · split at h
      · rename_i c' hm
        simp only [Except.error.injEq] at h
        rw [← h]; exact manyM_err hm
      · split at h
        · rename_i hc
          simp only [Except.error.injEq] at h
          omega
        · cases h
set_option maxRecDepth 100000 in
set_option maxHeartbeats 4000000 in
theorem back_walk (ns : List ByteArray) (vs : List Int) (v x : Value) (b : List (BitVec 8)) (w : World) (hv : Came w v ns vs) (hx : ReadsV w x b) : Calls Try.prog 6 #[v, x] w fun e w' => e = .returned (.bool true) ∧ Below w.heap.size w w' := by
  have hV := hv.rd
  obtain ⟨a1, c1, a2, c2, rfl⟩ := hV.two
  obtain ⟨xa, xc, rfl, hxr⟩ : ∃ xa xc, x = .slice xa b.length xc ∧ (b.length ≤ xc ∧ xc ≤ 9223372036854775807) := by
    obtain ⟨xa, xc, h1, _, h3, h4, _⟩ := hx
    exact ⟨xa, xc, h1, h3, h4⟩
  have HWk : Hid (∀ w, Calls Try.prog 9 #[] w fun e w' => e = .returned (.bool true) ∧ Below w.heap.size w w') := works_any
  obtain ⟨W0, hW0⟩ : ∃ W, W = w.alloc (.cells #[.slice a1 ns.length c1, .slice a2 vs.length c2] 25) := ⟨_, rfl⟩
  have HB0 : Hid (Below w.heap.size w W0) := by show Below _ _ _; rw [hW0]; exact below_alloc (Below.refl _ _) (Nat.le_refl _) _
  have HT : Hid (∀ w', Below W0.heap.size W0 w' → Two w' w.heap.size (.slice a1 ns.length c1) (.slice a2 vs.length c2) ∧ Below w.heap.size w w' ∧ RdV w' (.agg #[.slice a1 ns.length c1, .slice a2 vs.length c2]) ns vs ∧ ReadsV w' (.slice xa b.length xc) b) := fun w' hb => by
    have t1 : Two W0 w.heap.size (.slice a1 ns.length c1) (.slice a2 vs.length c2) := by rw [hW0]; exact Two.new w _ _ 25
    have b1 := HB0.out.trans (hb.mono HB0.out.size)
    exact ⟨t1.below hb, b1, hV.below b1, hx.below b1⟩
  have HL1 : Hid (∀ w', Below W0.heap.size W0 w' → Calls Try.prog 8 #[.agg #[.slice a1 ns.length c1, .slice a2 vs.length c2]] w' fun e w2 => e = .returned (.bool (lightM ns vs)) ∧ Below w'.heap.size w' w2) := fun w' hb => light_any _ _ _ w' (HT.out _ hb).2.2.1 hv.sz
  have HBr : Hid (Below W0.heap.size W0 W0) := Below.refl _ _
  obtain ⟨hx1, hx2⟩ := hxr
  cases hl1 : lightM ns vs with
  | false =>
    rw [hl1] at HL1
    clear hv hx hV hl1
    generalize ns.length = n1 at *
    generalize vs.length = n2 at *
    generalize b.length = n3 at *
    go_enter Try.func6, Try.ntmps6
    go_wp2_with (first
      | (go_at_call 9; have := Z1; refine (HWk.out _).mono ?_; rintro e w2 ⟨rfl, HB⟩; have Z2 : Hid (Below W0.heap.size W0 w2) := Z1.out.trans (HB.mono Z1.out.size); clear HB)
      | (go_at_call 8; rw [← hW0]; refine (HL1.out _ HBr.out).mono ?_; rintro e w1 ⟨rfl, HB⟩; have Z1 : Hid (Below W0.heap.size W0 w1) := HB; clear HB))
    go_ret
    exact ⟨rfl, (HT.out _ Z2.out).2.1⟩
  | true =>
    rw [hl1] at HL1
    by_cases hb3 : b.length ≤ 3000
    · obtain ⟨z1, z2, z3⟩ := light_sz hl1
      have HC11 : Hid (∀ w', Below W0.heap.size W0 w' → Calls Try.prog 11 #[.agg #[.slice a1 ns.length c1, .slice a2 vs.length c2]] w' fun e w2 => e = .returned (.int .i64 (chk ns vs : Nat)) ∧ Below w'.heap.size w' w2) := fun w' hb => rCheck_any _ _ _ w' (HT.out _ hb).2.2.1 hv.sz
      have HSame : Hid (∀ w' u l, ReadsV w' u l → l = b → Below W0.heap.size W0 w' → Calls Try.prog 25 #[u, .slice xa b.length xc] w' fun e w2 => e = .returned (.bool true) ∧ w2 = w') := fun w' u l h1 h2 hb => by subst h2; exact same_yes _ _ _ w' h1 (HT.out _ hb).2.2.2
      have HBl : Hid (b.length ≤ 3000) := hb3
      by_cases hck : chk ns vs = 0
      · cases hrm : readM b with
        | error cc =>
          have HA : Hid ((∀ w', Below W0.heap.size W0 w' → Calls Try.prog 26 #[.slice none 0 0, .agg #[.slice a1 ns.length c1, .slice a2 vs.length c2]] w' fun e w2 => ∃ v', e = .returned v' ∧ Owns w2 w'.heap.size v' (packV (zipV (ns, vs))) ∧ Below w'.heap.size w' w2) ∧ readM (packV (zipV (ns, vs)) ++ b) = .ok (zipV (ns, vs), b) ∧ (packV (zipV (ns, vs))).length ≤ 64001300 ∧ (∀ w' a3 c3 a4 c4, RdV w' (.agg #[.slice a3 (zipV (ns, vs)).length c3, .slice a4 (zipV (ns, vs)).length c4]) (nmsOf (zipV (ns, vs))) (valsOf (zipV (ns, vs))) → Below W0.heap.size W0 w' → Calls Try.prog 13 #[.agg #[.slice a1 ns.length c1, .slice a2 vs.length c2], .agg #[.slice a3 (zipV (ns, vs)).length c3, .slice a4 (zipV (ns, vs)).length c4]] w' fun e w2 => e = .returned (.bool true) ∧ Below w'.heap.size w' w2)) := by
            obtain ⟨v1, v2, v3⟩ := chk_ok hck
            have hn : nmsOf (zipV (ns, vs)) = ns := nms_zip (v := (ns, vs)) v1
            have hvl : valsOf (zipV (ns, vs)) = vs := vals_zip (v := (ns, vs)) v1
            have hsz : ∀ p ∈ zipV (ns, vs), p.1.size ≤ 1000000 ∧ I64 p.2 := fun p hp => ⟨by have := z3 p.1 (zip_mem hp).1; omega, hv.i64 p.2 (zip_mem hp).2⟩
            have hlen : (zipV (ns, vs)).length ≤ 64 := by rw [zipV_len (v := (ns, vs)) v1]; exact v2
            refine ⟨fun w' hb => Put_any _ _ w' (by rw [hn, hvl]; exact (HT.out _ hb).2.2.1) (by omega) hsz, readM_pack b (by rw [hn, hvl]; exact hck) hsz, packV_len hlen hsz, fun w' a3 c3 a4 c4 hr hb => ?_⟩
            have := rSame_any ns _ vs _ _ _ w' (HT.out _ hb).2.2.1 hr
            rw [hn, hvl] at this
            simpa using this
          have HAR : Hid (∀ w' v', ReadsV w' v' (packV (zipV (ns, vs)) ++ b) → Calls Try.prog 23 #[v'] w' fun e w2 => ∃ b1 d1 b2 d2 rv, e = .returned (.tuple #[.agg #[.slice b1 (zipV (ns, vs)).length d1, .slice b2 (zipV (ns, vs)).length d2], rv, .int .i64 0]) ∧ RdV w2 (.agg #[.slice b1 (zipV (ns, vs)).length d1, .slice b2 (zipV (ns, vs)).length d2]) (nmsOf (zipV (ns, vs))) (valsOf (zipV (ns, vs))) ∧ ReadsV w2 rv b ∧ Below w'.heap.size w' w2) := fun w' v' h => read_form h (by rw [List.length_append]; have := HA.out.2.2.1; have := HBl.out; omega) HA.out.2.1
          have HLp : Hid (([] : List (BitVec 8)).length + (packV (zipV (ns, vs))).length ≤ 140737488355328 ∧ (packV (zipV (ns, vs))).length + b.length ≤ 140737488355328) := by have := HA.out.2.2.1; have := HBl.out; exact ⟨by simp; omega, by omega⟩
          have HRd : Hid (∀ w', Below W0.heap.size W0 w' → Calls Try.prog 23 #[.slice xa b.length xc] w' fun e w2 => e = .returned (.tuple #[.agg #[.slice none 0 0, .slice none 0 0], .slice none 0 0, .int .i64 cc]) ∧ Below w'.heap.size w' w2) := fun w' hb => read_err (HT.out _ hb).2.2.2 (by omega) hrm
          have hne2 : (cc != 0) = true := bne_iff_ne.2 (readM_err hrm)
          rw [hck] at HC11
          clear hv hx hV hl1 z1 z2 z3 hck hrm
          generalize hn1 : ns.length = n1 at *
          generalize hn2 : vs.length = n2 at *
          generalize hn3 : b.length = n3 at *
          generalize hL1 : (zipV (ns, vs)).length = L1 at *
          go_enter Try.func6, Try.ntmps6
          go_wp2_with (first
            | (go_at_call 9; have := Z9; refine (HWk.out _).mono ?_; rintro e wf ⟨rfl, HB⟩; have ZF : Hid (Below W0.heap.size W0 wf) := Z9.out.trans (HB.mono Z9.out.size); clear HB Z9)
            | (go_at_call 23; have := Z8; refine (HRd.out _ Z8.out).mono ?_; rintro e w8 ⟨rfl, HB⟩; have Z9 : Hid (Below W0.heap.size W0 (w8.alloc (.cells #[.slice none 0 0, .slice none 0 0] 25))) := below_alloc (Z8.out.trans (HB.mono Z8.out.size)) (Nat.le_refl _) _; clear HB Z8)
            | (go_at_call 25; have := Z7; refine (HSame.out _ _ b Z7.out.2 rfl Z7.out.1).mono ?_; rintro e w7b ⟨rfl, hw7⟩; have hw7s := hw7.symm; subst hw7s; have Z8 : Hid (Below W0.heap.size W0 w7) := Z7.out.1; clear Z7 hw7)
            | (go_at_call 13; have := Z6; refine (HA.out.2.2.2 _ _ _ _ _ Z6.out.2.1 Z6.out.1).mono ?_; rintro e w7 ⟨rfl, HB⟩; have Z7 : Hid (Below W0.heap.size W0 w7 ∧ ReadsV w7 r6 b) := ⟨Z6.out.1.trans (HB.mono Z6.out.1.size), Z6.out.2.2.below HB⟩; clear HB Z6)
            | (go_at_call 23; have := Z5; refine (HAR.out _ _ Z5.out.2).mono ?_; rintro e w6 ⟨g1, h1, g2, h2, r6, rfl, HR, HR2, HB⟩; have Z6 : Hid (Below W0.heap.size W0 (w6.alloc (.cells #[.slice g1 L1 h1, .slice g2 L1 h2] 25)) ∧ RdV (w6.alloc (.cells #[.slice g1 L1 h1, .slice g2 L1 h2] 25)) (.agg #[.slice g1 L1 h1, .slice g2 L1 h2]) (nmsOf (zipV (ns, vs))) (valsOf (zipV (ns, vs))) ∧ ReadsV (w6.alloc (.cells #[.slice g1 L1 h1, .slice g2 L1 h2] 25)) r6 b) := ⟨below_alloc (Z5.out.1.trans (HB.mono Z5.out.1.size)) (Nat.le_refl _) _, HR.below ((Below.refl _ _).alloc (Nat.le_refl _) _), HR2.below ((Below.refl _ _).alloc (Nat.le_refl _) _)⟩; obtain ⟨⟨p4, p0, p1, p2, p3⟩, _⟩ := HT.out _ (Z5.out.1.trans (HB.mono Z5.out.1.size)); clear HB HR HR2 Z5)
            | (at_builtin; have := Z4; refine wpList_append_bytes rfl (.tmp 27) (.tmp 28) 42 rfl w3.heap.size Try.underlying42 Try.info5 _ (packV (zipV (ns, vs))) rfl Z4.out.2.2 _ b rfl (HT.out _ Z4.out.1).2.2.2 (by rw [hn3]; exact HLp.out.2) Z4.out.2.1 ?_; intro v5 w5 q1 q2; have Z5 : Hid (Below W0.heap.size W0 w5 ∧ ReadsV w5 v5 (packV (zipV (ns, vs)) ++ b)) := ⟨Z4.out.1.trans (q2.mono Z3.out.1.size), ReadsV.of_own q1⟩; clear q1 q2 Z4 Z3)
            | (at_builtin; have := Z3; (refine wpList_append_bytes rfl (.tmp 24) (.tmp 26) 42 rfl w3.heap.size Try.underlying42 Try.info5 _ [] rfl (Owns.nil _ _) _ (packV (zipV (ns, vs))) rfl Z3.out.2 HLp.out.1 (Nat.le_refl _) ?_); intro v4 w4 q1 q2; have Z4 : Hid (Below W0.heap.size W0 w4 ∧ w3.heap.size ≤ w4.heap.size ∧ Owns w4 w3.heap.size v4 (packV (zipV (ns, vs)))) := ⟨Z3.out.1.trans (q2.mono Z3.out.1.size), q2.size, q1⟩; clear q1 q2)
            | (go_at_call 26; have := Z2; refine (HA.out.1 _ Z2.out).mono ?_; rintro e w3 ⟨v3, rfl, HR, HB⟩; have Z3 : Hid (Below W0.heap.size W0 w3 ∧ ReadsV w3 v3 (packV (zipV (ns, vs)))) := ⟨Z2.out.trans (HB.mono Z2.out.size), ReadsV.of_own HR⟩; clear HB HR Z2)
            | (go_at_call 11; have := Z1; refine (HC11.out _ Z1.out).mono ?_; rintro e w2 ⟨rfl, HB⟩; have Z2 : Hid (Below W0.heap.size W0 w2) := Z1.out.trans (HB.mono Z1.out.size); obtain ⟨⟨p4, p0, p1, p2, p3⟩, _⟩ := HT.out _ Z2.out; clear HB Z1)
            | (go_at_call 8; rw [← hW0]; refine (HL1.out _ HBr.out).mono ?_; rintro e w1 ⟨rfl, HB⟩; have Z1 : Hid (Below W0.heap.size W0 w1) := HB; obtain ⟨⟨p4, p0, p1, p2, p3⟩, _⟩ := HT.out _ HB; clear HB))
          go_ret
          exact ⟨rfl, (HT.out _ ZF.out).2.1⟩
        | ok lr =>
          obtain ⟨rl, rr⟩ := lr
          have HA : Hid ((∀ w', Below W0.heap.size W0 w' → Calls Try.prog 26 #[.slice none 0 0, .agg #[.slice a1 ns.length c1, .slice a2 vs.length c2]] w' fun e w2 => ∃ v', e = .returned v' ∧ Owns w2 w'.heap.size v' (packV (zipV (ns, vs))) ∧ Below w'.heap.size w' w2) ∧ readM (packV (zipV (ns, vs)) ++ b) = .ok (zipV (ns, vs), b) ∧ (packV (zipV (ns, vs))).length ≤ 64001300 ∧ (∀ w' a3 c3 a4 c4, RdV w' (.agg #[.slice a3 (zipV (ns, vs)).length c3, .slice a4 (zipV (ns, vs)).length c4]) (nmsOf (zipV (ns, vs))) (valsOf (zipV (ns, vs))) → Below W0.heap.size W0 w' → Calls Try.prog 13 #[.agg #[.slice a1 ns.length c1, .slice a2 vs.length c2], .agg #[.slice a3 (zipV (ns, vs)).length c3, .slice a4 (zipV (ns, vs)).length c4]] w' fun e w2 => e = .returned (.bool true) ∧ Below w'.heap.size w' w2)) := by
            obtain ⟨v1, v2, v3⟩ := chk_ok hck
            have hn : nmsOf (zipV (ns, vs)) = ns := nms_zip (v := (ns, vs)) v1
            have hvl : valsOf (zipV (ns, vs)) = vs := vals_zip (v := (ns, vs)) v1
            have hsz : ∀ p ∈ zipV (ns, vs), p.1.size ≤ 1000000 ∧ I64 p.2 := fun p hp => ⟨by have := z3 p.1 (zip_mem hp).1; omega, hv.i64 p.2 (zip_mem hp).2⟩
            have hlen : (zipV (ns, vs)).length ≤ 64 := by rw [zipV_len (v := (ns, vs)) v1]; exact v2
            refine ⟨fun w' hb => Put_any _ _ w' (by rw [hn, hvl]; exact (HT.out _ hb).2.2.1) (by omega) hsz, readM_pack b (by rw [hn, hvl]; exact hck) hsz, packV_len hlen hsz, fun w' a3 c3 a4 c4 hr hb => ?_⟩
            have := rSame_any ns _ vs _ _ _ w' (HT.out _ hb).2.2.1 hr
            rw [hn, hvl] at this
            simpa using this
          have HAR : Hid (∀ w' v', ReadsV w' v' (packV (zipV (ns, vs)) ++ b) → Calls Try.prog 23 #[v'] w' fun e w2 => ∃ b1 d1 b2 d2 rv, e = .returned (.tuple #[.agg #[.slice b1 (zipV (ns, vs)).length d1, .slice b2 (zipV (ns, vs)).length d2], rv, .int .i64 0]) ∧ RdV w2 (.agg #[.slice b1 (zipV (ns, vs)).length d1, .slice b2 (zipV (ns, vs)).length d2]) (nmsOf (zipV (ns, vs))) (valsOf (zipV (ns, vs))) ∧ ReadsV w2 rv b ∧ Below w'.heap.size w' w2) := fun w' v' h => read_form h (by rw [List.length_append]; have := HA.out.2.2.1; have := HBl.out; omega) HA.out.2.1
          have HLp : Hid (([] : List (BitVec 8)).length + (packV (zipV (ns, vs))).length ≤ 140737488355328 ∧ (packV (zipV (ns, vs))).length + b.length ≤ 140737488355328) := by have := HA.out.2.2.1; have := HBl.out; exact ⟨by simp; omega, by omega⟩
          obtain ⟨hbk1, hbk2, hbk3⟩ := readM_back hrm
          have hLlen : rl.length ≤ 64 := by have := (chk_ok hbk2).2.1; rwa [nmsOf_len] at this
          have hLsz : ∀ p ∈ rl, p.1.size ≤ 1000000 ∧ I64 p.2 := fun p hp => ⟨by have := (hbk3 p hp).1; omega, (hbk3 p hp).2⟩
          have HRd : Hid (∀ w', Below W0.heap.size W0 w' → Calls Try.prog 23 #[.slice xa b.length xc] w' fun e w2 => ∃ b1 d1 b2 d2 rv, e = .returned (.tuple #[.agg #[.slice b1 rl.length d1, .slice b2 rl.length d2], rv, .int .i64 0]) ∧ RdV w2 (.agg #[.slice b1 rl.length d1, .slice b2 rl.length d2]) (nmsOf rl) (valsOf rl) ∧ ReadsV w2 rv rr ∧ Below w'.heap.size w' w2) := fun w' hb => read_form (HT.out _ hb).2.2.2 (by omega) hrm
          have HPt : Hid (∀ w' V, RdV w' V (nmsOf rl) (valsOf rl) → Calls Try.prog 26 #[.slice none 0 0, V] w' fun e w2 => ∃ v', e = .returned v' ∧ Owns w2 w'.heap.size v' (packV rl) ∧ Below w'.heap.size w' w2) := fun w' V h => Put_any rl V w' h (by omega) hLsz
          have HBk : Hid (packV rl ++ rr = b) := hbk1
          have HLr : Hid ((packV rl).length + rr.length ≤ 140737488355328) := by
            have h1 := congrArg List.length hbk1
            rw [List.length_append] at h1
            show _ ≤ _
            omega
          rw [hck] at HC11
          clear hv hx hV hl1 z1 z2 z3 hck hrm
          clear hbk1 hbk2 hbk3 hLlen hLsz
          generalize hn1 : ns.length = n1 at *
          generalize hn2 : vs.length = n2 at *
          generalize hn3 : b.length = n3 at *
          generalize hL1 : (zipV (ns, vs)).length = L1 at *
          generalize hL2 : rl.length = L2 at *
          go_enter Try.func6, Try.ntmps6
          go_wp2_with (first
            | (go_at_call 9; have := ZC; refine (HWk.out _).mono ?_; rintro e wf ⟨rfl, HB⟩; have ZF : Hid (Below W0.heap.size W0 wf) := ZC.out.trans (HB.mono ZC.out.size); clear HB ZC)
            | (go_at_call 25; have := ZB; refine (HSame.out _ _ _ ZB.out.2 HBk.out ZB.out.1).mono ?_; rintro e wc ⟨rfl, hwc⟩; have hwcs := hwc.symm; subst hwcs; have ZC : Hid (Below W0.heap.size W0 wb) := ZB.out.1; clear ZB hwc)
            | (at_builtin; have := ZA; refine wpList_append_guarded (by first | rfl | simp [Region.wanted, yielded]) (.tmp 60) (.tmp 61) 42 rfl (w8.alloc (.cells #[.slice i1 L2 j1, .slice i2 L2 j2] 25)).heap.size Try.underlying42 Try.info5 _ (packV rl) rfl ZA.out.2.1 _ rr rfl ZA.out.2.2.1 HLr.out ZA.out.2.2.2 ?_; intro vb wb q1 q2; have ZB : Hid (Below W0.heap.size W0 wb ∧ ReadsV wb vb (packV rl ++ rr)) := ⟨ZA.out.1.trans (q2.mono Z9s.out), ReadsV.of_own q1⟩; clear q1 q2 ZA)
            | (go_at_call 26; have := Z9; refine (HPt.out _ _ Z9.out.2.1).mono ?_; rintro e wa ⟨va, rfl, HR, HB⟩; have Z9s : Hid (W0.heap.size ≤ (w8.alloc (.cells #[.slice i1 L2 j1, .slice i2 L2 j2] 25)).heap.size) := Z9.out.1.size; have ZA : Hid (Below W0.heap.size W0 wa ∧ Owns wa (w8.alloc (.cells #[.slice i1 L2 j1, .slice i2 L2 j2] 25)).heap.size va (packV rl) ∧ ReadsV wa r8 rr ∧ (w8.alloc (.cells #[.slice i1 L2 j1, .slice i2 L2 j2] 25)).heap.size ≤ wa.heap.size) := ⟨Z9.out.1.trans (HB.mono Z9.out.1.size), HR, Z9.out.2.2.below HB, HB.size⟩; clear HB HR Z9)
            | (go_at_call 23; have := Z8; refine (HRd.out _ Z8.out).mono ?_; rintro e w8 ⟨i1, j1, i2, j2, r8, rfl, HR, HR2, HB⟩; have Z9 : Hid (Below W0.heap.size W0 (w8.alloc (.cells #[.slice i1 L2 j1, .slice i2 L2 j2] 25)) ∧ RdV (w8.alloc (.cells #[.slice i1 L2 j1, .slice i2 L2 j2] 25)) (.agg #[.slice i1 L2 j1, .slice i2 L2 j2]) (nmsOf rl) (valsOf rl) ∧ ReadsV (w8.alloc (.cells #[.slice i1 L2 j1, .slice i2 L2 j2] 25)) r8 rr) := ⟨below_alloc (Z8.out.trans (HB.mono Z8.out.size)) (Nat.le_refl _) _, HR.below ((Below.refl _ _).alloc (Nat.le_refl _) _), HR2.below ((Below.refl _ _).alloc (Nat.le_refl _) _)⟩; clear HB HR HR2 Z8)
            | (go_at_call 25; have := Z7; refine (HSame.out _ _ b Z7.out.2 rfl Z7.out.1).mono ?_; rintro e w7b ⟨rfl, hw7⟩; have hw7s := hw7.symm; subst hw7s; have Z8 : Hid (Below W0.heap.size W0 w7) := Z7.out.1; clear Z7 hw7)
            | (go_at_call 13; have := Z6; refine (HA.out.2.2.2 _ _ _ _ _ Z6.out.2.1 Z6.out.1).mono ?_; rintro e w7 ⟨rfl, HB⟩; have Z7 : Hid (Below W0.heap.size W0 w7 ∧ ReadsV w7 r6 b) := ⟨Z6.out.1.trans (HB.mono Z6.out.1.size), Z6.out.2.2.below HB⟩; clear HB Z6)
            | (go_at_call 23; have := Z5; refine (HAR.out _ _ Z5.out.2).mono ?_; rintro e w6 ⟨g1, h1, g2, h2, r6, rfl, HR, HR2, HB⟩; have Z6 : Hid (Below W0.heap.size W0 (w6.alloc (.cells #[.slice g1 L1 h1, .slice g2 L1 h2] 25)) ∧ RdV (w6.alloc (.cells #[.slice g1 L1 h1, .slice g2 L1 h2] 25)) (.agg #[.slice g1 L1 h1, .slice g2 L1 h2]) (nmsOf (zipV (ns, vs))) (valsOf (zipV (ns, vs))) ∧ ReadsV (w6.alloc (.cells #[.slice g1 L1 h1, .slice g2 L1 h2] 25)) r6 b) := ⟨below_alloc (Z5.out.1.trans (HB.mono Z5.out.1.size)) (Nat.le_refl _) _, HR.below ((Below.refl _ _).alloc (Nat.le_refl _) _), HR2.below ((Below.refl _ _).alloc (Nat.le_refl _) _)⟩; obtain ⟨⟨p4, p0, p1, p2, p3⟩, _⟩ := HT.out _ (Z5.out.1.trans (HB.mono Z5.out.1.size)); clear HB HR HR2 Z5)
            | (at_builtin; have := Z4; refine wpList_append_bytes rfl (.tmp 27) (.tmp 28) 42 rfl w3.heap.size Try.underlying42 Try.info5 _ (packV (zipV (ns, vs))) rfl Z4.out.2.2 _ b rfl (HT.out _ Z4.out.1).2.2.2 (by rw [hn3]; exact HLp.out.2) Z4.out.2.1 ?_; intro v5 w5 q1 q2; have Z5 : Hid (Below W0.heap.size W0 w5 ∧ ReadsV w5 v5 (packV (zipV (ns, vs)) ++ b)) := ⟨Z4.out.1.trans (q2.mono Z3.out.1.size), ReadsV.of_own q1⟩; clear q1 q2 Z4 Z3)
            | (at_builtin; have := Z3; (refine wpList_append_bytes rfl (.tmp 24) (.tmp 26) 42 rfl w3.heap.size Try.underlying42 Try.info5 _ [] rfl (Owns.nil _ _) _ (packV (zipV (ns, vs))) rfl Z3.out.2 HLp.out.1 (Nat.le_refl _) ?_); intro v4 w4 q1 q2; have Z4 : Hid (Below W0.heap.size W0 w4 ∧ w3.heap.size ≤ w4.heap.size ∧ Owns w4 w3.heap.size v4 (packV (zipV (ns, vs)))) := ⟨Z3.out.1.trans (q2.mono Z3.out.1.size), q2.size, q1⟩; clear q1 q2)
            | (go_at_call 26; have := Z2; refine (HA.out.1 _ Z2.out).mono ?_; rintro e w3 ⟨v3, rfl, HR, HB⟩; have Z3 : Hid (Below W0.heap.size W0 w3 ∧ ReadsV w3 v3 (packV (zipV (ns, vs)))) := ⟨Z2.out.trans (HB.mono Z2.out.size), ReadsV.of_own HR⟩; clear HB HR Z2)
            | (go_at_call 11; have := Z1; refine (HC11.out _ Z1.out).mono ?_; rintro e w2 ⟨rfl, HB⟩; have Z2 : Hid (Below W0.heap.size W0 w2) := Z1.out.trans (HB.mono Z1.out.size); obtain ⟨⟨p4, p0, p1, p2, p3⟩, _⟩ := HT.out _ Z2.out; clear HB Z1)
            | (go_at_call 8; rw [← hW0]; refine (HL1.out _ HBr.out).mono ?_; rintro e w1 ⟨rfl, HB⟩; have Z1 : Hid (Below W0.heap.size W0 w1) := HB; obtain ⟨⟨p4, p0, p1, p2, p3⟩, _⟩ := HT.out _ HB; clear HB))
          go_ret
          exact ⟨rfl, (HT.out _ ZF.out).2.1⟩
      · cases hrm : readM b with
        | error cc =>
          have HRd : Hid (∀ w', Below W0.heap.size W0 w' → Calls Try.prog 23 #[.slice xa b.length xc] w' fun e w2 => e = .returned (.tuple #[.agg #[.slice none 0 0, .slice none 0 0], .slice none 0 0, .int .i64 cc]) ∧ Below w'.heap.size w' w2) := fun w' hb => read_err (HT.out _ hb).2.2.2 (by omega) hrm
          have hne2 : (cc != 0) = true := bne_iff_ne.2 (readM_err hrm)
          have hne3 : ¬ ((chk ns vs : Int) = 0) := by omega
          clear hv hx hV hl1 z1 z2 z3 hck hrm
          generalize hn1 : ns.length = n1 at *
          generalize hn2 : vs.length = n2 at *
          generalize hn3 : b.length = n3 at *
          generalize chk ns vs = ck at *
          go_enter Try.func6, Try.ntmps6
          go_wp2_with (first
            | (go_at_call 9; have := Z9; refine (HWk.out _).mono ?_; rintro e wf ⟨rfl, HB⟩; have ZF : Hid (Below W0.heap.size W0 wf) := Z9.out.trans (HB.mono Z9.out.size); clear HB Z9)
            | (go_at_call 23; have := Z8; refine (HRd.out _ Z8.out).mono ?_; rintro e w8 ⟨rfl, HB⟩; have Z9 : Hid (Below W0.heap.size W0 (w8.alloc (.cells #[.slice none 0 0, .slice none 0 0] 25))) := below_alloc (Z8.out.trans (HB.mono Z8.out.size)) (Nat.le_refl _) _; clear HB Z8)
            | (go_at_call 11; have := Z1; refine (HC11.out _ Z1.out).mono ?_; rintro e w2 ⟨rfl, HB⟩; have Z8 : Hid (Below W0.heap.size W0 w2) := Z1.out.trans (HB.mono Z1.out.size); obtain ⟨⟨p4, p0, p1, p2, p3⟩, _⟩ := HT.out _ Z8.out; clear HB Z1)
            | (go_at_call 8; rw [← hW0]; refine (HL1.out _ HBr.out).mono ?_; rintro e w1 ⟨rfl, HB⟩; have Z1 : Hid (Below W0.heap.size W0 w1) := HB; obtain ⟨⟨p4, p0, p1, p2, p3⟩, _⟩ := HT.out _ HB; clear HB))
          go_ret
          exact ⟨rfl, (HT.out _ ZF.out).2.1⟩
        | ok lr =>
          obtain ⟨rl, rr⟩ := lr
          obtain ⟨hbk1, hbk2, hbk3⟩ := readM_back hrm
          have hLlen : rl.length ≤ 64 := by have := (chk_ok hbk2).2.1; rwa [nmsOf_len] at this
          have hLsz : ∀ p ∈ rl, p.1.size ≤ 1000000 ∧ I64 p.2 := fun p hp => ⟨by have := (hbk3 p hp).1; omega, (hbk3 p hp).2⟩
          have HRd : Hid (∀ w', Below W0.heap.size W0 w' → Calls Try.prog 23 #[.slice xa b.length xc] w' fun e w2 => ∃ b1 d1 b2 d2 rv, e = .returned (.tuple #[.agg #[.slice b1 rl.length d1, .slice b2 rl.length d2], rv, .int .i64 0]) ∧ RdV w2 (.agg #[.slice b1 rl.length d1, .slice b2 rl.length d2]) (nmsOf rl) (valsOf rl) ∧ ReadsV w2 rv rr ∧ Below w'.heap.size w' w2) := fun w' hb => read_form (HT.out _ hb).2.2.2 (by omega) hrm
          have HPt : Hid (∀ w' V, RdV w' V (nmsOf rl) (valsOf rl) → Calls Try.prog 26 #[.slice none 0 0, V] w' fun e w2 => ∃ v', e = .returned v' ∧ Owns w2 w'.heap.size v' (packV rl) ∧ Below w'.heap.size w' w2) := fun w' V h => Put_any rl V w' h (by omega) hLsz
          have HBk : Hid (packV rl ++ rr = b) := hbk1
          have HLr : Hid ((packV rl).length + rr.length ≤ 140737488355328) := by
            have h1 := congrArg List.length hbk1
            rw [List.length_append] at h1
            show _ ≤ _
            omega
          have hne3 : ¬ ((chk ns vs : Int) = 0) := by omega
          clear hv hx hV hl1 z1 z2 z3 hck hrm
          clear hbk1 hbk2 hbk3 hLlen hLsz
          generalize hn1 : ns.length = n1 at *
          generalize hn2 : vs.length = n2 at *
          generalize hn3 : b.length = n3 at *
          generalize chk ns vs = ck at *
          generalize hL2 : rl.length = L2 at *
          go_enter Try.func6, Try.ntmps6
          go_wp2_with (first
            | (go_at_call 9; have := ZC; refine (HWk.out _).mono ?_; rintro e wf ⟨rfl, HB⟩; have ZF : Hid (Below W0.heap.size W0 wf) := ZC.out.trans (HB.mono ZC.out.size); clear HB ZC)
            | (go_at_call 25; have := ZB; refine (HSame.out _ _ _ ZB.out.2 HBk.out ZB.out.1).mono ?_; rintro e wc ⟨rfl, hwc⟩; have hwcs := hwc.symm; subst hwcs; have ZC : Hid (Below W0.heap.size W0 wb) := ZB.out.1; clear ZB hwc)
            | (at_builtin; have := ZA; refine wpList_append_guarded (by first | rfl | simp [Region.wanted, yielded]) (.tmp 60) (.tmp 61) 42 rfl (w8.alloc (.cells #[.slice i1 L2 j1, .slice i2 L2 j2] 25)).heap.size Try.underlying42 Try.info5 _ (packV rl) rfl ZA.out.2.1 _ rr rfl ZA.out.2.2.1 HLr.out ZA.out.2.2.2 ?_; intro vb wb q1 q2; have ZB : Hid (Below W0.heap.size W0 wb ∧ ReadsV wb vb (packV rl ++ rr)) := ⟨ZA.out.1.trans (q2.mono Z9s.out), ReadsV.of_own q1⟩; clear q1 q2 ZA)
            | (go_at_call 26; have := Z9; refine (HPt.out _ _ Z9.out.2.1).mono ?_; rintro e wa ⟨va, rfl, HR, HB⟩; have Z9s : Hid (W0.heap.size ≤ (w8.alloc (.cells #[.slice i1 L2 j1, .slice i2 L2 j2] 25)).heap.size) := Z9.out.1.size; have ZA : Hid (Below W0.heap.size W0 wa ∧ Owns wa (w8.alloc (.cells #[.slice i1 L2 j1, .slice i2 L2 j2] 25)).heap.size va (packV rl) ∧ ReadsV wa r8 rr ∧ (w8.alloc (.cells #[.slice i1 L2 j1, .slice i2 L2 j2] 25)).heap.size ≤ wa.heap.size) := ⟨Z9.out.1.trans (HB.mono Z9.out.1.size), HR, Z9.out.2.2.below HB, HB.size⟩; clear HB HR Z9)
            | (go_at_call 23; have := Z8; refine (HRd.out _ Z8.out).mono ?_; rintro e w8 ⟨i1, j1, i2, j2, r8, rfl, HR, HR2, HB⟩; have Z9 : Hid (Below W0.heap.size W0 (w8.alloc (.cells #[.slice i1 L2 j1, .slice i2 L2 j2] 25)) ∧ RdV (w8.alloc (.cells #[.slice i1 L2 j1, .slice i2 L2 j2] 25)) (.agg #[.slice i1 L2 j1, .slice i2 L2 j2]) (nmsOf rl) (valsOf rl) ∧ ReadsV (w8.alloc (.cells #[.slice i1 L2 j1, .slice i2 L2 j2] 25)) r8 rr) := ⟨below_alloc (Z8.out.trans (HB.mono Z8.out.size)) (Nat.le_refl _) _, HR.below ((Below.refl _ _).alloc (Nat.le_refl _) _), HR2.below ((Below.refl _ _).alloc (Nat.le_refl _) _)⟩; clear HB HR HR2 Z8)
            | (go_at_call 11; have := Z1; refine (HC11.out _ Z1.out).mono ?_; rintro e w2 ⟨rfl, HB⟩; have Z8 : Hid (Below W0.heap.size W0 w2) := Z1.out.trans (HB.mono Z1.out.size); obtain ⟨⟨p4, p0, p1, p2, p3⟩, _⟩ := HT.out _ Z8.out; clear HB Z1)
            | (go_at_call 8; rw [← hW0]; refine (HL1.out _ HBr.out).mono ?_; rintro e w1 ⟨rfl, HB⟩; have Z1 : Hid (Below W0.heap.size W0 w1) := HB; obtain ⟨⟨p4, p0, p1, p2, p3⟩, _⟩ := HT.out _ HB; clear HB))
          go_ret
          exact ⟨rfl, (HT.out _ ZF.out).2.1⟩
    · clear hv hx hV hl1 hx1 hx2
      generalize ns.length = n1 at *
      generalize vs.length = n2 at *
      generalize b.length = n3 at *
      go_enter Try.func6, Try.ntmps6
      go_wp2_with (first
        | (go_at_call 9; have := Z1; refine (HWk.out _).mono ?_; rintro e w2 ⟨rfl, HB⟩; have Z2 : Hid (Below W0.heap.size W0 w2) := Z1.out.trans (HB.mono Z1.out.size); clear HB)
        | (go_at_call 8; rw [← hW0]; refine (HL1.out _ HBr.out).mono ?_; rintro e w1 ⟨rfl, HB⟩; have Z1 : Hid (Below W0.heap.size W0 w1) := HB; clear HB))
      go_ret
      exact ⟨rfl, (HT.out _ Z2.out).2.1⟩
end Go.Proofs.Ytekhfepfaegpaaa
