/-
  The document's Diff: the contract.
-/
import Derived.Test.YtekhfepfaegpaaaROf
namespace Go.Proofs.Ytekhfepfaegpaaa
open Go.RowKit Pack
set_option linter.unusedVariables false

set_option maxRecDepth 100000 in
set_option maxHeartbeats 16000000 in
theorem rDiff_of (hput : PutOk) (f t : VP) (v u : Value) (w : World) (hv : RdV w v f.1 f.2) (hu : RdV w u t.1 t.2) (hs : ∀ n ∈ f.1, n.size ≤ 281474976710656) (hs2 : ∀ n ∈ t.1, n.size ≤ 281474976710656) : Calls Try.prog 20 #[v, u] w (DiffPost w f t) := by
  obtain ⟨s1, s2, rfl, r1, r2⟩ := hv
  obtain ⟨s3, s4, rfl, r3, r4⟩ := hu
  have q1 := r1
  have q2 := r2
  have q3 := r3
  have q4 := r4
  obtain ⟨a1, c1, rfl⟩ := r1.form
  obtain ⟨a2, c2, rfl⟩ := r2.form
  obtain ⟨a3, c3, rfl⟩ := r3.form
  obtain ⟨a4, c4, rfl⟩ := r4.form
  obtain ⟨_, hk1, hm1, _, e1⟩ := r1.at
  obtain ⟨_, hk2, hm2, _, _⟩ := r2.at
  obtain ⟨_, hk3, hm3, _, e3⟩ := r3.at
  obtain ⟨_, hk4, hm4, _, e4⟩ := r4.at
  simp only [strsV_len, intsV_len] at *
  have HC1 : Hid (∀ w', Below w.heap.size w w' → Calls Try.prog 11 #[.agg #[.slice a1 f.1.length c1, .slice a2 f.2.length c2]] w' fun e w2 => e = .returned (.int .i64 (chk f.1 f.2 : Nat)) ∧ Below w'.heap.size w' w2) := fun w' hb => rCheck_any _ _ _ w' ⟨_, _, rfl, q1.below hb, q2.below hb⟩ (fun n hn => by have := hs n hn; omega)
  have HC2 : Hid (∀ w', Below w.heap.size w w' → Calls Try.prog 11 #[.agg #[.slice a3 t.1.length c3, .slice a4 t.2.length c4]] w' fun e w2 => e = .returned (.int .i64 (chk t.1 t.2 : Nat)) ∧ Below w'.heap.size w' w2) := fun w' hb => rCheck_any _ _ _ w' ⟨_, _, rfl, q3.below hb, q4.below hb⟩ (fun n hn => by have := hs2 n hn; omega)
  have HP : Hid (∀ r n w', n = (diffM f t).1 → OwV w' w.heap.size r (diffM f t).2 → Below w.heap.size w w' → DiffPost w f t (.returned (.tuple #[r, .int .i64 (n : Nat)])) w') := fun r n w' h1 h2 h3 => ⟨r, by rw [h1], h2, h3⟩
  obtain ⟨W0, hW0⟩ : ∃ W, W = ((w.alloc (.cells #[.slice a1 f.1.length c1, .slice a2 f.2.length c2] 25)).alloc (.cells #[.slice a3 t.1.length c3, .slice a4 t.2.length c4] 25)).alloc (.cells #[.slice none 0 0, .slice none 0 0] 25) := ⟨_, rfl⟩
  have HT : Hid (∀ w', Below W0.heap.size W0 w' → Two w' w.heap.size (.slice a1 f.1.length c1) (.slice a2 f.2.length c2) ∧ Two w' (w.heap.size + 1) (.slice a3 t.1.length c3) (.slice a4 t.2.length c4) ∧ Two w' (w.heap.size + 1 + 1) (.slice none 0 0) (.slice none 0 0) ∧ Below w.heap.size w w') := fun w' hb => by
    have b0 : Below w.heap.size w W0 := by rw [hW0]; exact below_alloc (below_alloc (below_alloc (Below.refl _ _) (Nat.le_refl _) _) (Nat.le_refl _) _) (Nat.le_refl _) _
    have t1 : Two W0 w.heap.size (.slice a1 f.1.length c1) (.slice a2 f.2.length c2) := by rw [hW0]; exact ((Two.new w _ _ 25).alloc _).alloc _
    have t2 : Two W0 (w.heap.size + 1) (.slice a3 t.1.length c3) (.slice a4 t.2.length c4) := by
      have h := (Two.new (w.alloc (.cells #[.slice a1 f.1.length c1, .slice a2 f.2.length c2] 25)) (.slice a3 t.1.length c3) (.slice a4 t.2.length c4) 25).alloc (.cells #[.slice none 0 0, .slice none 0 0] 25)
      rw [size_alloc] at h
      rw [hW0]; exact h
    have t3 : Two W0 (w.heap.size + 1 + 1) (.slice none 0 0) (.slice none 0 0) := by
      have h := Two.new ((w.alloc (.cells #[.slice a1 f.1.length c1, .slice a2 f.2.length c2] 25)).alloc (.cells #[.slice a3 t.1.length c3, .slice a4 t.2.length c4] 25)) (.slice none 0 0) (.slice none 0 0) 25
      simp only [size_alloc] at h
      rw [hW0]; exact h
    exact ⟨t1.below hb, t2.below hb, t3.below hb, b0.trans (hb.mono b0.size)⟩
  have HB0 : Hid (Below w.heap.size w W0) := (HT.out _ (Below.refl _ _)).2.2.2
  by_cases hf : chk f.1 f.2 = 0
  · by_cases ht : chk t.1 t.2 = 0
    · obtain ⟨v1, v2, v3⟩ := chk_ok hf
      obtain ⟨v4, v5, v6⟩ := chk_ok ht
      have HGt : Hid (∀ x w', Below w.heap.size w w' → Calls Try.prog 22 #[.agg #[.slice a3 t.1.length c3, .slice a4 t.1.length c4], .string x] w' fun e w2 => e = .returned (.tuple #[.int .i64 (getV (zipV t) x), .bool (fnd t.1 x)]) ∧ Below w'.heap.size w' w2) := fun x w' hb => by
        have h := rGet_any (zipV t) x (.agg #[.slice a3 t.1.length c3, .slice a4 t.1.length c4]) w' (by rw [nms_zip v4, vals_zip v4]; exact ⟨_, _, rfl, q3.below hb, by rw [v4]; exact q4.below hb⟩) (by rw [nms_zip v4]; exact (rise_all v6).2) (by rw [zipV_len v4]; omega)
        rwa [nms_zip v4] at h
      have HGf : Hid (∀ x w', Below w.heap.size w w' → Calls Try.prog 22 #[.agg #[.slice a1 f.1.length c1, .slice a2 f.1.length c2], .string x] w' fun e w2 => e = .returned (.tuple #[.int .i64 (getV (zipV f) x), .bool (fnd (nmsOf (zipV f)) x)]) ∧ Below w'.heap.size w' w2) := fun x w' hb =>
        rGet_any (zipV f) x (.agg #[.slice a1 f.1.length c1, .slice a2 f.1.length c2]) w' (by rw [nms_zip v1, vals_zip v1]; exact ⟨_, _, rfl, q1.below hb, by rw [v1]; exact q2.below hb⟩) (by rw [nms_zip v1]; exact (rise_all v3).2) (by rw [zipV_len v1]; omega)
      have HE9 : Hid (∀ i, i < f.1.length → fnd t.1 (f.1.getD i emp) = false → (diffM f t).1 = 9 ∧ (diffM f t).2 = []) := fun i hi hn => by
        unfold diffM; rw [if_neg (by omega), if_neg (by omega), if_neg (fun h => by rw [h i hi] at hn; cases hn)]; exact ⟨rfl, rfl⟩
      have HE0 : Hid ((∀ i, i < f.1.length → fnd t.1 (f.1.getD i emp) = true) → (diffM f t).1 = 0 ∧ (diffM f t).2 = putAll [] (selV (zipV f) ((zipV t).take t.1.length))) := fun h => by
        unfold diffM; rw [if_neg (by omega), if_neg (by omega), if_pos h, ← zipV_len v4, List.take_length]; exact ⟨rfl, rfl⟩
      have HN1 : Hid (∀ i, i < f.1.length → ∃ g off, a1 = some ⟨g, off, none⟩ ∧ g < w.heap.size ∧ w.cell? ⟨g, off + i, none⟩ = some (.string (f.1.getD i emp))) := fun i hi => e1 i _ (strsV_at hi)
      have HN3 : Hid (∀ i, i < t.1.length → ∃ g off, a3 = some ⟨g, off, none⟩ ∧ g < w.heap.size ∧ w.cell? ⟨g, off + i, none⟩ = some (.string (t.1.getD i emp)) ∧ (t.1.getD i emp).size ≤ 281474976710656) := fun i hi => by
        obtain ⟨g, off, x1, x2, x3⟩ := e3 i _ (strsV_at hi)
        exact ⟨g, off, x1, x2, x3, hs2 _ (getD_mem hi)⟩
      have HN4 : Hid (∀ i, i < t.1.length → ∃ g off, a4 = some ⟨g, off, none⟩ ∧ g < w.heap.size ∧ w.cell? ⟨g, off + i, none⟩ = some (.int .i64 (t.2.getD i 0))) := fun i hi => e4 i _ (intsV_at (by omega))
      have HSt : Hid (∀ k, k < t.1.length → putAll [] (selV (zipV f) ((zipV t).take (k + 1))) = if other (zipV f) (t.1.getD k emp, t.2.getD k 0) = true then putM (putAll [] (selV (zipV f) ((zipV t).take k))) (t.1.getD k emp) (t.2.getD k 0) else putAll [] (selV (zipV f) ((zipV t).take k))) := fun k hk => by
        rw [sel_step (by rw [zipV_len v4]; exact hk), zipV_at v4 hk]
      have HSr : Hid (∀ k, Srt (nmsOf (putAll [] (selV (zipV f) ((zipV t).take k)))) ∧ (putAll [] (selV (zipV f) ((zipV t).take k))).length ≤ 1000) := fun k => by
        refine ⟨putAll_srt List.Pairwise.nil, ?_⟩
        have h1 := (putAll_len (selV (zipV f) ((zipV t).take k)) []).2
        have h2 := sel_len (zipV f) ((zipV t).take k)
        have h3 : ((zipV t).take k).length ≤ 64 := by rw [List.length_take, zipV_len v4]; omega
        simp only [List.length_nil] at h1
        omega
      have HO : Hid (∀ x y, other (zipV f) (x, y) = (!(fnd (nmsOf (zipV f)) x) || !(decide (getV (zipV f) x = y)))) := fun x y => rfl
      rw [← v1] at HC1 HT hW0
      rw [← v4] at HC2 HT hW0
      rw [hf] at HC1
      rw [ht] at HC2
      rw [← v1, ← v4]
      clear r1 r2 r3 r4 q1 q2 q3 q4 e1 e3 e4 hs hs2 v3 v6 hf ht v1 v4 v2 v5
      generalize hN1 : f.1.length = N1 at *
      generalize hN3 : t.1.length = N3 at *
      go_enter Try.func20, Try.ntmps20
      go_wp2_with (first
        | (go_at_call 11; have := HBa; refine (HC2.out _ (HT.out _ HBa.out).2.2.2).mono ?_; rintro e w2 ⟨rfl, HB⟩; have HBb : Hid (Below W0.heap.size W0 w2) := HBa.out.trans (HB.mono HBa.out.size); obtain ⟨⟨p4, p0, p1, p2, p3⟩, ⟨o4, o0, o1, o2, o3⟩, _, _⟩ := HT.out _ HBb.out; clear HB HBa)
        | (go_at_call 11; rw [← hW0]; refine (HC1.out _ HB0.out).mono ?_; rintro e w1 ⟨rfl, HB⟩; have HBa : Hid (Below W0.heap.size W0 w1) := HB; obtain ⟨_, ⟨o4, o0, o1, o2, o3⟩, _, _⟩ := HT.out _ HBa.out; clear HB))
      go_loopw [8] (fun s8 wr => ∃ i : Nat, i ≤ N1 ∧ s8 = .int .i64 i ∧ Hid (∀ k, k < i → fnd t.1 (f.1.getD k emp) = true) ∧ Hid (Below W0.heap.size W0 wr)) (fun s8 _ => N1 - (intOf s8).toNat)
      case atStart => exact ⟨0, Nat.zero_le _, rfl, fun k hk => by omega, HBb⟩
      case round =>
        obtain ⟨i, hi, rfl, HI, HB⟩ := hrel
        by_cases hlt : i < N1
        · obtain ⟨g, off, rfl, hg, hc⟩ := HN1.out i hlt
          obtain ⟨⟨p4, p0, p1, p2, p3⟩, ⟨o4, o0, o1, o2, o3⟩, _, hBw⟩ := HT.out _ HB.out
          have f1 := (hBw.cell (p := ⟨g, off + i, none⟩) hg).trans hc
          have HBw : Hid (Below w.heap.size w wr) := hBw
          have HG : Hid (∀ w', Below w.heap.size w w' → Calls Try.prog 22 #[.agg #[.slice a3 N3 c3, .slice a4 N3 c4], .string (f.1.getD i emp)] w' fun e w2 => e = .returned (.tuple #[.int .i64 (getV (zipV t) (f.1.getD i emp)), .bool (fnd t.1 (f.1.getD i emp))]) ∧ Below w'.heap.size w' w2) := HGt.out _
          have HE : Hid (fnd t.1 (f.1.getD i emp) = false → (diffM f t).1 = 9 ∧ (diffM f t).2 = []) := HE9.out i hlt
          have HI2 : Hid (fnd t.1 (f.1.getD i emp) = true → ∀ k, k < i + 1 → fnd t.1 (f.1.getD k emp) = true) := fun h k hk => by
            rcases Nat.lt_or_ge k i with h1 | h1
            · exact HI.out k h1
            · rw [show k = i by omega]; exact h
          clear hBw hc HN1 HGt HE9 HI HC1 HC2
          generalize getV (zipV t) (f.1.getD i emp) = gv at *
          generalize fnd t.1 (f.1.getD i emp) = fb at *
          generalize f.1.getD i emp = y at *
          cases fb with
          | true =>
            have HI3 : Hid _ := HI2.out rfl
            clear HI2 HE
            have HDr : Hid (Below w.heap.size w wr.drew ∧ Below W0.heap.size W0 wr.drew) := ⟨Below.drew HBw.out, Below.drew HB.out⟩
            go_wp2_with fail
            go_region_with (go_at_call 22; refine (HG.out _ HDr.out.1).mono ?_; rintro e w3 ⟨rfl, HBg⟩; have HB3 : Hid (Below W0.heap.size W0 w3) := HDr.out.2.trans (HBg.mono HDr.out.2.size); clear HBg)
            all_goals
              (go_wp2
               go_roundw
               case rel => exact ⟨i + 1, by omega, by go_num, HI3, HB3⟩
               case measure => simp [intOf]; omega)
          | false =>
            have HE2 : Hid _ := HE.out rfl
            clear HI2 HE
            have HDr : Hid (Below w.heap.size w wr.drew ∧ Below W0.heap.size W0 wr.drew) := ⟨Below.drew HBw.out, Below.drew HB.out⟩
            go_wp2_with fail
            go_region_with (go_at_call 22; refine (HG.out _ HDr.out.1).mono ?_; rintro e w3 ⟨rfl, HBg⟩; have HB3 : Hid (Below W0.heap.size W0 w3) := HDr.out.2.trans (HBg.mono HDr.out.2.size); obtain ⟨_, _, ⟨u4, u0, u1, u2, u3⟩, _⟩ := HT.out _ HB3.out; clear HBg)
            all_goals
              (go_wp2
               refine bodyPost_ret (v := .tuple #[.agg #[.slice none 0 0, .slice none 0 0], .int .i64 9]) (by simp [results, Try.results20, go_sem, u0, u1]) rfl ?_
               exact HP.out _ 9 _ HE2.out.1.symm (by rw [HE2.out.2]; exact OwV.nil _ _) (((HT.out _ HB3.out).2.2.2.setCell (p := ⟨w.heap.size + 1 + 1, 0, none⟩) (by show w.heap.size ≤ w.heap.size + 1 + 1; omega) _).setCell (p := ⟨w.heap.size + 1 + 1, 1, none⟩) (by show w.heap.size ≤ w.heap.size + 1 + 1; omega) _))
        · have e : i = N1 := by omega
          have e' : N1 = i := e.symm
          clear e
          subst e'
          have HE1 : Hid _ := HE0.out HI.out
          obtain ⟨W1, rfl⟩ : ∃ W1, W1 = wr := ⟨wr, rfl⟩
          obtain ⟨hTa, hTb, hTc, hBw⟩ := HT.out _ HB.out
          have HTa : Hid (Two W1 w.heap.size (.slice a1 N1 c1) (.slice a2 N1 c2)) := hTa
          have HTb : Hid (Two W1 (w.heap.size + 1) (.slice a3 N3 c3) (.slice a4 N3 c4)) := hTb
          have HTc : Hid (Two W1 (w.heap.size + 1 + 1) (.slice none 0 0) (.slice none 0 0)) := hTc
          have HW1 : Hid (Below w.heap.size w W1) := hBw
          have hh1 : w.heap.size + 1 + 1 < W1.heap.size := hTc.lt
          have HV0 : Hid (Vr (W1.alloc (.cells #[.slice none 0 0, .slice none 0 0] 25)) W1.heap.size (putAll [] (selV (zipV f) ((zipV t).take 0)))) := ⟨_, _, Two.new W1 _ _ 25, Ow.nil _ _ _, Ow.nil _ _ _⟩
          obtain ⟨o4, o0, o1, o2, o3⟩ := hTb
          obtain ⟨p4, p0, p1, p2, p3⟩ := hTa
          clear hTc hBw HI HB HT HN1 HGt HE9 HE0 HC1 HC2 HB0 HBb
          go_wp2_with fail
          go_loopw [12] (fun s12 wr => ∃ k : Nat, k ≤ N3 ∧ s12 = .int .i64 k ∧ Hid (Vr wr W1.heap.size (putAll [] (selV (zipV f) ((zipV t).take k)))) ∧ Hid (Below W1.heap.size W1 wr)) (fun s12 _ => N3 - (intOf s12).toNat)
          case atStart => exact ⟨0, Nat.zero_le _, rfl, HV0, (Below.refl _ _).alloc (Nat.le_refl _) _⟩
          case round =>
            obtain ⟨k, hk, rfl, HV, HB⟩ := hrel
            by_cases hkt : k < N3
            · obtain ⟨g, off, rfl, hg, hc, hsz⟩ := HN3.out k hkt
              obtain ⟨g2, off2, rfl, hg2, hc2⟩ := HN4.out k hkt
              have HWr : Hid (Below w.heap.size w wr) := HW1.out.trans (HB.out.mono (by omega))
              have HF : Hid (∀ w3, Below wr.heap.size wr w3 → w3.cell? ⟨g2, off2 + k, none⟩ = some (.int .i64 (t.2.getD k 0)) ∧ Two w3 w.heap.size (.slice a1 N1 c1) (.slice a2 N1 c2) ∧ Two w3 (w.heap.size + 1) (.slice (some ⟨g, off, none⟩) N3 c3) (.slice (some ⟨g2, off2, none⟩) N3 c4) ∧ Vr w3 W1.heap.size (putAll [] (selV (zipV f) ((zipV t).take k))) ∧ Below W1.heap.size W1 w3) := fun w3 hb => by
                have hb1 : Below w.heap.size w w3 := HWr.out.trans (hb.mono HWr.out.size)
                exact ⟨(hb1.cell (p := ⟨g2, off2 + k, none⟩) hg2).trans hc2, (HTa.out.below HB.out).below hb, (HTb.out.below HB.out).below hb, HV.out.below hb, HB.out.trans (hb.mono HB.out.size)⟩
              have f1 := (HWr.out.cell (p := ⟨g, off + k, none⟩) hg).trans hc
              obtain ⟨_, ⟨p4, p0, p1, p2, p3⟩, ⟨x4, x0, x1, x2, x3⟩, _, _⟩ := HF.out _ (Below.refl _ _)
              have HG : Hid (∀ w', Below w.heap.size w w' → Calls Try.prog 22 #[.agg #[.slice a1 N1 c1, .slice a2 N1 c2], .string (t.1.getD k emp)] w' fun e w2 => e = .returned (.tuple #[.int .i64 (getV (zipV f) (t.1.getD k emp)), .bool (fnd (nmsOf (zipV f)) (t.1.getD k emp))]) ∧ Below w'.heap.size w' w2) := HGf.out _
              have hst := HSt.out k hkt
              have hO := HO.out (t.1.getD k emp) (t.2.getD k 0)
              have HF1 : Hid (∀ w3, Below wr.heap.size wr w3 → w3.cell? ⟨g, off + k, none⟩ = some (.string (t.1.getD k emp))) := fun w3 hb => ((HWr.out.trans (hb.mono HWr.out.size)).cell (p := ⟨g, off + k, none⟩) hg).trans hc
              have HGv : Hid (∀ w3, Vr w3 W1.heap.size (putAll [] (selV (zipV f) ((zipV t).take k))) → ∃ L5 a5 c5 b5 d5, Two w3 W1.heap.size (.slice a5 L5 c5) (.slice b5 L5 d5) ∧ ∀ w', Below w3.heap.size w3 w' → Calls Try.prog 36 #[.agg #[.slice a5 L5 c5, .slice b5 L5 d5], .string (t.1.getD k emp), .int .i64 (t.2.getD k 0)] w' fun e w2 => ∃ L e1 f1 e2 f2, e = .returned (.agg #[.slice e1 L f1, .slice e2 L f2]) ∧ Two w2 W1.heap.size (.slice a5 L5 c5) (.slice b5 L5 d5) ∧ Vr ((w2.setCell ⟨W1.heap.size, 0, none⟩ (.slice e1 L f1)).setCell ⟨W1.heap.size, 1, none⟩ (.slice e2 L f2)) W1.heap.size (putM (putAll [] (selV (zipV f) ((zipV t).take k))) (t.1.getD k emp) (t.2.getD k 0)) ∧ Below W1.heap.size w3 ((w2.setCell ⟨W1.heap.size, 0, none⟩ (.slice e1 L f1)).setCell ⟨W1.heap.size, 1, none⟩ (.slice e2 L f2))) := fun w3 h => by
                obtain ⟨a5, c5, b5, d5, ht, o9, ow2⟩ := h.at
                exact ⟨_, a5, c5, b5, d5, ht, fun w' hb => put_form hput ht o9 ow2 hb (HSr.out k).1 (by have := (HSr.out k).2; omega)⟩
              have HDr : Hid (Below w.heap.size w wr.drew ∧ Below wr.heap.size wr wr.drew) := ⟨Below.drew HWr.out, Below.drew (Below.refl _ _)⟩
              have HSt2 : Hid (putAll [] (selV (zipV f) ((zipV t).take (k + 1))) = if other (zipV f) (t.1.getD k emp, t.2.getD k 0) = true then putM (putAll [] (selV (zipV f) ((zipV t).take k))) (t.1.getD k emp) (t.2.getD k 0) else putAll [] (selV (zipV f) ((zipV t).take k))) := hst
              have HO2 : Hid (other (zipV f) (t.1.getD k emp, t.2.getD k 0) = (!(fnd (nmsOf (zipV f)) (t.1.getD k emp)) || !(decide (getV (zipV f) (t.1.getD k emp) = t.2.getD k 0)))) := hO
              have HB2 := HB
              clear hst hO hc hc2 HGf HSt HSr HO HN3 HN4 HTa HTb HV HV0 HB
              generalize getV (zipV f) (t.1.getD k emp) = gv at *
              generalize fnd (nmsOf (zipV f)) (t.1.getD k emp) = fb at *
              generalize other (zipV f) (t.1.getD k emp, t.2.getD k 0) = ob at *
              generalize t.1.getD k emp = y at *
              generalize t.2.getD k 0 = z at *
              by_cases hsame : fb = true ∧ gv = z
              · obtain ⟨rfl, rfl⟩ := hsame
                have HS3 : Hid (putAll [] (selV (zipV f) ((zipV t).take (k + 1))) = putAll [] (selV (zipV f) ((zipV t).take k))) := by
                  show _ = _
                  have h1 := HSt2.out
                  have h2 := HO2.out
                  rw [h2] at h1
                  simpa using h1
                clear HSt2 HO2
                go_wp2_with fail
                obtain ⟨y0, ⟨p4, p0, p1, p2, p3⟩, ⟨x4, x0, x1, x2, x3⟩, _, _⟩ := HF.out _ HDr.out.2
                have y1 := HF1.out _ HDr.out.2
                go_region_held3 (fun w' => w'.cell? ⟨w.heap.size, 0, none⟩ = some (.slice a1 N1 c1) ∧ w'.cell? ⟨w.heap.size, 1, none⟩ = some (.slice a2 N1 c2) ∧ w'.cell? ⟨w.heap.size + 1, 0, none⟩ = some (.slice (some ⟨g, off, none⟩) N3 c3) ∧ w'.cell? ⟨g, off + k, none⟩ = some (.string y)) (go_keep) (first | (go_at_call 22; refine (HG.out _ HDr.out.1).mono ?_; rintro e w3 ⟨rfl, HBg⟩; have HB3 : Hid (Below wr.heap.size wr w3) := HDr.out.2.trans (HBg.mono HDr.out.2.size); obtain ⟨y0, ⟨p4, p0, p1, p2, p3⟩, ⟨x4, x0, x1, x2, x3⟩, _, _⟩ := HF.out _ HB3.out; have y1 := HF1.out _ HB3.out; clear HBg))
                go_wp2
                go_roundw
                case rel => exact ⟨k + 1, by omega, by go_num, by rw [HS3.out]; exact (HF.out _ HB3.out).2.2.2.1, (HF.out _ HB3.out).2.2.2.2⟩
                case measure => simp [intOf]; omega
              · have hob : ob = true := by
                  rw [HO2.out]
                  cases fb with
                  | false => rfl
                  | true => simp at hsame; simp [hsame]
                have HS3 : Hid (putAll [] (selV (zipV f) ((zipV t).take (k + 1))) = putM (putAll [] (selV (zipV f) ((zipV t).take k))) y z) := by have h1 := HSt2.out; rwa [hob, if_pos rfl] at h1
                clear HSt2 HO2 hob
                cases fb with
                | false =>
                  clear hsame
                  go_wp2_with fail
                  obtain ⟨y0, ⟨p4, p0, p1, p2, p3⟩, ⟨x4, x0, x1, x2, x3⟩, _, _⟩ := HF.out _ HDr.out.2
                  have y1 := HF1.out _ HDr.out.2
                  go_region_held3 (fun w' => w'.cell? ⟨w.heap.size, 0, none⟩ = some (.slice a1 N1 c1) ∧ w'.cell? ⟨w.heap.size, 1, none⟩ = some (.slice a2 N1 c2) ∧ w'.cell? ⟨w.heap.size + 1, 0, none⟩ = some (.slice (some ⟨g, off, none⟩) N3 c3) ∧ w'.cell? ⟨g, off + k, none⟩ = some (.string y)) (go_keep) (first | (go_at_call 22; refine (HG.out _ HDr.out.1).mono ?_; rintro e w3 ⟨rfl, HBg⟩; have HB3 : Hid (Below wr.heap.size wr w3) := HDr.out.2.trans (HBg.mono HDr.out.2.size); obtain ⟨y0, ⟨p4, p0, p1, p2, p3⟩, ⟨x4, x0, x1, x2, x3⟩, _, _⟩ := HF.out _ HB3.out; have y1 := HF1.out _ HB3.out; clear HBg))
                  obtain ⟨L5, a5, c5, b5, d5, ht5, h36⟩ := HGv.out _ (HF.out _ HB3.out).2.2.2.1
                  have H36 : Hid _ := h36
                  have HDr3 : Hid (Below w3.heap.size w3 w3.drew) := Below.drew (Below.refl _ _)
                  have HB4 : Hid (Below W1.heap.size W1 w3) := (HF.out _ HB3.out).2.2.2.2
                  obtain ⟨t4, t0, t1, t2, t3⟩ := ht5
                  clear h36
                  go_wp2_with fail
                  go_region_with (go_at_call 36; refine (H36.out _ HDr3.out).mono ?_; rintro e w5 ⟨L, e1, f1', e2, f2', rfl, ⟨s4, s0, s1, s2, s3⟩, g1, g2⟩; have HN5 : Hid (Vr ((w5.setCell ⟨W1.heap.size, 0, none⟩ (.slice e1 L f1')).setCell ⟨W1.heap.size, 1, none⟩ (.slice e2 L f2')) W1.heap.size (putM (putAll [] (selV (zipV f) ((zipV t).take k))) y z) ∧ Below W1.heap.size W1 ((w5.setCell ⟨W1.heap.size, 0, none⟩ (.slice e1 L f1')).setCell ⟨W1.heap.size, 1, none⟩ (.slice e2 L f2'))) := ⟨g1, HB4.out.trans g2⟩; clear g1 g2)
                  all_goals
                    (go_wp2
                     go_roundw
                     case rel => exact ⟨k + 1, by omega, by go_num, by rw [HS3.out]; exact HN5.out.1, HN5.out.2⟩
                     case measure => simp [intOf]; omega)
                | true =>
                  have hne : ¬ gv = z := fun h => hsame ⟨rfl, h⟩
                  clear hsame
                  go_wp2_with fail
                  obtain ⟨y0, ⟨p4, p0, p1, p2, p3⟩, ⟨x4, x0, x1, x2, x3⟩, _, _⟩ := HF.out _ HDr.out.2
                  have y1 := HF1.out _ HDr.out.2
                  go_region_held3 (fun w' => w'.cell? ⟨w.heap.size, 0, none⟩ = some (.slice a1 N1 c1) ∧ w'.cell? ⟨w.heap.size, 1, none⟩ = some (.slice a2 N1 c2) ∧ w'.cell? ⟨w.heap.size + 1, 0, none⟩ = some (.slice (some ⟨g, off, none⟩) N3 c3) ∧ w'.cell? ⟨g, off + k, none⟩ = some (.string y)) (go_keep) (first | (go_at_call 22; refine (HG.out _ HDr.out.1).mono ?_; rintro e w3 ⟨rfl, HBg⟩; have HB3 : Hid (Below wr.heap.size wr w3) := HDr.out.2.trans (HBg.mono HDr.out.2.size); obtain ⟨y0, ⟨p4, p0, p1, p2, p3⟩, ⟨x4, x0, x1, x2, x3⟩, _, _⟩ := HF.out _ HB3.out; have y1 := HF1.out _ HB3.out; clear HBg))
                  obtain ⟨L5, a5, c5, b5, d5, ht5, h36⟩ := HGv.out _ (HF.out _ HB3.out).2.2.2.1
                  have H36 : Hid _ := h36
                  have HDr3 : Hid (Below w3.heap.size w3 w3.drew) := Below.drew (Below.refl _ _)
                  have HB4 : Hid (Below W1.heap.size W1 w3) := (HF.out _ HB3.out).2.2.2.2
                  obtain ⟨t4, t0, t1, t2, t3⟩ := ht5
                  clear h36
                  go_wp2_with fail
                  go_region_with (go_at_call 36; refine (H36.out _ HDr3.out).mono ?_; rintro e w5 ⟨L, e1, f1', e2, f2', rfl, ⟨s4, s0, s1, s2, s3⟩, g1, g2⟩; have HN5 : Hid (Vr ((w5.setCell ⟨W1.heap.size, 0, none⟩ (.slice e1 L f1')).setCell ⟨W1.heap.size, 1, none⟩ (.slice e2 L f2')) W1.heap.size (putM (putAll [] (selV (zipV f) ((zipV t).take k))) y z) ∧ Below W1.heap.size W1 ((w5.setCell ⟨W1.heap.size, 0, none⟩ (.slice e1 L f1')).setCell ⟨W1.heap.size, 1, none⟩ (.slice e2 L f2'))) := ⟨g1, HB4.out.trans g2⟩; clear g1 g2)
                  all_goals
                    (go_wp2
                     go_roundw
                     case rel => exact ⟨k + 1, by omega, by go_num, by rw [HS3.out]; exact HN5.out.1, HN5.out.2⟩
                     case measure => simp [intOf]; omega)
            · have e : k = N3 := by omega
              have e' : N3 = k := e.symm
              clear e
              subst e'
              obtain ⟨a5, c5, b5, d5, ht, o9, ow2⟩ := HV.out.at
              have HWr : Hid (Below w.heap.size w wr) := HW1.out.trans (HB.out.mono (by omega))
              have HTr : Hid (Two wr (w.heap.size + 1 + 1) (.slice none 0 0) (.slice none 0 0)) := HTc.out.below HB.out
              obtain ⟨l4, l0, l1, l2, l3⟩ := HTb.out.below HB.out
              have HF : Hid (DiffPost w f t (.returned (.tuple #[.agg #[.slice a5 (putAll [] (selV (zipV f) ((zipV t).take N3))).length c5, .slice b5 (putAll [] (selV (zipV f) ((zipV t).take N3))).length d5], .int .i64 0])) ((wr.setCell ⟨w.heap.size + 1 + 1, 0, none⟩ (.slice a5 (putAll [] (selV (zipV f) ((zipV t).take N3))).length c5)).setCell ⟨w.heap.size + 1 + 1, 1, none⟩ (.slice b5 (putAll [] (selV (zipV f) ((zipV t).take N3))).length d5))) := by
                refine HP.out _ 0 _ HE1.out.1.symm ?_ ((HWr.out.setCell (p := ⟨w.heap.size + 1 + 1, 0, none⟩) (by show w.heap.size ≤ w.heap.size + 1 + 1; omega) _).setCell (p := ⟨w.heap.size + 1 + 1, 1, none⟩) (by show w.heap.size ≤ w.heap.size + 1 + 1; omega) _)
                rw [HE1.out.2]
                exact OwV.le (base := W1.heap.size + 1) ((OwV.set (OwV.set ⟨_, _, rfl, o9, ow2⟩ (w.heap.size + 1 + 1) 0 _ (by omega)) (w.heap.size + 1 + 1) 1 _ (by omega))) (by omega)
              obtain ⟨t4, t0, t1, t2, t3⟩ := ht
              obtain ⟨u4, u0, u1, u2, u3⟩ := HTr.out
              clear o9 ow2 HV HP HE1 HN3 HN4 HSt HSr HO HGf HV0
              generalize (putAll [] (selV (zipV f) ((zipV t).take N3))).length = L at *
              go_wp2
              refine bodyPost_ret (v := .tuple #[.agg #[.slice a5 L c5, .slice b5 L d5], .int .i64 0]) (by simp [results, Try.results20, go_sem, u0, u1]) rfl ?_
              exact HF.out
    · have HE : Hid ((diffM f t).1 = chk t.1 t.2 ∧ (diffM f t).2 = []) := by show _ ∧ _; unfold diffM; rw [if_neg (by omega), if_pos ht]; exact ⟨rfl, rfl⟩
      rw [hf] at HC1
      have hne : ¬ ((chk t.1 t.2 : Int) = 0) := by omega
      clear r1 r2 r3 r4 q1 q2 q3 q4 e1 e3 e4 hs hs2 hf ht
      generalize f.1.length = N1 at *
      generalize t.1.length = N3 at *
      generalize f.2.length = N2 at *
      generalize t.2.length = N4 at *
      generalize chk t.1 t.2 = ck at *
      go_enter Try.func20, Try.ntmps20
      go_wp2_with (first
        | (go_at_call 11; have := HBa; refine (HC2.out _ (HT.out _ HBa.out).2.2.2).mono ?_; rintro e w2 ⟨rfl, HB⟩; have HBb : Hid (Below W0.heap.size W0 w2) := HBa.out.trans (HB.mono HBa.out.size); obtain ⟨_, _, ⟨u4, u0, u1, u2, u3⟩, _⟩ := HT.out _ HBb.out; clear HB HBa)
        | (go_at_call 11; rw [← hW0]; refine (HC1.out _ HB0.out).mono ?_; rintro e w1 ⟨rfl, HB⟩; have HBa : Hid (Below W0.heap.size W0 w1) := HB; obtain ⟨_, ⟨o4, o0, o1, o2, o3⟩, _, _⟩ := HT.out _ HBa.out; clear HB))
      refine bodyPost_ret (v := .tuple #[.agg #[.slice none 0 0, .slice none 0 0], .int .i64 ck]) (by simp [results, Try.results20, go_sem, u0, u1]) rfl ?_
      exact HP.out _ ck _ HE.out.1.symm (by rw [HE.out.2]; exact OwV.nil _ _) (((HT.out _ HBb.out).2.2.2.setCell (p := ⟨w.heap.size + 1 + 1, 0, none⟩) (by show w.heap.size ≤ w.heap.size + 1 + 1; omega) _).setCell (p := ⟨w.heap.size + 1 + 1, 1, none⟩) (by show w.heap.size ≤ w.heap.size + 1 + 1; omega) _)
  · have HE : Hid ((diffM f t).1 = chk f.1 f.2 ∧ (diffM f t).2 = []) := by show _ ∧ _; unfold diffM; rw [if_pos hf]; exact ⟨rfl, rfl⟩
    have hne : ¬ ((chk f.1 f.2 : Int) = 0) := by omega
    clear r1 r2 r3 r4 q1 q2 q3 q4 e1 e3 e4 hs hs2 hf HC2
    generalize f.1.length = N1 at *
    generalize t.1.length = N3 at *
    generalize f.2.length = N2 at *
    generalize t.2.length = N4 at *
    generalize chk f.1 f.2 = ck at *
    go_enter Try.func20, Try.ntmps20
    go_wp2_with (go_at_call 11; rw [← hW0]; refine (HC1.out _ HB0.out).mono ?_; rintro e w1 ⟨rfl, HB⟩; have HBa : Hid (Below W0.heap.size W0 w1) := HB; obtain ⟨_, _, ⟨u4, u0, u1, u2, u3⟩, _⟩ := HT.out _ HBa.out; clear HB)
    refine bodyPost_ret (v := .tuple #[.agg #[.slice none 0 0, .slice none 0 0], .int .i64 ck]) (by simp [results, Try.results20, go_sem, u0, u1]) rfl ?_
    exact HP.out _ ck _ HE.out.1.symm (by rw [HE.out.2]; exact OwV.nil _ _) (((HT.out _ HBa.out).2.2.2.setCell (p := ⟨w.heap.size + 1 + 1, 0, none⟩) (by show w.heap.size ≤ w.heap.size + 1 + 1; omega) _).setCell (p := ⟨w.heap.size + 1 + 1, 1, none⟩) (by show w.heap.size ≤ w.heap.size + 1 + 1; omega) _)
end Go.Proofs.Ytekhfepfaegpaaa
