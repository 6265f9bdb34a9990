/-
  The document's Of: the contract.
-/
import Derived.Test.YtfjphlejhcdbaaaVB
namespace Go.Proofs.Ytfjphlejhcdbaaa.V
open Go.RowKit Pack
set_option linter.unusedVariables false


/-- What the document's put does. -/
def PutOk : Prop := ∀ (l : VL) (n : ByteArray) (x : Int) (v : Value) (w : World), RdV w v (nmsOf l) (valsOf l) → Srt (nmsOf l) → l.length ≤ 100000 → Calls Try.prog 37 #[v, .string n, .int .i64 x] w fun e w' => ∃ r, e = .returned r ∧ OwV w' w.heap.size r (putM l n x) ∧ Below w.heap.size w w'
theorem put_form (hp : PutOk) {p : Nat} {l : VL} {n : ByteArray} {x : Int} {a b : Option Addr} {c d : Nat} {wr w' : World} (ht : Two wr p (.slice a l.length c) (.slice b l.length d)) (o9 : Ow wr (p + 1) 9 (.slice a l.length c) (strsV (nmsOf l))) (o2 : Ow wr (p + 1) 2 (.slice b l.length d) (intsV (valsOf l))) (hb : Below wr.heap.size wr w') (hs : Srt (nmsOf l)) (hl : l.length ≤ 100000) :
    Calls Try.prog 37 #[.agg #[.slice a l.length c, .slice b l.length d], .string n, .int .i64 x] w' fun e w2 => ∃ L e1 f1 e2 f2, e = .returned (.agg #[.slice e1 L f1, .slice e2 L f2]) ∧ Two w2 p (.slice a l.length c) (.slice b l.length d) ∧ Vr ((w2.setCell ⟨p, 0, none⟩ (.slice e1 L f1)).setCell ⟨p, 1, none⟩ (.slice e2 L f2)) p (putM l n x) ∧ Below p wr ((w2.setCell ⟨p, 0, none⟩ (.slice e1 L f1)).setCell ⟨p, 1, none⟩ (.slice e2 L f2)) := by
  refine (hp l n x _ w' ⟨_, _, rfl, (Rd.of_own o9).below hb, (Rd.of_own o2).below hb⟩ hs hl).mono ?_
  rintro e w2 ⟨r, rfl, ⟨sn, sv, rfl, h9, h2⟩, hB⟩
  have hpw : p + 1 ≤ w'.heap.size := Nat.le_trans ht.lt hb.size
  obtain ⟨e1, f1, rfl⟩ := (Rd.of_own h9).form
  obtain ⟨e2, f2, rfl⟩ := (Rd.of_own h2).form
  rw [strsV_len, nmsOf_len] at h9 ⊢
  rw [intsV_len, valsOf_len] at h2 ⊢
  have t2 := (ht.below hb).below hB
  refine ⟨_, e1, f1, e2, f2, rfl, t2, ⟨_, _, two_set1 (two_set0 t2 _) _, ow_set (ow_set (h9.le hpw) 0 _) 1 _, ow_set (ow_set (h2.le hpw) 0 _) 1 _⟩, ?_⟩
  have hlt : p < wr.heap.size := ht.lt
  have b1 : Below p wr w2 := Below.trans (hb.mono (Nat.le_of_lt hlt)) (hB.mono (Nat.le_of_lt hpw))
  exact Below.setCell (B := p) (Below.setCell (B := p) b1 (p := ⟨p, 0, none⟩) (Nat.le_refl _) _) (p := ⟨p, 1, none⟩) (Nat.le_refl _) _
/-- Where the outer loop stands. -/
def AtO (p : Nat) (xs : List VP) (i : Nat) (W1 wr : World) : Prop := Vr wr p (allM (xs.take i)) ∧ Below p W1 wr ∧ errs xs = errs (xs.drop i) ∧ (allM (xs.take i)).length ≤ 64 * i
set_option maxRecDepth 100000 in
set_option maxHeartbeats 4000000 in
theorem rOf_of (hput : PutOk) (xs : List VP) (v : Value) (w : World) (hv : RdL w v xs) (hs : ∀ x ∈ xs, ∀ n ∈ x.1, n.size ≤ 9223372036854775807) (hl : xs.length ≤ 100) : Calls Try.prog 19 #[v] w (OfPost w xs) := by
  obtain ⟨g, cc, rfl, hnc, hcc, hg, hcell⟩ := hv
  have HX : Hid (∀ i, i < xs.length → ∃ a c b d, w.cell? ⟨g, i * 2, none⟩ = some (.slice a (xs.getD i ([], [])).1.length c) ∧ w.cell? ⟨g, i * 2 + 1, none⟩ = some (.slice b (xs.getD i ([], [])).2.length d) ∧ Rd w (.slice a (xs.getD i ([], [])).1.length c) (strsV (xs.getD i ([], [])).1) ∧ Rd w (.slice b (xs.getD i ([], [])).2.length d) (intsV (xs.getD i ([], [])).2) ∧ ∀ n ∈ (xs.getD i ([], [])).1, n.size ≤ 9223372036854775807) := fun i hi => by
    obtain ⟨sn, sv, a1, a2, a3, a4⟩ := hcell i hi
    obtain ⟨a, c, rfl⟩ := a3.form
    obtain ⟨b, d, rfl⟩ := a4.form
    rw [strsV_len] at *
    rw [intsV_len] at *
    refine ⟨a, c, b, d, a1, a2, a3, a4, hs _ ?_⟩
    rw [List.getD_eq_getElem?_getD, List.getElem?_eq_getElem hi]
    exact List.getElem_mem hi
  have HP : Hid (∀ r n w', n = (ofM xs).1 → OwV w' w.heap.size r (ofM xs).2 → Below w.heap.size w w' → OfPost w xs (.returned (.tuple #[r, .int .i64 (n : Nat)])) w') := fun r n w' h1 h2 h3 => ⟨r, by rw [h1], h2, h3⟩
  have HE0 : Hid (∀ e, e ≠ 0 → errs xs = e → (ofM xs).1 = e ∧ (ofM xs).2 = []) := fun e h1 h2 => by unfold ofM; rw [if_pos (by omega)]; exact ⟨h2, rfl⟩
  have HE6 : Hid (errs xs = 0 → 64 < (allM (xs.take xs.length)).length → (ofM xs).1 = 6 ∧ (ofM xs).2 = []) := fun h1 h2 => by
    rw [List.take_length] at h2
    unfold ofM; rw [if_neg (by omega), if_pos (by omega)]; exact ⟨rfl, rfl⟩
  have HE1 : Hid (errs xs = 0 → ¬ 64 < (allM (xs.take xs.length)).length → (ofM xs).1 = 0 ∧ (ofM xs).2 = allM (xs.take xs.length)) := fun h1 h2 => by
    rw [List.take_length] at h2 ⊢
    unfold ofM; rw [if_neg (by omega), if_neg h2]; exact ⟨rfl, rfl⟩
  have HD : Hid (∀ i, i < xs.length → errs (xs.drop i) = if chk (xs.getD i ([], [])).1 (xs.getD i ([], [])).2 ≠ 0 then chk (xs.getD i ([], [])).1 (xs.getD i ([], [])).2 else errs (xs.drop (i + 1))) := fun i hi => errs_drop hi
  have HDN : Hid (errs (xs.drop xs.length) = 0) := by show errs (xs.drop xs.length) = 0; rw [List.drop_length]; rfl
  obtain ⟨W1, hW1⟩ : ∃ W, W = w.alloc (.cells #[.slice none 0 0, .slice none 0 0] 28) := ⟨_, rfl⟩
  have HP1 : Hid (W1.heap.size = w.heap.size + 1) := by show _ = _; rw [hW1, size_alloc]
  have HT1 : Hid (Two W1 w.heap.size (.slice none 0 0) (.slice none 0 0) ∧ Below w.heap.size w W1) := by show _ ∧ _; rw [hW1]; exact ⟨Two.new w _ _ 28, (Below.refl _ _).alloc (Nat.le_refl _) _⟩
  have HA0 : Hid (AtO (w.heap.size + 1) xs 0 W1 (W1.alloc (.cells #[.slice none 0 0, .slice none 0 0] 28))) := by
    show AtO _ _ _ _ _
    rw [← HP1.out]
    exact ⟨⟨_, _, Two.new W1 _ _ 28, Ow.nil _ _ _, Ow.nil _ _ _⟩, (Below.refl _ _).alloc (Nat.le_refl _) _, rfl, by simp [allM]⟩
  have HST : Hid (∀ i, i < xs.length → chk (xs.getD i ([], [])).1 (xs.getD i ([], [])).2 = 0 → (zipV (xs.getD i ([], []))).length = (xs.getD i ([], [])).1.length ∧ (xs.getD i ([], [])).1.length = (xs.getD i ([], [])).2.length ∧ (xs.getD i ([], [])).1.length ≤ 64 ∧ allM (xs.take (i + 1)) = putAll (allM (xs.take i)) (zipV (xs.getD i ([], []))) ∧ ∀ k, k < (xs.getD i ([], [])).1.length → putAll (allM (xs.take i)) ((zipV (xs.getD i ([], []))).take (k + 1)) = putM (putAll (allM (xs.take i)) ((zipV (xs.getD i ([], []))).take k)) ((xs.getD i ([], [])).1.getD k emp) ((xs.getD i ([], [])).2.getD k 0)) := fun i hi h0 => by
    have hm : xs.getD i ([], []) = xs[i] := by rw [List.getD_eq_getElem?_getD, List.getElem?_eq_getElem hi]; rfl
    rw [hm] at h0 ⊢
    have hok := chk_ok h0
    refine ⟨zipV_len hok.1, hok.1, hok.2.1, allM_step hi, fun k hk => ?_⟩
    rw [putAll_step (by rw [zipV_len hok.1]; exact hk), zipV_at hok.1 hk]
  have HSr : Hid (∀ i m, Srt (nmsOf (putAll (allM (xs.take i)) m))) := fun i m => putAll_srt (allM_srt _)
  have HPl : Hid (∀ i m, (putAll (allM (xs.take i)) m).length ≤ (allM (xs.take i)).length + m.length) := fun i m => (putAll_len _ _).2
  have HPut : Hid PutOk := hput
  clear hcell hs hput
  generalize hN : xs.length = N at *
  go_enter Try.func19, Try.ntmps19
  go_wp2_with fail
  rw [← hW1]
  go_loopw [5] (fun s5 wr => ∃ i : Nat, i ≤ N ∧ s5 = .int .i64 i ∧ Hid (AtO (w.heap.size + 1) xs i W1 wr)) (fun s5 _ => N - (intOf s5).toNat)
  case atStart => exact ⟨0, Nat.zero_le _, rfl, HA0⟩
  case round =>
    obtain ⟨i, hi, rfl, HA⟩ := hrel
    have hBw : Below w.heap.size w wr := HT1.out.2.trans (HA.out.2.1.mono (by omega))
    have HBw : Hid (Below w.heap.size w wr) := hBw
    by_cases hlt : i < N
    · obtain ⟨a, c, b, d, c1, c2, r1, r2, hsz⟩ := HX.out i hlt
      have HIs : Hid (_ = _) := HA.out.2.2.1.trans (HD.out i hlt)
      have d1 := (hBw.cell (p := ⟨g, i * 2, none⟩) hg).trans c1
      have d2 := (hBw.cell (p := ⟨g, i * 2 + 1, none⟩) hg).trans c2
      have HCk : Hid (Calls Try.prog 15 #[.agg #[.slice a (xs.getD i ([], [])).1.length c, .slice b (xs.getD i ([], [])).2.length d]] wr fun e w2 => e = .returned (.int .i64 (chk (xs.getD i ([], [])).1 (xs.getD i ([], [])).2 : Nat)) ∧ Below wr.heap.size wr w2) := rCheck_any _ _ _ wr ⟨_, _, rfl, r1.below hBw, r2.below hBw⟩ (fun n hn => by have := hsz n hn; omega)
      by_cases h0 : chk (xs.getD i ([], [])).1 (xs.getD i ([], [])).2 = 0
      · have HIn : Hid (errs xs = errs (xs.drop (i + 1))) := by have := HIs.out; rwa [if_neg (by omega)] at this
        obtain ⟨z1, z2, z3, z4, z6⟩ := HST.out i hlt h0
        have HR1 : Hid (∀ k, k < (xs.getD i ([], [])).1.length → ∃ bb oo, a = some ⟨bb, oo, none⟩ ∧ bb < w.heap.size ∧ w.cell? ⟨bb, oo + k, none⟩ = some (.string ((xs.getD i ([], [])).1.getD k emp))) := fun k hk => r1.at.2.2.2.2 k _ (strsV_at hk)
        have HR2 : Hid (∀ k, k < (xs.getD i ([], [])).1.length → ∃ bb oo, b = some ⟨bb, oo, none⟩ ∧ bb < w.heap.size ∧ w.cell? ⟨bb, oo + k, none⟩ = some (.int .i64 ((xs.getD i ([], [])).2.getD k 0))) := fun k hk => r2.at.2.2.2.2 k _ (intsV_at (by omega))
        have HZ6 : Hid (∀ k, k < (xs.getD i ([], [])).1.length → putAll (allM (xs.take i)) ((zipV (xs.getD i ([], []))).take (k + 1)) = putM (putAll (allM (xs.take i)) ((zipV (xs.getD i ([], []))).take k)) ((xs.getD i ([], [])).1.getD k emp) ((xs.getD i ([], [])).2.getD k 0)) := z6
        have HZ4 : Hid (allM (xs.take (i + 1)) = putAll (allM (xs.take i)) ((zipV (xs.getD i ([], []))).take (xs.getD i ([], [])).1.length)) := by show _ = _; rw [z4, ← z1, List.take_length]
        have hcap1 := r1.at.2.1
        have hcap1m := r1.at.2.2.1
        have hcap2 := r2.at.2.1
        have hcap2m := r2.at.2.2.1
        have HPk : Hid (∀ k, (putAll (allM (xs.take i)) ((zipV (xs.getD i ([], []))).take k)).length ≤ 64 * (i + 1)) := fun k => by
          have h1 := HPl.out i ((zipV (xs.getD i ([], []))).take k)
          have h2 : ((zipV (xs.getD i ([], []))).take k).length ≤ 64 := by rw [List.length_take]; omega
          have h3 := HA.out.2.2.2
          omega
        have HSi : Hid (∀ m, Srt (nmsOf (putAll (allM (xs.take i)) m))) := HSr.out i
        have HV0 : Hid (∀ w', Below wr.heap.size wr w' → Vr w' (w.heap.size + 1) (putAll (allM (xs.take i)) ((zipV (xs.getD i ([], []))).take 0)) ∧ Below (w.heap.size + 1) W1 w') := fun w' hb => ⟨HA.out.1.below hb, HA.out.2.1.trans (hb.mono (by obtain ⟨_, _, ht, _⟩ := HA.out.1; have := ht.lt; omega))⟩
        have HCg : Hid (∀ w', Below (w.heap.size + 1) W1 w' → Below w.heap.size w w' ∧ w'.cell? ⟨g, i * 2, none⟩ = some (.slice a (xs.getD i ([], [])).1.length c) ∧ w'.cell? ⟨g, i * 2 + 1, none⟩ = some (.slice b (xs.getD i ([], [])).1.length d)) := fun w' hb => by
          have hb2 : Below w.heap.size w w' := HT1.out.2.trans (hb.mono (by omega))
          exact ⟨hb2, (hb2.cell (p := ⟨g, i * 2, none⟩) hg).trans c1, by rw [z2]; exact (hb2.cell (p := ⟨g, i * 2 + 1, none⟩) hg).trans c2⟩
        rw [h0] at HCk
        rw [← z2] at d2 HCk hcap2
        clear c1 c2 r1 r2 hsz HX HST HSr HPl z1 z2 z4 z6 HA HIs hBw HA0 HD HDN h0
        generalize (xs.getD i ([], [])).1.length = n1 at *
        go_wp2_with (go_at_call 15; refine HCk.out.mono ?_; rintro e w1 ⟨rfl, HBc⟩; have HY1 : Hid (Vr w1 (w.heap.size + 1) (putAll (allM (xs.take i)) ((zipV (xs.getD i ([], []))).take 0)) ∧ Below (w.heap.size + 1) W1 w1) := HV0.out _ HBc; clear HBc)
        go_loopw [7] (fun s7 wr => ∃ k : Nat, k ≤ n1 ∧ s7 = .int .i64 k ∧ Hid (Vr wr (w.heap.size + 1) (putAll (allM (xs.take i)) ((zipV (xs.getD i ([], []))).take k)) ∧ Below (w.heap.size + 1) W1 wr)) (fun s7 _ => n1 - (intOf s7).toNat)
        case atStart => exact ⟨0, Nat.zero_le _, rfl, HY1⟩
        case round =>
          obtain ⟨k, hk, rfl, HV⟩ := hrel
          obtain ⟨hBw, d1, d2⟩ := HCg.out _ HV.out.2
          by_cases hkt : k < n1
          · obtain ⟨bb, oo, rfl, hb1, hc1⟩ := HR1.out k hkt
            obtain ⟨bb2, oo2, rfl, hb2, hc2⟩ := HR2.out k hkt
            have f1 := (hBw.cell (p := ⟨bb, oo + k, none⟩) hb1).trans hc1
            have f2 := (hBw.cell (p := ⟨bb2, oo2 + k, none⟩) hb2).trans hc2
            have hZ := HZ6.out k hkt
            obtain ⟨a5, c5, b5, d5, ht, o9, o2⟩ := HV.out.1.at
            have HG : Hid (∀ w', Below wr.heap.size wr w' → Calls Try.prog 37 #[.agg #[.slice a5 (putAll (allM (xs.take i)) ((zipV (xs.getD i ([], []))).take k)).length c5, .slice b5 (putAll (allM (xs.take i)) ((zipV (xs.getD i ([], []))).take k)).length d5], .string ((xs.getD i ([], [])).1.getD k emp), .int .i64 ((xs.getD i ([], [])).2.getD k 0)] w' fun e w2 => ∃ L e1 f1 e2 f2, e = .returned (.agg #[.slice e1 L f1, .slice e2 L f2]) ∧ Two w2 (w.heap.size + 1) (.slice a5 (putAll (allM (xs.take i)) ((zipV (xs.getD i ([], []))).take k)).length c5) (.slice b5 (putAll (allM (xs.take i)) ((zipV (xs.getD i ([], []))).take k)).length d5) ∧ Vr ((w2.setCell ⟨w.heap.size + 1, 0, none⟩ (.slice e1 L f1)).setCell ⟨w.heap.size + 1, 1, none⟩ (.slice e2 L f2)) (w.heap.size + 1) (putAll (allM (xs.take i)) ((zipV (xs.getD i ([], []))).take (k + 1))) ∧ Below (w.heap.size + 1) wr ((w2.setCell ⟨w.heap.size + 1, 0, none⟩ (.slice e1 L f1)).setCell ⟨w.heap.size + 1, 1, none⟩ (.slice e2 L f2))) := fun w' hb => by
              rw [hZ]
              exact put_form HPut.out ht o9 o2 hb (HSi.out _) (by have := HPk.out k; omega)
            have HDr : Hid (Below wr.heap.size wr wr.drew) := Below.drew (Below.refl _ _)
            have HBl : Hid (Below (w.heap.size + 1) W1 wr) := HV.out.2
            obtain ⟨t4, t0, t1, t2, t3⟩ := ht
            clear hZ hc1 hc2 HR1 HR2 HZ6 o9 o2 HV hBw HCk
            generalize (putAll (allM (xs.take i)) ((zipV (xs.getD i ([], []))).take k)).length = L5 at *
            generalize (xs.getD i ([], [])).1.getD k emp = y at *
            generalize (xs.getD i ([], [])).2.getD k 0 = z at *
            go_wp2_with fail
            go_region_with (go_at_call 37; refine (HG.out _ HDr.out).mono ?_; rintro e w2 ⟨L, e1, f1', e2, f2', rfl, ⟨y4, y0, y1, y2, y3⟩, q3, q4⟩; have HN5 : Hid (Vr ((w2.setCell ⟨w.heap.size + 1, 0, none⟩ (.slice e1 L f1')).setCell ⟨w.heap.size + 1, 1, none⟩ (.slice e2 L f2')) (w.heap.size + 1) (putAll (allM (xs.take i)) ((zipV (xs.getD i ([], []))).take (k + 1))) ∧ Below (w.heap.size + 1) W1 ((w2.setCell ⟨w.heap.size + 1, 0, none⟩ (.slice e1 L f1')).setCell ⟨w.heap.size + 1, 1, none⟩ (.slice e2 L f2'))) := ⟨q3, HBl.out.trans q4⟩; clear q3 q4)
            all_goals
              (go_wp2
               go_roundw
               case rel => exact ⟨k + 1, by omega, by go_num, HN5⟩
               case measure => simp [intOf]; omega)
          · have e : k = n1 := by omega
            subst e
            have HVn : Hid (AtO (w.heap.size + 1) xs (i + 1) W1 wr) := ⟨by rw [HZ4.out]; exact HV.out.1, HV.out.2, HIn.out, by rw [HZ4.out]; exact HPk.out _⟩
            clear HR1 HR2 HZ6 HV hBw HCk HZ4 HPk
            go_wp2
            go_roundw
            case rel => exact ⟨i + 1, by omega, by go_num, HVn⟩
            case measure => simp [intOf]; omega
      · have HIn : Hid (errs xs = chk (xs.getD i ([], [])).1 (xs.getD i ([], [])).2) := by have := HIs.out; rwa [if_pos h0] at this
        have HT9 : Hid (∀ w', Below wr.heap.size wr w' → Two w' w.heap.size (.slice none 0 0) (.slice none 0 0) ∧ Below w.heap.size w w') := fun w' hb => by
          have hb2 := hb.mono (show w.heap.size + 1 ≤ wr.heap.size by obtain ⟨_, _, ht, _⟩ := HA.out.1; have := ht.lt; omega)
          exact ⟨HT1.out.1.below (by rw [HP1.out]; exact HA.out.2.1.trans hb2), hBw.trans (hb2.mono (by omega))⟩
        clear c1 c2 r1 r2 hsz HX HST HSr HPl HA HIs hBw HA0 HD HDN
        generalize (xs.getD i ([], [])).1.length = n1 at *
        generalize (xs.getD i ([], [])).2.length = n2 at *
        generalize chk (xs.getD i ([], [])).1 (xs.getD i ([], [])).2 = ck at *
        have hne : ¬ ((ck : Int) = 0) := by omega
        go_wp2_with (go_at_call 15; refine HCk.out.mono ?_; rintro e w1 ⟨rfl, HBc⟩; have HB1 : Hid (Two w1 w.heap.size (.slice none 0 0) (.slice none 0 0) ∧ Below w.heap.size w w1) := HT9.out _ HBc; obtain ⟨p4, p0, p1, p2, p3⟩ := HB1.out.1; clear HBc)
        refine bodyPost_ret (v := .tuple #[.agg #[.slice none 0 0, .slice none 0 0], .int .i64 ck]) (by simp [results, Try.results19, go_sem, p0, p1]) rfl ?_
        exact HP.out _ _ _ (HE0.out ck h0 HIn.out).1.symm (by rw [(HE0.out ck h0 HIn.out).2]; exact OwV.nil _ _) ((HB1.out.2.setCell (p := ⟨w.heap.size, 0, none⟩) (Nat.le_refl _) _).setCell (p := ⟨w.heap.size, 1, none⟩) (Nat.le_refl _) _)
    · have e : i = N := by omega
      have e' : N = i := e.symm
      clear e
      subst e'
      have H00 : Hid (errs xs = 0) := HA.out.2.2.1.trans HDN.out
      obtain ⟨a5, c5, b5, d5, ht, o9, o2⟩ := HA.out.1.at
      have HTr : Hid (Two wr w.heap.size (.slice none 0 0) (.slice none 0 0)) := HT1.out.1.below (by rw [HP1.out]; exact HA.out.2.1)
      by_cases h64 : 64 < (allM (xs.take N)).length
      · have HR : Hid ((ofM xs).1 = 6 ∧ (ofM xs).2 = []) := HE6.out H00.out h64
        obtain ⟨t4, t0, t1, t2, t3⟩ := ht
        obtain ⟨u4, u0, u1, u2, u3⟩ := HTr.out
        clear o9 o2 HX HST HSr HPl HA hBw HA0 HD HDN HE0 HE6 HE1
        generalize (allM (xs.take N)).length = L at *
        go_wp2
        refine bodyPost_ret (v := .tuple #[.agg #[.slice none 0 0, .slice none 0 0], .int .i64 6]) (by simp [results, Try.results19, go_sem, u0, u1]) rfl ?_
        exact HP.out _ 6 _ HR.out.1.symm (by rw [HR.out.2]; exact OwV.nil _ _) ((HBw.out.setCell (p := ⟨w.heap.size, 0, none⟩) (Nat.le_refl _) _).setCell (p := ⟨w.heap.size, 1, none⟩) (Nat.le_refl _) _)
      · have HR := HE1.out H00.out h64
        have HF : Hid (OfPost w xs (.returned (.tuple #[.agg #[.slice a5 (allM (xs.take N)).length c5, .slice b5 (allM (xs.take N)).length d5], .int .i64 0])) ((wr.setCell ⟨w.heap.size, 0, none⟩ (.slice a5 (allM (xs.take N)).length c5)).setCell ⟨w.heap.size, 1, none⟩ (.slice b5 (allM (xs.take N)).length d5))) := by
          refine HP.out _ 0 _ HR.1.symm ?_ ((HBw.out.setCell (p := ⟨w.heap.size, 0, none⟩) (Nat.le_refl _) _).setCell (p := ⟨w.heap.size, 1, none⟩) (Nat.le_refl _) _)
          rw [HR.2]
          have hO : OwV wr (w.heap.size + 1 + 1) (.agg #[.slice a5 (allM (xs.take N)).length c5, .slice b5 (allM (xs.take N)).length d5]) (allM (xs.take N)) := ⟨_, _, rfl, o9, o2⟩
          exact ((hO.set w.heap.size 0 _ (by omega)).set w.heap.size 1 _ (by omega)).le (by omega)
        obtain ⟨t4, t0, t1, t2, t3⟩ := ht
        obtain ⟨u4, u0, u1, u2, u3⟩ := HTr.out
        clear HR o9 o2 HX HST HSr HPl HA hBw HA0 HD HDN HE0 HE6 HE1 HP
        generalize (allM (xs.take N)).length = L at *
        go_wp2
        refine bodyPost_ret (v := .tuple #[.agg #[.slice a5 L c5, .slice b5 L d5], .int .i64 0]) (by simp [results, Try.results19, go_sem, u0, u1]) rfl ?_
        exact HF.out
end Go.Proofs.Ytfjphlejhcdbaaa.V
