/-
  Of: variables put together: the contract.
-/
import Derived.Test.YtekhfepfaegpaaaOfM
namespace Go.Proofs.Ytekhfepfaegpaaa
open Go.RowKit Pack
set_option linter.unusedVariables false

theorem Vr.at {w : World} {p : Nat} {l : VL} (h : Vr w p l) : ∃ a c b d, Two w p (.slice a l.length c) (.slice b l.length d) ∧ Ow w (p + 1) 9 (.slice a l.length c) (strsV (nmsOf l)) ∧ Ow w (p + 1) 2 (.slice b l.length d) (intsV (valsOf l)) := by
  obtain ⟨sn, sv, h1, h2, h3⟩ := h
  obtain ⟨a, c, rfl⟩ := (Rd.of_own h2).form
  obtain ⟨b, d, rfl⟩ := (Rd.of_own h3).form
  rw [strsV_len, nmsOf_len] at *
  rw [intsV_len, valsOf_len] at *
  exact ⟨a, c, b, d, h1, h2, h3⟩
def nilV : Value := .slice none 0 0
def OfPost (w : World) (xs : List VP) (e : Ending) (w' : World) : Prop := ∃ r, e = .returned (.tuple #[r, .int .i64 ((ofM xs).1 : Nat)]) ∧ OwV w' w.heap.size r (ofM xs).2 ∧ Below w.heap.size w w'
set_option maxRecDepth 100000 in
set_option maxHeartbeats 4000000 in
theorem Of_any (xs : List VP) (v : Value) (w : World) (hv : RdL w v xs) (hs : ∀ x ∈ xs, ∀ n ∈ x.1, n.size ≤ 281474976710656) (hl : xs.length ≤ 100) : Calls Try.prog 15 #[v] w (OfPost w xs) := by
  obtain ⟨g, cc, rfl, hnc, hcc, hg, hcell⟩ := hv
  have HX : Hid (∀ i, i < xs.length → ∃ a c b d, w.cell? ⟨g, i * 2, none⟩ = some (.slice a (xs.getD i ([], [])).1.length c) ∧ w.cell? ⟨g, i * 2 + 1, none⟩ = some (.slice b (xs.getD i ([], [])).2.length d) ∧ Rd w (.slice a (xs.getD i ([], [])).1.length c) (strsV (xs.getD i ([], [])).1) ∧ Rd w (.slice b (xs.getD i ([], [])).2.length d) (intsV (xs.getD i ([], [])).2) ∧ ∀ n ∈ (xs.getD i ([], [])).1, n.size ≤ 281474976710656) := fun i hi => by
    obtain ⟨sn, sv, a1, a2, a3, a4⟩ := hcell i hi
    obtain ⟨a, c, rfl⟩ := a3.form
    obtain ⟨b, d, rfl⟩ := a4.form
    rw [strsV_len] at *
    rw [intsV_len] at *
    refine ⟨a, c, b, d, a1, a2, a3, a4, hs _ ?_⟩
    rw [List.getD_eq_getElem?_getD, List.getElem?_eq_getElem hi]
    exact List.getElem_mem hi
  have HP : Hid (∀ r n w', n = (ofM xs).1 → OwV w' w.heap.size r (ofM xs).2 → Below w.heap.size w w' → OfPost w xs (.returned (.tuple #[r, .int .i64 (n : Nat)])) w') := fun r n w' h1 h2 h3 => ⟨r, by rw [h1], h2, h3⟩
  have HE0 : Hid (∀ e, e ≠ 0 → errs xs = e → (ofM xs).1 = e ∧ (ofM xs).2 = []) := fun e h1 h2 => by unfold ofM; rw [if_pos (by omega)]; exact ⟨h2, rfl⟩
  have HE6 : Hid (∀ i, errs xs = 0 → 64 < (allM (xs.take i)).length → (ofM xs).1 = 6 ∧ (ofM xs).2 = []) := fun i h1 h2 => by
    have := allM_len xs i
    unfold ofM; rw [if_neg (by omega), if_pos (by omega)]; exact ⟨rfl, rfl⟩
  have HE1 : Hid (errs xs = 0 → ¬ 64 < (allM (xs.take xs.length)).length → (ofM xs).1 = 0 ∧ (ofM xs).2 = allM (xs.take xs.length)) := fun h1 h2 => by
    rw [List.take_length] at h2 ⊢
    unfold ofM; rw [if_neg (by omega), if_neg h2]; exact ⟨rfl, rfl⟩
  have HD : Hid (∀ i, i < xs.length → errs (xs.drop i) = if chk (xs.getD i ([], [])).1 (xs.getD i ([], [])).2 ≠ 0 then chk (xs.getD i ([], [])).1 (xs.getD i ([], [])).2 else errs (xs.drop (i + 1))) := fun i hi => errs_drop hi
  have HDN : Hid (errs (xs.drop xs.length) = 0) := by show errs (xs.drop xs.length) = 0; rw [List.drop_length]; rfl
  have HT : Hid (∀ w', Below (w.alloc (.cells #[.slice none 0 0, .slice none 0 0] 25)).heap.size (w.alloc (.cells #[.slice none 0 0, .slice none 0 0] 25)) w' → Two w' w.heap.size (.slice none 0 0) (.slice none 0 0) ∧ Below w.heap.size w w') := fun w' hb => ⟨(Two.new w _ _ 25).below hb, ((Below.refl _ _).alloc (Nat.le_refl _) _).trans (hb.mono (base_le (Nat.le_refl _) _))⟩
  have HST : Hid (∀ i, i < xs.length → errs xs = 0 → (zipV (xs.getD i ([], []))).length = (xs.getD i ([], [])).1.length ∧ (xs.getD i ([], [])).1.length = (xs.getD i ([], [])).2.length ∧ (xs.getD i ([], [])).1.length ≤ 64 ∧ allM (xs.take (i + 1)) = putAll (allM (xs.take i)) (zipV (xs.getD i ([], []))) ∧ (allM (xs.take i)).length ≤ 64 * i ∧ ∀ k, k < (xs.getD i ([], [])).1.length → putAll (allM (xs.take i)) ((zipV (xs.getD i ([], []))).take (k + 1)) = putM (putAll (allM (xs.take i)) ((zipV (xs.getD i ([], []))).take k)) ((xs.getD i ([], [])).1.getD k emp) ((xs.getD i ([], [])).2.getD k 0)) := fun i hi h0 => by
    have hm : xs.getD i ([], []) = xs[i] := by rw [List.getD_eq_getElem?_getD, List.getElem?_eq_getElem hi]; rfl
    have hok := chk_ok (errs_ok h0 _ (List.getElem_mem hi))
    rw [hm]
    refine ⟨zipV_len hok.1, hok.1, hok.2.1, allM_step hi, ?_, fun k hk => ?_⟩
    · have : ∀ j, j ≤ xs.length → (allM (xs.take j)).length ≤ 64 * j := fun j => by
        induction j with
        | zero => intro _; simp [allM]
        | succ j ih =>
          intro hj
          have hokj := chk_ok (errs_ok h0 _ (List.getElem_mem (show j < xs.length by omega)))
          rw [allM_step (by omega)]
          have h1 := (putAll_len (zipV xs[j]) (allM (xs.take j))).2
          rw [zipV_len hokj.1] at h1
          have := ih (by omega)
          omega
      exact this i (by omega)
    · rw [putAll_step (by rw [zipV_len hok.1]; exact hk), zipV_at hok.1 hk]
  have HSr : Hid (∀ i m, Srt (nmsOf (putAll (allM (xs.take i)) m))) := fun i m => putAll_srt (allM_srt _)
  have HPl : Hid (∀ i m, (putAll (allM (xs.take i)) m).length ≤ (allM (xs.take i)).length + m.length) := fun i m => (putAll_len _ _).2
  clear hcell hs
  generalize hN : xs.length = N at *
  go_enter Try.func15, Try.ntmps15
  go_wp2_with fail
  go_loopw [14] (fun s14 wr => ∃ i : Nat, i ≤ N ∧ s14 = .int .i64 i ∧ Hid (errs xs = errs (xs.drop i)) ∧ Hid (Below (w.alloc (.cells #[.slice none 0 0, .slice none 0 0] 25)).heap.size (w.alloc (.cells #[.slice none 0 0, .slice none 0 0] 25)) wr)) (fun s14 _ => N - (intOf s14).toNat)
  case atStart => exact ⟨0, Nat.zero_le _, rfl, rfl, Below.refl _ _⟩
  case round =>
    obtain ⟨i, hi, rfl, HI, HB⟩ := hrel
    by_cases hlt : i < N
    · obtain ⟨a, c, b, d, c1, c2, r1, r2, hsz⟩ := HX.out i hlt
      have HIs : Hid (_ = _) := HI.out.trans (HD.out i hlt)
      have d1 := ((HT.out _ HB.out).2.cell (p := ⟨g, i * 2, none⟩) hg).trans c1
      have d2 := ((HT.out _ HB.out).2.cell (p := ⟨g, i * 2 + 1, none⟩) hg).trans c2
      have HC : Hid (∀ w', Below w.heap.size w w' → Calls Try.prog 10 #[.agg #[.slice a (xs.getD i ([], [])).1.length c, .slice b (xs.getD i ([], [])).2.length d]] w' fun e w2 => e = .returned (.int .i64 (chk (xs.getD i ([], [])).1 (xs.getD i ([], [])).2 : Nat)) ∧ Below w'.heap.size w' w2) := fun w' hb => Check_any _ _ _ w' ⟨_, _, rfl, r1.below hb, r2.below hb⟩ (fun n hn => by have := hsz n hn; omega)
      have HBq : Hid (Below (w.alloc (.cells #[.slice none 0 0, .slice none 0 0] 25)).heap.size (w.alloc (.cells #[.slice none 0 0, .slice none 0 0] 25)) (wr.alloc (.cells #[.slice a (xs.getD i ([], [])).1.length c, .slice b (xs.getD i ([], [])).2.length d] 25))) := HB.out.alloc HB.out.size _
      clear c1 c2 r1 r2 hsz HX HST HD
      generalize (xs.getD i ([], [])).1.length = n1 at *
      generalize (xs.getD i ([], [])).2.length = n2 at *
      generalize chk (xs.getD i ([], [])).1 (xs.getD i ([], [])).2 = ck at *
      by_cases h0 : ck = 0
      · have HIn : Hid (errs xs = errs (xs.drop (i + 1))) := by have := HIs.out; rwa [if_neg (by omega)] at this
        subst h0
        clear HIs HI
        go_wp2_with (go_at_call 10; refine (HC.out _ (HT.out _ HBq.out).2).mono ?_; rintro e w1 ⟨rfl, HBc⟩; have HB1 : Hid (Below (w.alloc (.cells #[.slice none 0 0, .slice none 0 0] 25)).heap.size (w.alloc (.cells #[.slice none 0 0, .slice none 0 0] 25)) w1) := HBq.out.trans (HBc.mono HBq.out.size); clear HBc)
        go_roundw
        case rel => exact ⟨i + 1, by omega, by go_num, HIn, HB1⟩
        case measure => simp [intOf]; omega
      · have HIn : Hid (errs xs = ck) := by have := HIs.out; rwa [if_pos h0] at this
        have hne : ¬ ((ck : Int) = 0) := by omega
        clear HIs HI
        go_wp2_with (go_at_call 10; refine (HC.out _ (HT.out _ HBq.out).2).mono ?_; rintro e w1 ⟨rfl, HBc⟩; have HB1 : Hid (Below (w.alloc (.cells #[.slice none 0 0, .slice none 0 0] 25)).heap.size (w.alloc (.cells #[.slice none 0 0, .slice none 0 0] 25)) w1) := HBq.out.trans (HBc.mono HBq.out.size); obtain ⟨⟨p4, p0, p1, p2, p3⟩, _⟩ := HT.out _ HB1.out; clear HBc)
        refine bodyPost_ret (v := .tuple #[.agg #[.slice none 0 0, .slice none 0 0], .int .i64 ck]) (by simp [results, Try.results15, go_sem, p0, p1]) rfl ?_
        exact HP.out _ _ _ (HE0.out ck h0 HIn.out).1.symm (by rw [(HE0.out ck h0 HIn.out).2]; exact OwV.nil _ _) (((HT.out _ HB1.out).2.setCell (p := ⟨w.heap.size, 0, none⟩) (Nat.le_refl _) _).setCell (p := ⟨w.heap.size, 1, none⟩) (Nat.le_refl _) _)
    · have e : i = N := by omega
      have e' : N = i := e.symm
      clear e
      subst e'
      obtain ⟨N0, rfl⟩ : ∃ N0, N0 = N := ⟨N, rfl⟩
      have H00 : Hid (errs xs = 0) := HI.out.trans HDN.out
      clear HI
      obtain ⟨W1, rfl⟩ : ∃ W1, W1 = wr := ⟨wr, rfl⟩
      have HW1 : Hid (Below w.heap.size w W1) := (HT.out _ HB.out).2
      have HT1 : Hid (Two W1 w.heap.size (.slice none 0 0) (.slice none 0 0)) := (HT.out _ HB.out).1
      have hh1 : w.heap.size < W1.heap.size := HT1.out.lt
      have HV0 : Hid (Vr (W1.alloc (.cells #[.slice none 0 0, .slice none 0 0] 25)) W1.heap.size (allM (xs.take 0))) := ⟨_, _, Two.new W1 _ _ 25, Ow.nil _ _ _, Ow.nil _ _ _⟩
      clear HB HT HD HDN
      go_wp2_with fail
      go_loopw [27] (fun s27 wr => ∃ i : Nat, i ≤ N0 ∧ s27 = .int .i64 i ∧ Hid (Vr wr W1.heap.size (allM (xs.take i)) ∧ ¬ 64 < (allM (xs.take i)).length) ∧ Hid (Below W1.heap.size W1 wr)) (fun s27 _ => N0 - (intOf s27).toNat)
      case atStart => exact ⟨0, Nat.zero_le _, rfl, ⟨HV0.out, by simp [allM]⟩, (Below.refl _ _).alloc (Nat.le_refl _) _⟩
      case round =>
        obtain ⟨i, hi, rfl, HV, HB⟩ := hrel
        by_cases hlt : i < N0
        · obtain ⟨a, c, b, d, c1, c2, r1, r2, hsz⟩ := HX.out i hlt
          obtain ⟨z1, z2, z3, z4, z5, z6⟩ := HST.out i hlt H00.out
          have HWr : Hid (Below w.heap.size w wr) := HW1.out.trans (HB.out.mono (by omega))
          have d1 := (HWr.out.cell (p := ⟨g, i * 2, none⟩) hg).trans c1
          have d2 := (HWr.out.cell (p := ⟨g, i * 2 + 1, none⟩) hg).trans c2
          have HR1 : Hid (∀ k, k < (xs.getD i ([], [])).1.length → ∃ bb oo, a = some ⟨bb, oo, none⟩ ∧ bb < w.heap.size ∧ w.cell? ⟨bb, oo + k, none⟩ = some (.string ((xs.getD i ([], [])).1.getD k emp)) ∧ ((xs.getD i ([], [])).1.getD k emp).size ≤ 281474976710656) := fun k hk => by
            obtain ⟨bb, oo, q1, q2, q3⟩ := r1.at.2.2.2.2 k _ (strsV_at hk)
            exact ⟨bb, oo, q1, q2, q3, hsz _ (getD_mem hk)⟩
          have HR2 : Hid (∀ k, k < (xs.getD i ([], [])).1.length → ∃ bb oo, b = some ⟨bb, oo, none⟩ ∧ bb < w.heap.size ∧ w.cell? ⟨bb, oo + k, none⟩ = some (.int .i64 ((xs.getD i ([], [])).2.getD k 0))) := fun k hk => r2.at.2.2.2.2 k _ (intsV_at (by omega))
          have HZ6 : Hid (∀ k, k < (xs.getD i ([], [])).1.length → putAll (allM (xs.take i)) ((zipV (xs.getD i ([], []))).take (k + 1)) = putM (putAll (allM (xs.take i)) ((zipV (xs.getD i ([], []))).take k)) ((xs.getD i ([], [])).1.getD k emp) ((xs.getD i ([], [])).2.getD k 0)) := z6
          have HZ4 : Hid (allM (xs.take (i + 1)) = putAll (allM (xs.take i)) ((zipV (xs.getD i ([], []))).take (xs.getD i ([], [])).1.length)) := by show _ = _; rw [z4, ← z1, List.take_length]
          have hcap1 := r1.at.2.1
          have hcap1m := r1.at.2.2.1
          have hcap2 := r2.at.2.1
          have hcap2m := r2.at.2.2.1
          have HPk : Hid (∀ k, (putAll (allM (xs.take i)) ((zipV (xs.getD i ([], []))).take k)).length ≤ 10000) := fun k => by
            have h1 := HPl.out i ((zipV (xs.getD i ([], []))).take k)
            have h2 : ((zipV (xs.getD i ([], []))).take k).length ≤ 64 := by rw [List.length_take]; omega
            have h3 := HV.out.2
            omega
          have HVq : Hid (Vr (wr.alloc (.cells #[.slice a (xs.getD i ([], [])).1.length c, .slice b (xs.getD i ([], [])).1.length d] 25)) W1.heap.size (putAll (allM (xs.take i)) ((zipV (xs.getD i ([], []))).take 0))) := HV.out.1.below ((Below.refl _ _).alloc (Nat.le_refl _) _)
          have HBq : Hid (Below W1.heap.size W1 (wr.alloc (.cells #[.slice a (xs.getD i ([], [])).1.length c, .slice b (xs.getD i ([], [])).1.length d] 25))) := HB.out.alloc HB.out.size _
          have HSi : Hid (∀ m, Srt (nmsOf (putAll (allM (xs.take i)) m))) := HSr.out i
          have hpq : W1.heap.size < wr.heap.size := by
            obtain ⟨_, _, ht, _⟩ := HV.out.1
            exact ht.lt
          rw [← z2] at d2
          clear c1 c2 r1 r2 hsz HX HST HSr HPl z1 z2 z4 z5 z6 HV HB HV0
          generalize (xs.getD i ([], [])).1.length = n1 at *
          obtain ⟨W2, rfl⟩ : ∃ W2, W2 = wr := ⟨wr, rfl⟩
          have HQ0 : Hid ((W2.alloc (.cells #[.slice a n1 c, .slice b n1 d] 25)).heap[W2.heap.size]? = some (.cells #[.slice a n1 c, .slice b n1 d] 25 (0, 0))) := heap_alloc_new W2 _
          go_wp2_with fail
          go_loopw [34] (fun s34 wr => ∃ k : Nat, k ≤ n1 ∧ s34 = .int .i64 k ∧ Hid (Vr wr W1.heap.size (putAll (allM (xs.take i)) ((zipV (xs.getD i ([], []))).take k))) ∧ Hid (Below W1.heap.size W1 wr) ∧ Hid (wr.heap[W2.heap.size]? = some (.cells #[.slice a n1 c, .slice b n1 d] 25 (0, 0)))) (fun s34 _ => n1 - (intOf s34).toNat)
          case atStart => exact ⟨0, Nat.zero_le _, rfl, HVq, HBq, HQ0⟩
          case round =>
            obtain ⟨k, hk, rfl, HV, HB, HQ⟩ := hrel
            by_cases hkt : k < n1
            · obtain ⟨bb, oo, rfl, hb1, hc1, hsz⟩ := HR1.out k hkt
              obtain ⟨bb2, oo2, rfl, hb2, hc2⟩ := HR2.out k hkt
              have HWr : Hid (Below w.heap.size w wr) := HW1.out.trans (HB.out.mono (by omega))
              have f1 := (HWr.out.cell (p := ⟨bb, oo + k, none⟩) hb1).trans hc1
              have f2 := (HWr.out.cell (p := ⟨bb2, oo2 + k, none⟩) hb2).trans hc2
              have f3 := cell_of_row wr W2.heap.size 1 _ 25 (0, 0) HQ.out
              simp only [List.getElem?_toArray, List.getElem?_cons_succ, List.getElem?_cons_zero] at f3
              have hZ := HZ6.out k hkt
              have HG : Hid (Calls Try.prog 35 #[.pointer (some ⟨W1.heap.size, 0, none⟩), .string ((xs.getD i ([], [])).1.getD k emp), .int .i64 ((xs.getD i ([], [])).2.getD k 0)] wr fun e w' => e = .returned (.tuple #[]) ∧ Vr w' W1.heap.size (putAll (allM (xs.take i)) ((zipV (xs.getD i ([], []))).take (k + 1))) ∧ Below W1.heap.size wr w' ∧ Keeps W1.heap.size wr w') := by
                rw [hZ]
                exact give_any _ _ _ _ wr HV.out (HSi.out _) (by have := HPk.out k; omega) hsz
              clear hZ hc1 hc2 HR1 HR2 HZ6 HQ0 HVq HBq
              generalize (xs.getD i ([], [])).1.getD k emp = y at *
              generalize (xs.getD i ([], [])).2.getD k 0 = z at *
              go_wp2_with (go_at_call 35; refine HG.out.mono ?_; rintro e w5 ⟨rfl, g1, g2, g3⟩; have HN5 : Hid (Vr w5 W1.heap.size (putAll (allM (xs.take i)) ((zipV (xs.getD i ([], []))).take (k + 1))) ∧ Below W1.heap.size W1 w5 ∧ w5.heap[W2.heap.size]? = some (.cells #[.slice (some ⟨bb, oo, none⟩) n1 c, .slice (some ⟨bb2, oo2, none⟩) n1 d] 25 (0, 0))) := ⟨g1, HB.out.trans g2, g3 _ _ _ _ (by omega) HQ.out (by decide) (by decide)⟩; clear g1 g2 g3)
              go_roundw
              case rel => exact ⟨k + 1, by omega, by go_num, HN5.out.1, HN5.out.2.1, HN5.out.2.2⟩
              case measure => simp [intOf]; omega
            · have e : k = n1 := by omega
              subst e
              have HVn : Hid (Vr wr W1.heap.size (allM (xs.take (i + 1)))) := by show Vr _ _ _; rw [HZ4.out]; exact HV.out
              have hVat := HVn.out.at
              obtain ⟨a5, c5, b5, d5, ⟨t4, t0, t1, t2, t3⟩, _, _⟩ := hVat
              have HWr : Hid (Below w.heap.size w wr) := HW1.out.trans (HB.out.mono (by omega))
              have HTr : Hid (Two wr w.heap.size (.slice none 0 0) (.slice none 0 0)) := HT1.out.below HB.out
              obtain ⟨u4, u0, u1, u2, u3⟩ := HTr.out
              have HE6i : Hid (64 < (allM (xs.take (i + 1))).length → (ofM xs).1 = 6 ∧ (ofM xs).2 = []) := HE6.out (i + 1) H00.out
              have HVs : Hid (∀ L, L = (allM (xs.take (i + 1))).length → ¬ 64 < L → Vr wr W1.heap.size (allM (xs.take (i + 1))) ∧ ¬ 64 < (allM (xs.take (i + 1))).length) := fun L h1 h2 => ⟨HVn.out, by omega⟩
              have HL : Hid (∀ L, L = (allM (xs.take (i + 1))).length → 64 < L → (ofM xs).1 = 6 ∧ (ofM xs).2 = []) := fun L h1 h2 => HE6i.out (by omega)
              have HLn : Hid ((allM (xs.take (i + 1))).length = (allM (xs.take (i + 1))).length) := rfl
              have HB2 := HB
              clear HV HVn HE6i HR1 HR2 HZ6 HZ4 HQ HQ0 HPk HSi HE6 HE1 HB HVq HBq
              obtain ⟨L, hL⟩ : ∃ L, L = (allM (xs.take (i + 1))).length := ⟨_, rfl⟩
              have HLL : Hid (L = (allM (xs.take (i + 1))).length) := hL
              rw [← hL] at t0 t1
              clear hL HLn
              by_cases h64 : 64 < L
              · have HR := HL.out L HLL.out h64
                have HR' : Hid ((ofM xs).1 = 6 ∧ (ofM xs).2 = []) := HR
                clear HR HL HVs
                go_wp2
                refine bodyPost_ret (v := .tuple #[.agg #[.slice none 0 0, .slice none 0 0], .int .i64 6]) (by simp [results, Try.results15, go_sem, u0, u1]) rfl ?_
                exact HP.out _ 6 _ HR'.out.1.symm (by rw [HR'.out.2]; exact OwV.nil _ _) ((HWr.out.setCell (p := ⟨w.heap.size, 0, none⟩) (Nat.le_refl _) _).setCell (p := ⟨w.heap.size, 1, none⟩) (Nat.le_refl _) _)
              · have HR : Hid _ := HVs.out L HLL.out h64
                clear HL HVs
                go_wp2
                go_roundw
                case rel => exact ⟨i + 1, by omega, by go_num, HR, HB2⟩
                case measure => simp [intOf]; omega
        · have e : i = N0 := by omega
          have e' : N0 = i := e.symm
          clear e
          subst e'
          have HR := HE1.out H00.out HV.out.2
          obtain ⟨a5, c5, b5, d5, ht, o9, o2⟩ := HV.out.1.at
          have HWr : Hid (Below w.heap.size w wr) := HW1.out.trans (HB.out.mono (by omega))
          have HTr : Hid (Two wr w.heap.size (.slice none 0 0) (.slice none 0 0)) := HT1.out.below HB.out
          have HF : Hid (OfPost w xs (.returned (.tuple #[.agg #[.slice a5 (allM (xs.take N0)).length c5, .slice b5 (allM (xs.take N0)).length d5], .int .i64 0])) ((wr.setCell ⟨w.heap.size, 0, none⟩ (.slice a5 (allM (xs.take N0)).length c5)).setCell ⟨w.heap.size, 1, none⟩ (.slice b5 (allM (xs.take N0)).length d5))) := by
            refine HP.out _ 0 _ HR.1.symm ?_ ((HWr.out.setCell (p := ⟨w.heap.size, 0, none⟩) (Nat.le_refl _) _).setCell (p := ⟨w.heap.size, 1, none⟩) (Nat.le_refl _) _)
            rw [HR.2]
            exact ⟨_, _, rfl, (Ow.le (ownsRow_setCell_below (a := ⟨w.heap.size, 1, none⟩) (ownsRow_setCell_below (a := ⟨w.heap.size, 0, none⟩) o9 (by show w.heap.size < _; omega) _) (by show w.heap.size < _; omega) _) (by omega)), (Ow.le (ownsRow_setCell_below (a := ⟨w.heap.size, 1, none⟩) (ownsRow_setCell_below (a := ⟨w.heap.size, 0, none⟩) o2 (by show w.heap.size < _; omega) _) (by show w.heap.size < _; omega) _) (by omega))⟩
          obtain ⟨t4, t0, t1, t2, t3⟩ := ht
          obtain ⟨u4, u0, u1, u2, u3⟩ := HTr.out
          clear HR o9 o2 HV HP HE0 HE6 HE1 HX HST HSr HPl
          generalize (allM (xs.take N0)).length = L at *
          go_wp2
          refine bodyPost_ret (v := .tuple #[.agg #[.slice a5 L c5, .slice b5 L d5], .int .i64 0]) (by simp [results, Try.results15, go_sem, u0, u1]) rfl ?_
          exact HF.out
end Go.Proofs.Ytekhfepfaegpaaa
