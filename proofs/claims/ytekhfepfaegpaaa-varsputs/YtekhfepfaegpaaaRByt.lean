/-
  The document's Bytes: variables as bytes: the contract.
-/
import Derived.Test.YtekhfepfaegpaaaChkW
import Derived.Test.YtekhfepfaegpaaaRefs2
namespace Go.Proofs.Ytekhfepfaegpaaa
open Go.RowKit Pack
set_option linter.unusedVariables false

set_option maxRecDepth 100000 in
set_option maxHeartbeats 2000000 in
theorem rBytes_any (l : VL) (v : Value) (w : World) (hv : RdV w v (nmsOf l) (valsOf l)) (hl : l.length ≤ 1000) (hs : ∀ p ∈ l, p.1.size ≤ 1000000 ∧ -9223372036854775808 ≤ p.2 ∧ p.2 ≤ 9223372036854775807) : Calls Try.prog 27 #[v] w fun e w' => ∃ v', e = .returned v' ∧ ReadsV w' v' (packV l) ∧ Below w.heap.size w w' := by
  obtain ⟨sn, sv, rfl, h1, h2⟩ := hv
  obtain ⟨a, c, rfl⟩ := h1.form
  obtain ⟨b, d, rfl⟩ := h2.form
  obtain ⟨_, hnc, hcm, _, hc1⟩ := h1.at
  obtain ⟨_, hnd, hdm, _, hc2⟩ := h2.at
  simp only [strsV_len, intsV_len, nmsOf_len, valsOf_len] at *
  have HN : Hid (∀ k, k < l.length → ∃ g off g2 off2 x y, a = some ⟨g, off, none⟩ ∧ g < w.heap.size ∧ w.cell? ⟨g, off + k, none⟩ = some (.string x) ∧ b = some ⟨g2, off2, none⟩ ∧ g2 < w.heap.size ∧ w.cell? ⟨g2, off2 + k, none⟩ = some (.int .i64 y) ∧ x.size ≤ 1000000 ∧ -9223372036854775808 ≤ y ∧ y ≤ 9223372036854775807 ∧ packE (l.take (k + 1)) = packE (l.take k) ++ ((urow x.size ++ bsOf x) ++ urow (zz y)) ∧ (packE (l.take k)).length ≤ 1100000000) := fun k hk => by
    obtain ⟨g, off, q1, q2, q3⟩ := hc1 k _ (strsV_at (ns := nmsOf l) (by rw [nmsOf_len]; exact hk))
    obtain ⟨g2, off2, q4, q5, q6⟩ := hc2 k _ (intsV_at (vs := valsOf l) (by rw [valsOf_len]; exact hk))
    rw [nms_at hk] at q3
    rw [vals_at hk] at q6
    have hb := hs l[k] (List.getElem_mem hk)
    refine ⟨g, off, g2, off2, _, _, q1, q2, q3, q4, q5, q6, hb.1, hb.2.1, hb.2.2, packE_step hk, ?_⟩
    have := packE_len (l := l.take k) fun p hp => hs p (mem_take hp)
    rw [List.length_take] at this
    omega
  have HE : Hid (packV l = urow l.length ++ packE (l.take l.length)) := by show _ = _; rw [List.take_length]; rfl
  obtain ⟨W0, hW0⟩ : ∃ W, W = w.alloc (.cells #[.slice a l.length c, .slice b l.length d] 25) := ⟨_, rfl⟩
  have HW0 : Hid (Below w.heap.size w W0 ∧ Two W0 w.heap.size (.slice a l.length c) (.slice b l.length d)) := by
    refine ⟨by rw [hW0]; exact (Below.refl _ _).alloc (Nat.le_refl _) _, by rw [hW0]; exact Two.new w _ _ 25⟩
  have HT : Hid (∀ w', Below W0.heap.size W0 w' → Two w' w.heap.size (.slice a l.length c) (.slice b l.length d) ∧ Below w.heap.size w w') := fun w' hb => ⟨HW0.out.2.below hb, HW0.out.1.trans (hb.mono HW0.out.1.size)⟩
  have HU : Hid (Calls Try.prog 48 #[.int .u64 l.length] W0 fun e w2 => ∃ v', e = .returned v' ∧ Owns w2 W0.heap.size v' (urow l.length ++ packE (l.take 0)) ∧ Below W0.heap.size W0 w2) := by
    have h := ruint_any l.length W0 (by omega)
    show Calls _ _ _ _ _
    simpa [packE] using h
  have HUl : Hid ((urow l.length).length ≤ 10) := urow_len (by omega)
  clear h1 h2 hc1 hc2 hs
  generalize hN : l.length = N at *
  go_enter Try.func27, Try.ntmps27
  go_wp2_with (go_at_call 48; rw [← hW0]; refine HU.out.mono ?_; rintro e w2 ⟨v', rfl, ho, HB⟩; have HO2 : Hid (Owns w2 W0.heap.size v' (urow N ++ packE (l.take 0)) ∧ Below W0.heap.size W0 w2) := ⟨ho, HB⟩; obtain ⟨⟨p4, p0, p1, p2, p3⟩, _⟩ := HT.out _ HB; clear ho HB)
  go_loopw [3, 4] (fun s3 s4 wr => ∃ i : Nat, i ≤ N ∧ s4 = .int .i64 i ∧ Hid (Owns wr W0.heap.size s3 (urow N ++ packE (l.take i)) ∧ Below W0.heap.size W0 wr)) (fun _ s4 _ => N - (intOf s4).toNat)
  case atStart => exact ⟨0, Nat.zero_le _, rfl, HO2⟩
  case round =>
    obtain ⟨i, hi, rfl, HR⟩ := hrel
    obtain ⟨⟨p4, p0, p1, p2, p3⟩, hBw⟩ := HT.out _ HR.out.2
    by_cases hlt : i < N
    · obtain ⟨g, off, g2, off2, x, y, rfl, hg, hc, rfl, hg2, hc2, hx, hy1, hy2, hpk, hpl⟩ := HN.out i hlt
      obtain ⟨C, F, hcv, hF⟩ := conv_bytes x hx
      have HF : Hid (∀ w, ReadsV (F w) (.slice (some ⟨w.heap.size, 0, none⟩) x.size (C w)) (bsOf x) ∧ Below w.heap.size w (F w)) := hF
      have HBy : Hid (∀ w3, Below W0.heap.size W0 w3 → Calls Try.prog 49 #[.slice (some ⟨w3.heap.size, 0, none⟩) x.size (C w3)] (F w3) fun e w4 => ∃ v4, e = .returned v4 ∧ ReadsV w4 v4 (urow x.size ++ bsOf x) ∧ Below w3.heap.size w3 w4) := fun w3 hb => by
        have hf := HF.out w3
        have h := rbytes_any _ (bsOf x) (F w3) hf.1 (by rw [bsOf_len]; omega)
        rw [bsOf_len] at h
        refine h.mono ?_
        rintro e w4 ⟨v4, rfl, h1, h2⟩
        exact ⟨v4, rfl, ReadsV.of_own h1, hf.2.trans (h2.mono hf.2.size)⟩
      have HIn : Hid (∀ w4, Calls Try.prog 50 #[.int .i64 y] w4 fun e w5 => ∃ v5, e = .returned v5 ∧ ReadsV w5 v5 (urow (zz y)) ∧ Below w4.heap.size w4 w5) := fun w4 => by
        refine (rint_any y w4 hy1 hy2).mono ?_
        rintro e w5 ⟨v5, rfl, h1, h2⟩
        exact ⟨v5, rfl, ReadsV.of_own h1, h2⟩
      have HCl : Hid (∀ w4, Below W0.heap.size W0 w4 → w4.cell? ⟨g2, off2 + i, none⟩ = some (.int .i64 y) ∧ Two w4 w.heap.size (.slice (some ⟨g, off, none⟩) N c) (.slice (some ⟨g2, off2, none⟩) N d)) := fun w4 hb => ⟨((HT.out _ hb).2.cell (p := ⟨g2, off2 + i, none⟩) hg2).trans hc2, (HT.out _ hb).1⟩
      have HLa : Hid ((urow N ++ packE (l.take i)).length + (urow x.size ++ bsOf x).length ≤ 140737488355328) := by
        show _ ≤ _
        simp only [List.length_append, bsOf_len]
        have := HUl.out; have := urow_len (n := x.size) (by omega); omega
      have HLb : Hid (((urow N ++ packE (l.take i)) ++ (urow x.size ++ bsOf x)).length + (urow (zz y)).length ≤ 140737488355328) := by
        show _ ≤ _
        simp only [List.length_append, bsOf_len]
        have := HUl.out; have := urow_len (n := x.size) (by omega); have := urow_len (zz_lt hy1 hy2); omega
      have HPk : Hid (∀ w5 v5, Owns w5 W0.heap.size v5 (((urow N ++ packE (l.take i)) ++ (urow x.size ++ bsOf x)) ++ urow (zz y)) → Owns w5 W0.heap.size v5 (urow N ++ packE (l.take (i + 1)))) := fun w5 v5 h => by rw [hpk]; simpa [List.append_assoc] using h
      have f1 := (hBw.cell (p := ⟨g, off + i, none⟩) hg).trans hc
      clear hc hc2 HN HF hF hpk hpl hBw
      go_wp2_with (first
        | (at_builtin; have := Y5; refine wpList_append_bytes rfl (.tmp 26) (.tmp 32) 42 rfl W0.heap.size Try.underlying42 Try.info5 _ _ rfl Y5.out.1 _ (urow (zz y)) rfl Y5.out.2.1 HLb.out Y5.out.2.2.size ?_; intro v6 w6 q1 q2; have Y6 : Hid (Owns w6 W0.heap.size v6 (urow N ++ packE (l.take (i + 1))) ∧ Below W0.heap.size W0 w6) := ⟨HPk.out _ _ q1, Y5.out.2.2.trans q2⟩; clear q1 q2 Y5)
        | (go_at_call 50; have := Y4; refine (HIn.out _).mono ?_; rintro e w5 ⟨v5, rfl, q1, q2⟩; have Y5 : Hid (Owns w5 W0.heap.size v4 ((urow N ++ packE (l.take i)) ++ (urow x.size ++ bsOf x)) ∧ ReadsV w5 v5 (urow (zz y)) ∧ Below W0.heap.size W0 w5) := ⟨Y4.out.1.below q2, q1, Y4.out.2.trans (q2.mono Y4.out.2.size)⟩; clear q1 q2 Y4)
        | (at_builtin; have := Y3; refine wpList_append_bytes rfl (.tmp 17) (.tmp 24) 42 rfl W0.heap.size Try.underlying42 Try.info5 _ _ rfl Y3.out.1 _ (urow x.size ++ bsOf x) rfl Y3.out.2.1 HLa.out Y3.out.2.2.size ?_; intro v4 w4 q1 q2; have Y4 : Hid (Owns w4 W0.heap.size v4 ((urow N ++ packE (l.take i)) ++ (urow x.size ++ bsOf x)) ∧ Below W0.heap.size W0 w4) := ⟨q1, Y3.out.2.2.trans q2⟩; obtain ⟨y0, ⟨p4, p0, p1, p2, p3⟩⟩ := HCl.out _ Y4.out.2; clear q1 q2 Y3)
        | (go_at_call 49; refine (HBy.out _ HR.out.2).mono ?_; rintro e w3 ⟨v3, rfl, q1, q2⟩; have Y3 : Hid (Owns w3 W0.heap.size u3 (urow N ++ packE (l.take i)) ∧ ReadsV w3 v3 (urow x.size ++ bsOf x) ∧ Below W0.heap.size W0 w3) := ⟨HR.out.1.below q2, q1, HR.out.2.trans (q2.mono HR.out.2.size)⟩; clear q1 q2))
      go_roundw
      case rel => exact ⟨i + 1, by omega, by go_num, Y6⟩
      case measure => simp [intOf]; omega
    · have e : i = N := by omega
      have e' : N = i := e.symm
      clear e
      subst e'
      have HR2 : Hid (ReadsV wr u3 (packV l) ∧ Below w.heap.size w wr) := ⟨by rw [HE.out]; exact ReadsV.of_own HR.out.1, hBw⟩
      clear HR HN HE hBw
      go_wp2
      go_ret
      exact ⟨_, rfl, HR2.out⟩
end Go.Proofs.Ytekhfepfaegpaaa
