/-
  Proved: a crash behind a crash loses nothing more (4.6).
  The frame below the walk follows the guide's program (proof-skeleton), by hand for slices of acts; the walk is by hand.
-/
import Derived.Test.YtcmnjiichkcmgaaRows
import Derived.Test.YtcmnjiichkcmgaaTwice
import Derived.WalkKit
import Derived.ProofKit
import Derived.OpenShut
import Derived.ShutString
import Derived.ChangeOld
import Derived.Below
import Derived.SizedLaws
namespace Go.Proofs.Ytcmnjiichkcmgaa.diskTwice
open Go.ChangeShapes Go.WideShapes Go.ChangeAt Go.RowKit Go.Maps Go.Sort
open Go.ChangeMaps (open_string shut_string)
set_option linter.unusedVariables false

theorem own : ownKnob Try.prog.godebug = none := by kernel_rfl
theorem laidOut : laidOutB Try.prog = true := by kernel_rfl



set_option maxRecDepth 100000 in
set_option maxHeartbeats 1000000 in
theorem walk (a0 : Option Addr) (len0 cap0 : Nat) (z0 : List Do) (a1 : Option Addr) (len1 cap1 : Nat) (z1 : List Int) (a2 : Option Addr) (len2 cap2 : Nat) (z2 : List Int) (w : World) (w0 : DosV w a0 len0 z0) (w1 : IsRow .i64 w a1 len1 cap1 z1) (w2 : IsRow .i64 w a2 len2 cap2 z2) :
    Calls Try.prog 5 #[.slice a0 len0 cap0, .slice a1 len1 cap1, .slice a2 len2 cap2] w fun e w' => e = .returned (.bool true) ∧ Below w.heap.size w w' := by
  have HW : Hid (∀ w', Below w.heap.size w w' → Calls Try.prog 9 #[] w' fun e w2 => e = .returned (.bool true) ∧ Below w.heap.size w w2) := fun w' hB => (works_any w').mono fun e w2 ⟨he, h⟩ => ⟨he, hB.trans (h.mono hB.size)⟩
  obtain ⟨ys, hys, hy⟩ := intsV_of w1
  obtain ⟨xs, hxs, hx⟩ := intsV_of w2
  have HL : Hid (DosV w a0 len0 z0 ∧ IntsV w (.slice a1 len1 cap1) ys ∧ IntsV w (.slice a2 len2 cap2) xs) := ⟨w0, hy, hx⟩
  clear w0 w1 w2 hy hx hys hxs
  by_cases hli : light z0 = true
  case neg =>
    have hli' : light z0 = false := by simpa using hli
    clear hli
    go_enter Try.func5, Try.ntmps5
    go_wp2_with (first
      | (go_at_call 8; refine (light_any _ _ _ z0 _ HL.out.1).mono ?_; rintro e w1 ⟨rfl, hw⟩; have hw2 := hw.symm; clear hw; subst hw2)
      | (go_at_call 9; refine (HW.out _ (Below.refl _ _)).mono ?_; rintro e w2 ⟨rfl, hB⟩))
    go_ret
    exact ⟨rfl, hB⟩
  case pos =>
    by_cases t1 : 100 < len1
    · go_enter Try.func5, Try.ntmps5
      go_wp2_with (first
        | (go_at_call 8; refine (light_any _ _ _ z0 _ HL.out.1).mono ?_; rintro e w1 ⟨rfl, hw⟩; have hw2 := hw.symm; clear hw; subst hw2)
        | (go_at_call 9; refine (HW.out _ (Below.refl _ _)).mono ?_; rintro e w2 ⟨rfl, hB⟩))
      go_ret
      exact ⟨rfl, hB⟩
    by_cases t2 : 100 < len2
    · go_enter Try.func5, Try.ntmps5
      go_wp2_with (first
        | (go_at_call 8; refine (light_any _ _ _ z0 _ HL.out.1).mono ?_; rintro e w1 ⟨rfl, hw⟩; have hw2 := hw.symm; clear hw; subst hw2)
        | (go_at_call 9; refine (HW.out _ (Below.refl _ _)).mono ?_; rintro e w2 ⟨rfl, hB⟩))
      go_ret
      exact ⟨rfl, hB⟩
    have HG : Hid (Light z0) := light_of hli
    have hlen : len0 ≤ 60 := by have := HG.out.1; rw [HL.out.1.1] at this; exact this
    have HLen : Hid (z0.length = len0) := HL.out.1.1
    go_enter Try.func5, Try.ntmps5
    go_wp2_with (first
      | (go_at_call 8; refine (light_any _ _ _ z0 _ HL.out.1).mono ?_; rintro e w1 ⟨rfl, hw⟩; have hw2 := hw.symm; clear hw; subst hw2)
      | (go_at_call 10; have := H0; refine (Two.born H0.out).mono ?_; rintro e w2 ⟨qb, fq0, rfl, h1⟩; have H1 : Hid (Two w w2 pb qb fp0 fq0 0 none' none') := h1; clear h1 H0; have e2 := eqlP ⟨qb, 0, none⟩)
      | (go_at_call 10; refine (St.born (Below.refl _ _)).mono ?_; rintro e w2 ⟨pb, fp0, rfl, h0, -, -⟩; have H0 : Hid (St w w2 pb fp0 0 none') := h0; clear h0; have e1 := eqlP ⟨pb, 0, none⟩))
    go_loopw [9] (fun i wr => ∃ j : Nat, j ≤ len0 ∧ i = .int .i64 j ∧ Hid (∃ fp fq F, Two w wr pb qb fp fq (2 * j) F F ∧ Fits F (sumTo z0 j))) (fun i _ => len0 - (intOf i).toNat)
    case atStart => exact ⟨0, Nat.zero_le _, rfl, fp0, fq0, none', H1.out, fits_none⟩
    case round =>
      obtain ⟨j, hj, rfl, HJ⟩ := hrel
      obtain ⟨fp, fq, F, h1, h2⟩ := HJ.out
      have H2 : Hid (Two w wr pb qb fp fq (2 * j) F F ∧ Fits F (sumTo z0 j)) := ⟨h1, h2⟩
      clear h1 h2 HJ
      by_cases hlt : j < len0
      · have hin : j < z0.length := by rw [HLen.out]; exact hlt
        obtain ⟨hs1, hs2, hs3⟩ := sumTo_le HG.out hin
        rcases HL.out.1.2.2 with h0 | ⟨b, off, rfl, hat⟩
        · omega
        have hat := hat j hlt
        have hat2 := hat.below H2.out.1.l.2.1
        obtain ⟨c0, c1, c2, c3, wk, _, _, _, _⟩ := hat2
        have HO : Hid (DoAt w b (off + j * 4) (z0.getD j noDo) ∧ sumTo z0 j ≤ 3000 ∧ (z0.getD j noDo).b.length ≤ 3000 ∧ sumTo z0 (j + 1) = sumTo z0 j + (z0.getD j noDo).b.length) := ⟨hat, hs1, hs2, hs3⟩
        clear hat hs1 hs2 hs3 hin
        generalize z0.getD j noDo = o at *
        go_wp2_with (first
          | (go_at_call 11; have := H3; refine (Two.act H3.out.2.2.flip (by omega) H2.out.2 HO.out.2.1 HO.out.2.2.1 HO.out.1).mono ?_; rintro e w3 ⟨fq', G', y, rfl, ha, hf, ht⟩; have H4 : Hid (Acted F o G' y ∧ Two w w3 qb pb fq' fp' (2 * j + 1 + 1) G' F') := ⟨ha, ht⟩; clear ha hf ht)
          | (go_at_call 11; have := H2; refine (Two.act H2.out.1 (by omega) H2.out.2 HO.out.2.1 HO.out.2.2.1 HO.out.1).mono ?_; rintro e w2 ⟨fp', F', x, rfl, ha, hf, ht⟩; obtain ⟨d0, d1, d2, d3, _, _, _, _, _⟩ := HO.out.1.below ht.l.2.1; have H3 : Hid (Acted F o F' x ∧ Fits F' (sumTo z0 j + o.b.length) ∧ Two w w2 pb qb fp' fq (2 * j + 1) F' F) := ⟨ha, hf, ht⟩; clear ha hf ht))
        go_roundw
        case rel =>
          have e := (acted_one H3.out.1 H4.out.1).1
          have ht := H4.out.2.flip
          rw [← e] at ht
          exact ⟨j + 1, by omega, by go_num, fp', fq', F', ht, by rw [HO.out.2.2.2]; exact H3.out.2.1⟩
        case measure => simp [intOf]; omega
      · have hjn : j = len0 := by omega
        have hlt' : ¬ (j : Int) < (len0 : Int) := by omega
        have HF : Hid (Fits F 3000) := H2.out.2.mono (by rw [hjn, ← HLen.out]; exact sumTo_end HG.out)
        have HN : Hid (2 * j < 100000) := (show 2 * j < 100000 by omega)
        clear hjn hlt
        go_wp2_with (first
          | (go_at_call 17; have := H6; refine (names_any qb _ _ _ _ H6.out.1.r.1 (by have := HN.out; omega)).mono ?_; rintro e w7 ⟨v, ks2, rfl, h1, h2, h3, h4, h5⟩; obtain rfl := H6.out.2.1.unique h1; have h6 := strs_of_row h4; obtain ⟨nb, mb, rfl, -⟩ := h6; have H7 : Hid (Two w w7 pb qb fp1 fq2 (2 * j) (crashTo F ks ys ks.length) (crashTo F ks ys ks.length) ∧ StrsV w7 (.slice na ks1.length ma) ks1 ∧ StrsV w7 (.slice nb ks1.length mb) ks1 ∧ (∀ k ∈ ks1, k.length ≤ maxLen) ∧ ks1.length ≤ 2 * j) := ⟨H6.out.1.kept (below_turned h5), H6.out.2.2.1.below h5, strs_of_row h4, h3, h2⟩; clear h1 h2 h3 h4 h5 H6)
          | (go_at_call 17; have := H5; refine (names_any pb _ _ _ _ H5.out.2.l.1 (by have := HN.out; omega)).mono ?_; rintro e w6 ⟨v, ks1, rfl, h1, h2, h3, h4, h5⟩; have h6 := strs_of_row h4; obtain ⟨na, ma, rfl, -⟩ := h6; have H6 : Hid (Two w w6 pb qb fp1 fq2 (2 * j) (crashTo F ks ys ks.length) (crashTo F ks ys ks.length) ∧ NamesOf (crashTo F ks ys ks.length) ks1 ∧ StrsV w6 (.slice na ks1.length ma) ks1 ∧ ks1.length ≤ 2 * j) := ⟨H5.out.2.kept (below_turned h5), h1, strs_of_row h4, h2⟩; clear h1 h2 h3 h4 h5 H5)
          | (go_at_call 19; have := H4; refine (Two.crash (zs := xs) H4.out.2.flip HN.out (crashTo_fits HF.out ks ys ks.length) (by decide) HL.out.2.2).mono ?_; rintro e w5 ⟨rfl, fq2, ks', hk, h⟩; rw [crash_twice H4.out.1 hk] at h; have H5 : Hid (NamesOf F ks ∧ Two w w5 pb qb fp1 fq2 (2 * j) (crashTo F ks ys ks.length) (crashTo F ks ys ks.length)) := ⟨H4.out.1, h.flip⟩; clear h hk H4)
          | (go_at_call 19; have := H3; refine (Two.crash (zs := ys) H3.out.2.flip HN.out HF.out (by decide) HL.out.2.1).mono ?_; rintro e w4 ⟨rfl, fq1, ks', hk, h⟩; obtain rfl := H3.out.1.unique hk; have H4 : Hid (NamesOf F ks ∧ Two w w4 pb qb fp1 fq1 (2 * j) (crashTo F ks ys ks.length) (crashTo F ks ys ks.length)) := ⟨hk, h.flip⟩; clear h hk H3)
          | (go_at_call 19; have := H2; refine (Two.crash (zs := ys) H2.out.1 HN.out HF.out (by decide) HL.out.2.1).mono ?_; rintro e w3 ⟨rfl, fp1, ks, hk, h⟩; have H3 : Hid (NamesOf F ks ∧ Two w w3 pb qb fp1 fq (2 * j) (crashTo F ks ys ks.length) F) := ⟨hk, h⟩; clear h hk H2))
        have HFc : Hid (Fits (crashTo F ks ys ks.length) 3000) := crashTo_fits HF.out ks ys ks.length
        generalize crashTo F ks ys ks.length = Fc at H7 HFc
        have hn1 : ks1.length ≤ 2 * j := H7.out.2.2.2.2
        have HN1 : Hid (ks1.length = ks1.length) := rfl
        generalize hnn : ks1.length = n at H7 hn1 ⊢
        have HNN : Hid (ks1.length = n) := hnn
        clear hnn HN1
        go_loopw [12] (fun i wr => ∃ t : Nat, t ≤ n ∧ i = .int .i64 t ∧ Hid (Two w wr pb qb fp1 fq2 (2 * j) Fc Fc ∧ StrsV wr (.slice na n ma) ks1 ∧ StrsV wr (.slice nb n mb) ks1)) (fun i _ => n - (intOf i).toNat)
        case atStart => exact ⟨0, Nat.zero_le _, rfl, H7.out.1, H7.out.2.1, H7.out.2.2.1⟩
        case round =>
          obtain ⟨t, ht, rfl, HT⟩ := hrel
          by_cases hlt2 : t < n
          · obtain ⟨hk1, g, rfl, hc1⟩ := strs_at HT.out.2.1 hlt2
            obtain ⟨_, g2, rfl, hc2⟩ := strs_at HT.out.2.2 hlt2
            have hsz : (nameS (ks1.getD t [])).size ≤ maxLen := by rw [size_nameS]; exact H7.out.2.2.2.1 _ (getD_mem (by omega))
            clear hk1
            generalize nameS (ks1.getD t []) = s at *
            have HX : Hid (∀ w2, Turned (fun _ => False) wr w2 → w2.cell? ⟨g, t, none⟩ = some (.string s) ∧ w2.cell? ⟨g2, t, none⟩ = some (.string s)) := fun w2 hT => by
              exact ⟨(World.cell?_of_block (a := ⟨g, t, none⟩) (hT.block g (World.block_lt_of_cell? wr _ hc1) (fun h => h))).trans hc1, (World.cell?_of_block (a := ⟨g2, t, none⟩) (hT.block g2 (World.block_lt_of_cell? wr _ hc2) (fun h => h))).trans hc2⟩
            have HRp : Hid (∀ w2, Turned (fun _ => False) wr w2 → Calls Try.prog 15 #[.pointer (some ⟨pb, 0, none⟩), .string s] w2 fun e w' => ∃ v', e = .returned v' ∧ ReadsV w' v' (bytesOf Fc (key s)) ∧ Turned (fun _ => False) wr w' ∧ Turned (fun _ => False) w2 w') := fun w2 hT =>
              (read_any pb _ _ _ Fc s w2 (HT.out.1.l.1.kept hT (fun _ _ h => h)) hsz HFc.out (by decide)).mono fun e w' ⟨v', he, ho, hB⟩ => ⟨v', he, ReadsV.of_own ho, hT.trans (below_turned hB) (fun _ _ h => h), below_turned hB⟩
            have HRq : Hid (∀ w2, Turned (fun _ => False) wr w2 → Calls Try.prog 15 #[.pointer (some ⟨qb, 0, none⟩), .string s] w2 fun e w' => ∃ v', e = .returned v' ∧ ReadsV w' v' (bytesOf Fc (key s)) ∧ Turned (fun _ => False) wr w' ∧ Turned (fun _ => False) w2 w') := fun w2 hT =>
              (read_any qb _ _ _ Fc s w2 (HT.out.1.r.1.kept hT (fun _ _ h => h)) hsz HFc.out (by decide)).mono fun e w' ⟨v', he, ho, hB⟩ => ⟨v', he, ReadsV.of_own ho, hT.trans (below_turned hB) (fun _ _ h => h), below_turned hB⟩
            generalize bytesOf Fc (key s) = bb at HRp HRq
            clear hsz
            go_wp2
            go_region_held3 (fun w' => w'.cell? ⟨g, t, none⟩ = some (.string s) ∧ w'.cell? ⟨g2, t, none⟩ = some (.string s)) (go_keep) (first
              | (go_at_call 14; have := HQ2; refine (same_yes _ _ bb _ HQ2.out.1 HQ2.out.2.1).mono ?_; rintro e w4 ⟨rfl, hw⟩; have HQ3 : Hid (Turned (fun _ => False) wr w4) := (show Turned (fun _ => False) wr w4 by rw [hw]; exact HQ2.out.2.2); obtain ⟨f4, g4⟩ := HX.out _ HQ3.out; clear hw HQ2)
              | (go_at_call 15; have := HQ1; refine (HRq.out _ HQ1.out.2).mono ?_; rintro e w3 ⟨v2, rfl, hr, hT, hT2⟩; obtain ⟨f3, g3⟩ := HX.out _ hT; have HQ2 : Hid (ReadsV w3 v1 bb ∧ ReadsV w3 v2 bb ∧ Turned (fun _ => False) wr w3) := ⟨HQ1.out.1.below (hT2.below (Nat.le_refl _) (fun _ h => h.elim)), hr, hT⟩; clear hr hT hT2 HQ1)
              | (go_at_call 15; have := HRp; refine (HRp.out _ (drew_turned _ _)).mono ?_; rintro e w2 ⟨v1, rfl, hr, hT, hT2⟩; obtain ⟨f2, g2'⟩ := HX.out _ hT; have HQ1 : Hid (ReadsV w2 v1 bb ∧ Turned (fun _ => False) wr w2) := ⟨hr, hT⟩; clear hr hT hT2 HRp))
            all_goals
              go_wp2
              go_roundw
              case rel => exact ⟨t + 1, by omega, by go_num, HT.out.1.kept HQ3.out, HT.out.2.1.below (HQ3.out.below (Nat.le_refl _) (fun _ h => h.elim)), HT.out.2.2.below (HQ3.out.below (Nat.le_refl _) (fun _ h => h.elim))⟩
              case measure => simp [intOf]; omega
          · have hlt2' : ¬ (t : Int) < (n : Int) := by omega
            have HB : Hid (Below w.heap.size w wr) := HT.out.1.l.2.1
            clear hlt2
            go_wp2_with (go_at_call 9; refine (HW.out _ HB.out).mono ?_; rintro e wz ⟨rfl, hB⟩)
            go_ret
            exact ⟨rfl, hB⟩

set_option maxRecDepth 100000 in
theorem lifted (os : Os) (started : os.Started) (H : Type) (enc : TypeId × Value → H) :
    ReturnsInHanded {} Try.checked os 5 .any (Rows.diskTwiceSpec.pre6 enc Try.prog Try.f5 Rows.diskTwiceRow.domain false) (Rows.diskTwiceSpec.post enc Try.prog Try.f5 false true false false) := by
  refine returnsInHanded_of_change_sized (C := Try.checked) own started (by kernel_rfl) Try.func5
    (ChangeSpec.witness6 (enc := enc) (C := Try.checked) false ⟨#[], #[.slice none 0 0, .slice none 0 0, .slice none 0 0], []⟩ 8 (by kernel_rfl) (by kernel_rfl) (by kernel_rfl) (by kernel_rfl)) ?_
  intro W base args ds gs before hval0 hW hcnd hsz0 _
  have hval : ∀ (j : Nat) t v, Try.f5.params[j]? = some t → args[j]? = some v → Value.okWide Try.prog W .any base t v := hval0
  have hsz : (DataW.weightsEach Try.prog (Try.f5.params.toList ++ Rows.diskTwiceSpec.plain.varTypes Try.prog) (ds ++ gs)).all (· ≤ reachBytes) = true := hsz0
  have hW' := hW
  obtain ⟨p, q, hA0, hV, rfl, hfz, hnd⟩ := hW
  have hA : DataW.TrodAll enc Try.prog W 0 (fun _ => true) true Try.f5.params.toList args.toList ds p := hA0
  rw [Try.params5] at hA hval hsz
  obtain ⟨v0, vs0, d0, ds0, p0, q0, hargs, rfl, rfl, h0, r0⟩ := trodAll_cons hA
  obtain ⟨v1, vs1, d1, ds1, p1, q1, rfl, rfl, rfl, h1, r1⟩ := trodAll_cons r0
  obtain ⟨v2, vs2, d2, ds2, p2, q2, rfl, rfl, rfl, h2, r2⟩ := trodAll_cons r1
  obtain ⟨rfl, rfl, rfl⟩ := trodAll_nil r2
  obtain rfl : args = #[v0, v1, v2] := by cases args; simp_all
  obtain ⟨rfl, rfl⟩ := trodVars_none hV
  obtain ⟨a0, len0, cap0, rfl⟩ := okWide_slice Try.underlying22 (hval 0 22 v0 rfl rfl)
  have k0 := h0
  have lt0 : ∀ x ∈ p0, x.block < W.heap.size := by obtain ⟨m, hm⟩ := k0; exact DataW.trod_lt m _ _ _ hm
  obtain ⟨z0, w0⟩ : ∃ os, DosV W a0 len0 os := by
    obtain ⟨fuel, hf⟩ := h0
    exact dos_of_trod (by simpa [Value.cells] using hf) (List.all_eq_true.2 (fun n hn => List.all_eq_true.1 hsz n (DataW.weights_mem_each (j := 0) rfl rfl n hn)))
  obtain ⟨a1, len1, cap1, rfl⟩ := okWide_slice Try.underlying31 (hval 1 31 v1 rfl rfl)
  have k1 := h1
  have lt1 : ∀ x ∈ p1, x.block < W.heap.size := by obtain ⟨m, hm⟩ := k1; exact DataW.trod_lt m _ _ _ hm
  obtain ⟨z1, w1⟩ : ∃ zs, IsRow .i64 W a1 len1 cap1 zs := by
    obtain ⟨fuel, hf⟩ := h1
    rcases open_ints Try.underlying31 Try.underlying3 (by kernel_rfl) hf with ⟨hcs, _⟩ | ⟨x, l, c, zs, hcs, _, hl, hm, hz, _, hcell, hwz⟩
    · simp [Value.cells] at hcs
      obtain ⟨rfl, rfl, rfl⟩ := hcs
      exact ⟨[], .inl ⟨rfl, rfl, rfl, rfl⟩⟩
    · simp [Value.cells] at hcs
      obtain ⟨rfl, rfl, rfl⟩ := hcs
      exact ⟨zs, .inr ⟨_, rfl, hl, hm, by simpa using hz, hcell, hwz⟩⟩
  obtain ⟨a2, len2, cap2, rfl⟩ := okWide_slice Try.underlying31 (hval 2 31 v2 rfl rfl)
  have k2 := h2
  have lt2 : ∀ x ∈ p2, x.block < W.heap.size := by obtain ⟨m, hm⟩ := k2; exact DataW.trod_lt m _ _ _ hm
  obtain ⟨z2, w2⟩ : ∃ zs, IsRow .i64 W a2 len2 cap2 zs := by
    obtain ⟨fuel, hf⟩ := h2
    rcases open_ints Try.underlying31 Try.underlying3 (by kernel_rfl) hf with ⟨hcs, _⟩ | ⟨x, l, c, zs, hcs, _, hl, hm, hz, _, hcell, hwz⟩
    · simp [Value.cells] at hcs
      obtain ⟨rfl, rfl, rfl⟩ := hcs
      exact ⟨[], .inl ⟨rfl, rfl, rfl, rfl⟩⟩
    · simp [Value.cells] at hcs
      obtain ⟨rfl, rfl, rfl⟩ := hcs
      exact ⟨zs, .inr ⟨_, rfl, hl, hm, by simpa using hz, hcell, hwz⟩⟩
  clear hA0 hval0 hsz hsz0
  refine (walk a0 len0 cap0 z0 a1 len1 cap1 z1 a2 len2 cap2 z2 W w0 w1 w2).mono fun e W' ⟨he, bel⟩ => ?_
  subst he
  exact ⟨_, rfl, _, _, _, [], _, [], hW', trodAll_mk1 (shut_bool Try.underlying4 _), (trodAll_cons_mk (Below.trod laidOut (by kernel_rfl) (of_decide_eq_true (by kernel_rfl)) k0 bel lt0) (trodAll_cons_mk (Below.trod laidOut (by kernel_rfl) (of_decide_eq_true (by kernel_rfl)) k1 bel lt1) (trodAll_cons_mk (Below.trod laidOut (by kernel_rfl) (of_decide_eq_true (by kernel_rfl)) k2 bel lt2) trodAll_mk0))), rfl, bel.frame _, fun h => by cases h⟩

theorem over : Rows.diskTwiceRow.holds Try.pinned (OpenSpec.ofChange Rows.diskTwiceSpec) :=
  OpenClaim.holds_of_wide 5 Try.f5 rfl rfl rfl rfl rfl rfl rfl ⟨rfl, rfl, rfl, rfl, rfl⟩ rfl rfl rfl rfl rfl (by kernel_rfl) Try.func5 (by kernel_rfl)
    (of_decide_eq_true (by kernel_rfl)) (by unfold Func.isWrapper; first | (rw [if_pos (by decide +kernel)]; kernel_rfl) | (rw [if_neg (by decide +kernel)]; exact ⟨rfl, rfl⟩))
    (fun os started H enc _ => lifted os started H enc)

/-- ████ THE STATEMENT ████ -/
theorem proved : Rows.DiskTwiceSaid := over
#print axioms proved
end Go.Proofs.Ytcmnjiichkcmgaa.diskTwice
