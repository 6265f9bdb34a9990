/-
  Proved: what is synced stays: behind a crash each file begins with all of it that was synced, and is a beginning of what it was (4.6).
  The frame below the walk follows the guide's program (proof-skeleton), by hand for slices of acts; the walk is by hand.
-/
import Derived.Test.YtcmnjiichkcmgaaRows
import Derived.Test.YtcmnjiichkcmgaaKeeps2
import Derived.WalkKit
import Derived.ProofKit
import Derived.OpenShut
import Derived.ShutString
import Derived.ChangeOld
import Derived.Below
import Derived.SizedLaws
namespace Go.Proofs.Ytcmnjiichkcmgaa.diskKeeps
open Go.ChangeShapes Go.WideShapes Go.ChangeAt Go.RowKit Go.Maps Go.Sort
open Go.ChangeMaps (open_string shut_string)
set_option linter.unusedVariables false

theorem own : ownKnob Try.prog.godebug = none := by kernel_rfl
theorem laidOut : laidOutB Try.prog = true := by kernel_rfl


set_option maxRecDepth 100000 in
set_option maxHeartbeats 1000000 in
theorem walk (a0 : Option Addr) (len0 cap0 : Nat) (z0 : List Do) (a1 : Option Addr) (len1 cap1 : Nat) (z1 : List Int) (w : World) (w0 : DosV w a0 len0 z0) (w1 : IsRow .i64 w a1 len1 cap1 z1) :
    Calls Try.prog 4 #[.slice a0 len0 cap0, .slice a1 len1 cap1] w fun e w' => e = .returned (.bool true) ∧ Below w.heap.size w w' := by
  have HW : Hid (∀ w', Below w.heap.size w w' → Calls Try.prog 9 #[] w' fun e w2 => e = .returned (.bool true) ∧ Below w.heap.size w w2) := fun w' hB => (works_any w').mono fun e w2 ⟨he, h⟩ => ⟨he, hB.trans (h.mono hB.size)⟩
  obtain ⟨ys, hys, hy⟩ := intsV_of w1
  have HL : Hid (DosV w a0 len0 z0 ∧ IntsV w (.slice a1 len1 cap1) ys) := ⟨w0, hy⟩
  clear w0 w1 hy hys
  by_cases hli : light z0 = true
  case neg =>
    have hli' : light z0 = false := by simpa using hli
    clear hli
    go_enter Try.func4, Try.ntmps4
    go_wp2_with (first
      | (go_at_call 8; refine (light_any _ _ _ z0 _ HL.out.1).mono ?_; rintro e w1 ⟨rfl, hw⟩; have hw2 := hw.symm; clear hw; subst hw2)
      | (go_at_call 9; refine (HW.out _ (Below.refl _ _)).mono ?_; rintro e w2 ⟨rfl, hB⟩))
    go_ret
    exact ⟨rfl, hB⟩
  case pos =>
    by_cases t1 : 100 < len1
    · go_enter Try.func4, Try.ntmps4
      go_wp2_with (first
        | (go_at_call 8; refine (light_any _ _ _ z0 _ HL.out.1).mono ?_; rintro e w1 ⟨rfl, hw⟩; have hw2 := hw.symm; clear hw; subst hw2)
        | (go_at_call 9; refine (HW.out _ (Below.refl _ _)).mono ?_; rintro e w2 ⟨rfl, hB⟩))
      go_ret
      exact ⟨rfl, hB⟩
    have HG : Hid (Light z0) := light_of hli
    have hlen : len0 ≤ 60 := by have := HG.out.1; rw [HL.out.1.1] at this; exact this
    have HLen : Hid (z0.length = len0) := HL.out.1.1
    go_enter Try.func4, Try.ntmps4
    go_wp2_with (first
      | (go_at_call 8; refine (light_any _ _ _ z0 _ HL.out.1).mono ?_; rintro e w1 ⟨rfl, hw⟩; have hw2 := hw.symm; clear hw; subst hw2)
      | (go_at_call 10; refine (St.born (Below.refl _ _)).mono ?_; rintro e w2 ⟨pb, fp0, rfl, h0, -, -⟩; have H0 : Hid (St w w2 pb fp0 0 none') := h0; clear h0; have e1 := eqlP ⟨pb, 0, none⟩))
    go_loopw [6] (fun i wr => ∃ j : Nat, j ≤ len0 ∧ i = .int .i64 j ∧ Hid (∃ fp F, St w wr pb fp j F ∧ Fits F (sumTo z0 j))) (fun i _ => len0 - (intOf i).toNat)
    case atStart => exact ⟨0, Nat.zero_le _, rfl, fp0, none', H0.out, fits_none⟩
    case round =>
      obtain ⟨j, hj, rfl, HJ⟩ := hrel
      obtain ⟨fp, F, h1, h2⟩ := HJ.out
      have H2 : Hid (St w wr pb fp j F ∧ Fits F (sumTo z0 j)) := ⟨h1, h2⟩
      clear h1 h2 HJ
      by_cases hlt : j < len0
      · have hin : j < z0.length := by rw [HLen.out]; exact hlt
        obtain ⟨hs1, hs2, hs3⟩ := sumTo_le HG.out hin
        rcases HL.out.1.2.2 with h0 | ⟨b, off, rfl, hat⟩
        · omega
        have hat := hat j hlt
        have hat2 := hat.below H2.out.1.2.1
        obtain ⟨c0, c1, c2, c3, wk, _, _, _, _⟩ := hat2
        have HO : Hid (DoAt w b (off + j * 4) (z0.getD j noDo) ∧ sumTo z0 j ≤ 3000 ∧ (z0.getD j noDo).b.length ≤ 3000 ∧ sumTo z0 (j + 1) = sumTo z0 j + (z0.getD j noDo).b.length) := ⟨hat, hs1, hs2, hs3⟩
        clear hat hs1 hs2 hs3 hin
        generalize z0.getD j noDo = o at *
        go_wp2_with (go_at_call 11; refine (St.act H2.out.1 (by omega) H2.out.2 HO.out.2.1 HO.out.2.2.1 HO.out.1).mono ?_; rintro e w2 ⟨F', x, rfl, ha, hf, hd⟩; have H3 : Hid (St w w2 pb (grow fp wr w2) (j + 1) F' ∧ Fits F' (sumTo z0 j + o.b.length)) := ⟨H2.out.1.did hd, hf⟩; clear ha hf hd)
        go_roundw
        case rel => exact ⟨j + 1, by omega, by go_num, _, F', H3.out.1, by rw [HO.out.2.2.2]; exact H3.out.2⟩
        case measure => simp [intOf]; omega
      · have hjn : j = len0 := by omega
        have hlt' : ¬ (j : Int) < (len0 : Int) := by omega
        have HF : Hid (Fits F 3000) := H2.out.2.mono (by rw [hjn, ← HLen.out]; exact sumTo_end HG.out)
        have HN : Hid (j < 100000) := (show j < 100000 by omega)
        clear hjn hlt
        go_wp2_with (go_at_call 17; refine (names_any pb _ _ _ _ H2.out.1.1 (by have := HN.out; omega)).mono ?_; rintro e wN ⟨v, ks, rfl, h1, h2, h3, h4, h5⟩; have h6 := strs_of_row h4; obtain ⟨na, ma, rfl, -⟩ := h6; have H3 : Hid (St w wN pb fp j F ∧ NamesOf F ks ∧ (∀ k ∈ ks, k.length ≤ maxLen) ∧ wN.ownsRow wr.heap.size 9 1 (.slice na ks.length ma) ks.length (ks.map encStr) ∧ (∀ i, fp i → i < wr.heap.size)) := ⟨H2.out.1.kept (below_turned h5), h1, h3, h4, fun i hi => H2.out.1.1.lt hi⟩; have hkn : ks.length ≤ j := h2; clear h1 h2 h3 h4 h5 H2)
        generalize hnn : ks.length = n at hkn ⊢
        have HNN : Hid (ks.length = n) := hnn
        clear hnn
        go_loopw [8, 9, 10] (fun vw vf i wr => ∃ t : Nat, t ≤ n ∧ i = .int .i64 t ∧ Hid (∃ vals, vals.length = t ∧ Rows2 w wN wr pb fp j F ks vw vf vals t)) (fun _ _ i _ => n - (intOf i).toNat)
        case atStart => exact ⟨0, Nat.zero_le _, rfl, [], rfl, Rows2.start H3.out.1⟩
        case round =>
          obtain ⟨t, ht, rfl, HT⟩ := hrel
          obtain ⟨vals, hvl, h1⟩ := HT.out
          have HR : Hid (vals.length = t ∧ Rows2 w wN wr pb fp j F ks u8 u9 vals t) := ⟨hvl, h1⟩
          clear h1 HT hvl
          by_cases hlt2 : t < n
          · have hst := strs_of_row H3.out.2.2.2.1
            rw [HNN.out] at hst
            obtain ⟨hk1, g, rfl, hcN⟩ := strs_at hst hlt2
            have HX : Hid (∀ w2, Below wN.heap.size wN w2 → w2.cell? ⟨g, t, none⟩ = some (.string (nameS (ks.getD t [])))) := fun w2 hB => (hB.cell (p := ⟨g, t, none⟩) (World.block_lt_of_cell? wN _ hcN)).trans hcN
            have hsz : (nameS (ks.getD t [])).size ≤ maxLen := by rw [size_nameS]; exact H3.out.2.2.1 _ (getD_mem (by omega))
            clear hst hcN hk1
            have f1 := HX.out wr HR.out.2.bel
            have HRd : Hid (Calls Try.prog 15 #[.pointer (some ⟨pb, 0, none⟩), .string (nameS (ks.getD t []))] wr fun e w' => ∃ v', e = .returned v' ∧ Owns w' wr.heap.size v' (bytesOf F (ks.getD t [])) ∧ Below wr.heap.size wr w') := by
              have := read_any pb _ _ _ F (nameS (ks.getD t [])) wr HR.out.2.st.1 hsz HF.out (by decide)
              rwa [key_nameS] at this
            have hsy := HF.out.sync (ks.getD t [])
            have HLo : Hid (∀ w2 vw vf vs c, Rows2 w wN w2 pb fp j F ks vw vf vs c → Calls Try.prog 18 #[.pointer (some ⟨pb, 0, none⟩), .string (nameS (ks.getD t []))] w2 fun e w' => e = .returned (.int .i64 ((bytesOf F (ks.getD t [])).length - syncOf F (ks.getD t []) : Nat)) ∧ Rows2 w wN w' pb fp j F ks vw vf vs c) := fun w2 vw vf vs c h => by
              have := loose_any pb _ _ _ F (nameS (ks.getD t [])) w2 h.st.1 hsz HF.out (by decide)
              rw [key_nameS] at this
              exact this.mono fun e w' ⟨he, hB⟩ => ⟨he, h.kept (below_turned hB)⟩
            have HWas : Hid (∀ w1 v1, Owns w1 wr.heap.size v1 (bytesOf F (ks.getD t [])) → Below wr.heap.size wr w1 → Rows2 w wN w1 pb fp j F ks u8 u9 vals t ∧ Owns w1 wN.heap.size v1 (bytesOf F (ks.getD vals.length [])) ∧ ∀ g, v1.ownBlock = some g → u8.ownBlock ≠ some g ∧ u9.ownBlock ≠ some g) := fun w1 v1 ho hB => by
              have hbase : wN.heap.size ≤ wr.heap.size := HR.out.2.bel.size
              refine ⟨HR.out.2.kept (below_turned hB), ?_, fun g hg => ?_⟩
              · rw [HR.out.1]; exact owns_rebase ho (fun g hg => Nat.le_trans hbase (World.ownsRow.lt ho g hg).1)
              · have h1 := (World.ownsRow.lt ho g hg).1
                exact ⟨fun e => by have := (World.ownsRow.lt HR.out.2.ow g e).2; omega, fun e => by have := (World.ownsRow.lt HR.out.2.fi g e).2; omega⟩
            obtain ⟨i30, hi30, z30, s30, b30⟩ := info_parts info30
            obtain ⟨i3, hi3, z3, s3, b3⟩ := info_parts info3
            have HI : Hid (Try.prog.info? 30 = some i30 ∧ i30.zero = some (.slice none 0 0) ∧ i30.size = 1 ∧ i30.bytes = 24 ∧ Try.prog.info? 3 = some i3 ∧ i3.zero = some (.int .i64 0) ∧ i3.size = 1 ∧ i3.bytes = 8) := ⟨hi30, z30, s30, b30, hi3, z3, s3, b3⟩
            clear hi30 z30 s30 b30 hi3 z3 s3 b3
            obtain ⟨hsy1, hsy2⟩ := hsy
            have HSy : Hid (syncOf F (ks.getD t []) = syncOf F (ks.getD t [])) := rfl
            have hsub : ((bytesOf F (ks.getD t [])).length : Int) - (((bytesOf F (ks.getD t [])).length - syncOf F (ks.getD t []) : Nat) : Int) = (syncOf F (ks.getD t []) : Int) := by omega
            have HFi : Hid (∀ w2 w3 vw vf' vs, Rows2 w wN w2 pb fp j F ks vw u9 vs t → w3.ownsRow wN.heap.size 3 1 vf' (t + 1) (((List.range t).map fun i => .int .i64 (syncOf F (ks.getD i []))) ++ [.int .i64 (syncOf F (ks.getD t []))]) → w2.grownBy w3 u9.ownBlock → (vf'.ownBlock = u9.ownBlock ∨ vf'.ownBlock = some w2.heap.size) → Rows2 w wN w3 pb fp j F ks vw vf' vs (t + 1)) := fun w2 w3 vw vf' vs h ho hg hl => h.firm ho hg hl
            generalize hsyq : syncOf F (ks.getD t []) = sy at HLo hsub HFi hsy1
            generalize hbb : bytesOf F (ks.getD t []) = bb at HRd HLo HWas hsub hsy1 hsy2
            generalize nameS (ks.getD t []) = s at HX f1 HRd HLo
            clear HSy hsz hsyq hbb
            have ht60 : t ≤ 60 := by omega
            go_wp2_with (first
              | (at_builtin; have := H6; refine wpList_append_own_at _ rfl (.tmp 56) (.tmp 66) 31 rfl wN.heap.size 3 i3 (.int .i64 0) 1 8 Try.underlying31 HI.out.2.2.2.2.1 HI.out.2.2.2.2.2.1 HI.out.2.2.2.2.2.2.1 HI.out.2.2.2.2.2.2.2 rfl (by decide) _ t _ rfl (World.ownsRow.alloc H6.out.fi _) ⟨w4.heap.size, 0, none⟩ 1 1 [.int .i64 (sy : Int)] rfl rfl (cell_one_new _ _ _) (by simp [Value.oneCell']) (by unfold maxLen; omega) (by omega) (base_le H6.out.bel.size _) ?_; intro vf2 w5 hown hg hnil hloc; have H7 : Hid (Rows2 w wN w5 pb fp j F ks vw2 vf2 (vals ++ [.slice a1' bb.length c1']) (t + 1)) := HFi.out _ _ _ _ _ (H6.out.kept (Turned.alloc _ _ _)) hown hg hloc; clear hown hg hnil hloc)
              | (go_at_call 18; have := H5; refine (HLo.out _ _ _ _ _ H5.out).mono ?_; rintro e w4 ⟨rfl, h6⟩; have H6 : Hid (Rows2 w wN w4 pb fp j F ks vw2 u9 (vals ++ [.slice a1' bb.length c1']) t) := h6; clear h6)
              | (at_builtin; have := H4; refine wpList_append_own_at _ rfl (.tmp 52) (.tmp 54) 43 rfl wN.heap.size 30 i30 (.slice none 0 0) 1 24 Try.underlying43 HI.out.1 HI.out.2.1 HI.out.2.2.1 HI.out.2.2.2.1 rfl (by decide) _ vals.length vals rfl (World.ownsRow.alloc H4.out.1.ow _) ⟨w3.heap.size, 0, none⟩ 1 1 [.slice a1' bb.length c1'] rfl rfl (cell_one_new _ _ _) (by simp [Value.oneCell']) (by have := HR.out.1; unfold maxLen; omega) (by have := HR.out.1; omega) (base_le H4.out.1.bel.size _) ?_; intro vw2 w6 hown hg hnil hloc; have H5 : Hid (Rows2 w wN w6 pb fp j F ks vw2 u9 (vals ++ [.slice a1' bb.length c1']) t) := (H4.out.1.kept (Turned.alloc _ _ _)).was (H4.out.2.1.alloc _) H4.out.2.2 hown hg hloc; have f6 := HX.out _ H5.out.bel; clear hown hg hnil hloc H4)
              | (go_at_call 15; have := HRd; refine HRd.out.mono ?_; rintro e w3 ⟨v', rfl, ho, hB⟩; have h4 := HWas.out _ _ ho hB; obtain ⟨a1', c1', rfl, -⟩ := ReadsV.of_own ho; have H4 : Hid (Rows2 w wN w3 pb fp j F ks u8 u9 vals t ∧ Owns w3 wN.heap.size (.slice a1' bb.length c1') (bytesOf F (ks.getD vals.length [])) ∧ ∀ g, (Value.slice a1' bb.length c1').ownBlock = some g → u8.ownBlock ≠ some g ∧ u9.ownBlock ≠ some g) := h4; clear h4 ho hB HRd))
            go_roundw
            case rel => exact ⟨t + 1, by omega, by go_num, vals ++ [.slice a1' bb.length c1'], by have := HR.out.1; simp; omega, H7.out⟩
            case measure => simp [intOf]; omega
          · have htn : t = n := by omega
            have hlt2' : ¬ (t : Int) < (n : Int) := by omega
            have hrw := HR.out.2
            have hvl := HR.out.1
            rw [htn, ← HNN.out] at hrw hvl
            have HCr : Hid (Calls Try.prog 19 #[.pointer (some ⟨pb, 0, none⟩), .slice a1 len1 cap1] wr fun e w' => e = .returned (.tuple #[]) ∧ ∃ fp2, St w w' pb fp2 j (crashTo F ks ys ks.length) ∧ Rows3 w' w' F ks u8 u9 (.slice na ks.length ma) vals) :=
              (crash_any pb j 3000 fp F _ ys wr hrw.st.1 (by have := HN.out; omega) HF.out (by decide) (fun w3 hT => HL.out.2.below (hrw.st.2.1.trans (hT.below hrw.st.2.1.size hrw.st.2.2)))).mono fun e w' ⟨he, ks', hk, hd⟩ => by
                obtain rfl := H3.out.2.1.unique hk
                exact ⟨he, _, hrw.st.did hd, Rows3.of hrw hvl H3.out.2.2.2.1 H3.out.2.2.2.2 hd.1⟩
            have hform := HR.out.2.ow
            obtain ⟨aw, cw, hu8, -⟩ := row_cells hrw.ow
            obtain ⟨af, cf, hu9, -⟩ := row_cells hrw.fi
            rw [hvl, HNN.out] at hu8
            rw [HNN.out] at hu9
            subst hu8 hu9
            rw [HNN.out] at HCr
            clear hrw hform htn hlt2 HR hvl
            have HKp : Hid (∀ u, u < n → bytesOf (crashTo F ks ys n) (ks.getD u []) = (bytesOf F (ks.getD u [])).take (bytesOf (crashTo F ks ys n) (ks.getD u [])).length ∧ syncOf F (ks.getD u []) ≤ (bytesOf (crashTo F ks ys n) (ks.getD u [])).length ∧ (bytesOf (crashTo F ks ys n) (ks.getD u [])).length ≤ (bytesOf F (ks.getD u [])).length ∧ syncOf (crashTo F ks ys n) (ks.getD u []) = (bytesOf (crashTo F ks ys n) (ks.getD u [])).length) := fun u hu => by
              have := keeps_at ys H3.out.2.1 HF.out (i := u) (by rw [HNN.out]; exact hu)
              rwa [HNN.out] at this
            have HEnd : Hid (∀ ks', NamesOf (crashTo F ks ys n) ks' → ks'.length ≤ n) := fun ks' h => by
              have := names_le H3.out.2.1 h (fun k hk => by have := crash_none ys H3.out.2.1 hk; rwa [HNN.out] at this)
              rwa [HNN.out] at this
            have HFc : Hid (Fits (crashTo F ks ys n) 3000) := crashTo_fits HF.out ks ys n
            generalize crashTo F ks ys n = Fc at HCr HKp HEnd HFc
            go_wp2_with (go_at_call 19; refine HCr.out.mono ?_; rintro e w2 ⟨rfl, fp2, h1, h2⟩; have H8 : Hid (St w w2 pb fp2 j Fc ∧ Rows3 w2 w2 F ks (.slice aw n cw) (.slice af n cf) (.slice na n ma) vals) := ⟨h1, h2⟩; clear h1 h2 HCr)
            go_loopw [12] (fun i wr => ∃ u : Nat, u ≤ n ∧ i = .int .i64 u ∧ Hid (St w wr pb fp2 j Fc ∧ Rows3 w2 wr F ks (.slice aw n cw) (.slice af n cf) (.slice na n ma) vals)) (fun i _ => n - (intOf i).toNat)
            case atStart => exact ⟨0, Nat.zero_le _, rfl, H8.out⟩
            case round =>
              obtain ⟨u, hu, rfl, HU⟩ := hrel
              by_cases hlt3 : u < n
              · obtain ⟨g1, g2, g3, rfl, rfl, rfl, va, vc, hc1, hc2, hc3, hrd, hnk⟩ := HU.out.2.at_u HNN.out hlt3
                have HX : Hid (∀ w3, Turned (fun _ => False) wr w3 → w3.cell? ⟨g1, u, none⟩ = some (.slice va (bytesOf F (ks.getD u [])).length vc) ∧ w3.cell? ⟨g2, u, none⟩ = some (.int .i64 (syncOf F (ks.getD u []))) ∧ w3.cell? ⟨g3, u, none⟩ = some (.string (nameS (ks.getD u []))) ∧ ReadsV w3 (.slice va (bytesOf F (ks.getD u [])).length vc) (bytesOf F (ks.getD u []))) := fun w3 hT => by
                  have hB : Below wr.heap.size wr w3 := hT.below (Nat.le_refl _) (fun _ h => h.elim)
                  exact ⟨(hB.cell (World.block_lt_of_cell? wr _ hc1)).trans hc1, (hB.cell (World.block_lt_of_cell? wr _ hc2)).trans hc2, (hB.cell (World.block_lt_of_cell? wr _ hc3)).trans hc3, hrd.below hB⟩
                have hsz : (nameS (ks.getD u [])).size ≤ maxLen := by rw [size_nameS]; exact H3.out.2.2.1 _ (getD_mem (by rw [HNN.out]; exact hlt3))
                obtain ⟨q1, q2, q3, q4⟩ := HKp.out u hlt3
                have HRd : Hid (Calls Try.prog 15 #[.pointer (some ⟨pb, 0, none⟩), .string (nameS (ks.getD u []))] wr fun e w' => ∃ a c, e = .returned (.slice a (bytesOf Fc (ks.getD u [])).length c) ∧ ReadsV w' (.slice a (bytesOf Fc (ks.getD u [])).length c) (bytesOf Fc (ks.getD u [])) ∧ Turned (fun _ => False) wr w') := by
                  have := read_any pb _ _ _ Fc (nameS (ks.getD u [])) wr HU.out.1.1 hsz HFc.out (by decide)
                  rw [key_nameS] at this
                  exact this.mono fun e w' ⟨v', he, ho, hB⟩ => by
                    have hr := ReadsV.of_own ho
                    obtain ⟨a, c, hv, _⟩ := id hr
                    subst hv
                    exact ⟨a, c, he, hr, below_turned hB⟩
                have HLo : Hid (∀ w3, Turned (fun _ => False) wr w3 → Calls Try.prog 18 #[.pointer (some ⟨pb, 0, none⟩), .string (nameS (ks.getD u []))] w3 fun e w' => e = .returned (.int .i64 0) ∧ Turned (fun _ => False) wr w') := fun w3 hT => by
                  have := loose_any pb _ _ _ Fc (nameS (ks.getD u [])) w3 (HU.out.1.1.kept hT (fun _ _ h => h)) hsz HFc.out (by decide)
                  rw [key_nameS, q4, Nat.sub_self] at this
                  exact this.mono fun e w' ⟨he, hB⟩ => ⟨he, hT.trans (below_turned hB) (fun _ _ h => h)⟩
                have HCut : Hid (∀ w3 a c, ReadsV w3 (.slice a (bytesOf F (ks.getD u [])).length c) (bytesOf F (ks.getD u [])) → ReadsV w3 (.slice a (bytesOf Fc (ks.getD u [])).length c) (bytesOf Fc (ks.getD u []))) := fun w3 a c h => by
                  have := h.front (m := (bytesOf Fc (ks.getD u [])).length) q3
                  rwa [← q1] at this
                have hl3 := (HFc.out.sync (ks.getD u [])).2
                have hl4 := (HF.out.sync (ks.getD u [])).2
                have hvc : (bytesOf Fc (ks.getD u [])).length ≤ vc := by
                  obtain ⟨_, _, hv, _, h6, _⟩ := hrd
                  simp only [Value.slice.injEq] at hv
                  obtain ⟨-, -, rfl⟩ := hv
                  omega
                clear q1 q4 hsz hrd
                generalize bytesOf Fc (ks.getD u []) = LL at *
                generalize bytesOf F (ks.getD u []) = l at *
                generalize syncOf F (ks.getD u []) = sy at *
                generalize nameS (ks.getD u []) = s at *
                go_wp2_with (first
                  | (go_at_call 18; have := HQ2; refine (HLo.out _ HQ2.out).mono ?_; rintro e w5 ⟨rfl, hT⟩; have HQ3 : Hid (Turned (fun _ => False) wr w5) := hT; clear hT HQ2)
                  | (go_at_call 14; have := HQ1; refine (same_yes _ _ LL _ HQ1.out.1 HQ1.out.2.1).mono ?_; rintro e w4 ⟨rfl, hw⟩; have HQ2 : Hid (Turned (fun _ => False) wr w4) := (show Turned (fun _ => False) wr w4 by rw [hw]; exact HQ1.out.2.2); obtain ⟨t1, t2, t3, -⟩ := HX.out _ HQ2.out; clear hw HQ1)
                  | (go_at_call 15; refine HRd.out.mono ?_; rintro e w3 ⟨a5, c5, rfl, hr, hT⟩; obtain ⟨p1, p2, p3, p4⟩ := HX.out _ hT; have HQ1 : Hid (ReadsV w3 (.slice a5 LL.length c5) LL ∧ ReadsV w3 (.slice va LL.length vc) LL ∧ Turned (fun _ => False) wr w3) := ⟨hr, HCut.out _ _ _ p4, hT⟩; clear hr hT p4 HRd))
                go_roundw
                case rel => exact ⟨u + 1, by omega, by go_num, HU.out.1.kept HQ3.out, HU.out.2.kept HQ3.out⟩
                case measure => simp [intOf]; omega
              · have hlt3' : ¬ (u : Int) < (n : Int) := by omega
                clear hlt3
                have HNm : Hid (Calls Try.prog 17 #[.pointer (some ⟨pb, 0, none⟩)] wr fun e w' => ∃ a m c, e = .returned (.slice a m c) ∧ m ≤ n ∧ Below w.heap.size w w') :=
                  (St.names HU.out.1 HN.out).mono fun e w' ⟨a, k2, c, he, h1, _, _, _, h5, _⟩ => ⟨a, _, c, he, HEnd.out _ h1, h5.2.1⟩
                go_wp2_with (first
                  | (go_at_call 9; refine (HW.out _ HE2.out).mono ?_; rintro e wz ⟨rfl, hB⟩)
                  | (go_at_call 17; refine HNm.out.mono ?_; rintro e wy ⟨ya, ym, yc, rfl, hym, hB⟩; have HE2 : Hid (Below w.heap.size w wy) := hB; have hym' : (ym : Int) ≤ (n : Int) := (by omega); clear hB))
                go_ret
                exact ⟨rfl, hB⟩

set_option maxRecDepth 100000 in
theorem lifted (os : Os) (started : os.Started) (H : Type) (enc : TypeId × Value → H) :
    ReturnsInHanded {} Try.checked os 4 .any (Rows.diskKeepsSpec.pre6 enc Try.prog Try.f4 Rows.diskKeepsRow.domain false) (Rows.diskKeepsSpec.post enc Try.prog Try.f4 false true false false) := by
  refine returnsInHanded_of_change_sized (C := Try.checked) own started (by kernel_rfl) Try.func4
    (ChangeSpec.witness6 (enc := enc) (C := Try.checked) false ⟨#[], #[.slice none 0 0, .slice none 0 0], []⟩ 8 (by kernel_rfl) (by kernel_rfl) (by kernel_rfl) (by kernel_rfl)) ?_
  intro W base args ds gs before hval0 hW hcnd hsz0 _
  have hval : ∀ (j : Nat) t v, Try.f4.params[j]? = some t → args[j]? = some v → Value.okWide Try.prog W .any base t v := hval0
  have hsz : (DataW.weightsEach Try.prog (Try.f4.params.toList ++ Rows.diskKeepsSpec.plain.varTypes Try.prog) (ds ++ gs)).all (· ≤ reachBytes) = true := hsz0
  have hW' := hW
  obtain ⟨p, q, hA0, hV, rfl, hfz, hnd⟩ := hW
  have hA : DataW.TrodAll enc Try.prog W 0 (fun _ => true) true Try.f4.params.toList args.toList ds p := hA0
  rw [Try.params4] at hA hval hsz
  obtain ⟨v0, vs0, d0, ds0, p0, q0, hargs, rfl, rfl, h0, r0⟩ := trodAll_cons hA
  obtain ⟨v1, vs1, d1, ds1, p1, q1, rfl, rfl, rfl, h1, r1⟩ := trodAll_cons r0
  obtain ⟨rfl, rfl, rfl⟩ := trodAll_nil r1
  obtain rfl : args = #[v0, v1] := by cases args; simp_all
  obtain ⟨rfl, rfl⟩ := trodVars_none hV
  obtain ⟨a0, len0, cap0, rfl⟩ := okWide_slice Try.underlying22 (hval 0 22 v0 rfl rfl)
  have k0 := h0
  have lt0 : ∀ x ∈ p0, x.block < W.heap.size := by obtain ⟨m, hm⟩ := k0; exact DataW.trod_lt m _ _ _ hm
  obtain ⟨z0, w0⟩ : ∃ os, DosV W a0 len0 os := by
    obtain ⟨fuel, hf⟩ := h0
    exact dos_of_trod (by simpa [Value.cells] using hf) (List.all_eq_true.2 (fun n hn => List.all_eq_true.1 hsz n (DataW.weights_mem_each (j := 0) rfl rfl n hn)))
  obtain ⟨a1, len1, cap1, rfl⟩ := okWide_slice Try.underlying31 (hval 1 31 v1 rfl rfl)
  have k1 := h1
  have lt1 : ∀ x ∈ p1, x.block < W.heap.size := by obtain ⟨m, hm⟩ := k1; exact DataW.trod_lt m _ _ _ hm
  obtain ⟨z1, w1⟩ : ∃ zs, IsRow .i64 W a1 len1 cap1 zs := by
    obtain ⟨fuel, hf⟩ := h1
    rcases open_ints Try.underlying31 Try.underlying3 (by kernel_rfl) hf with ⟨hcs, _⟩ | ⟨x, l, c, zs, hcs, _, hl, hm, hz, _, hcell, hwz⟩
    · simp [Value.cells] at hcs
      obtain ⟨rfl, rfl, rfl⟩ := hcs
      exact ⟨[], .inl ⟨rfl, rfl, rfl, rfl⟩⟩
    · simp [Value.cells] at hcs
      obtain ⟨rfl, rfl, rfl⟩ := hcs
      exact ⟨zs, .inr ⟨_, rfl, hl, hm, by simpa using hz, hcell, hwz⟩⟩
  clear hA0 hval0 hsz hsz0
  refine (walk a0 len0 cap0 z0 a1 len1 cap1 z1 W w0 w1).mono fun e W' ⟨he, bel⟩ => ?_
  subst he
  exact ⟨_, rfl, _, _, _, [], _, [], hW', trodAll_mk1 (shut_bool Try.underlying4 _), (trodAll_cons_mk (Below.trod laidOut (by kernel_rfl) (of_decide_eq_true (by kernel_rfl)) k0 bel lt0) (trodAll_cons_mk (Below.trod laidOut (by kernel_rfl) (of_decide_eq_true (by kernel_rfl)) k1 bel lt1) trodAll_mk0)), rfl, bel.frame _, fun h => by cases h⟩

theorem over : Rows.diskKeepsRow.holds Try.pinned (OpenSpec.ofChange Rows.diskKeepsSpec) :=
  OpenClaim.holds_of_wide 4 Try.f4 rfl rfl rfl rfl rfl rfl rfl ⟨rfl, rfl, rfl, rfl, rfl⟩ rfl rfl rfl rfl rfl (by kernel_rfl) Try.func4 (by kernel_rfl)
    (of_decide_eq_true (by kernel_rfl)) (by unfold Func.isWrapper; first | (rw [if_pos (by decide +kernel)]; kernel_rfl) | (rw [if_neg (by decide +kernel)]; exact ⟨rfl, rfl⟩))
    (fun os started H enc _ => lifted os started H enc)

/-- ████ THE STATEMENT ████ -/
theorem proved : Rows.DiskKeepsSaid := over
#print axioms proved
end Go.Proofs.Ytcmnjiichkcmgaa.diskKeeps
