/-
  The laws' same: the disk's files against the document's.
-/
import Derived.Test.YtcmnjiichkcmgaaRstep
import Derived.Test.YtcmnjiichkcmgaaKeeps2
import Derived.Test.YtcmnjiichkcmgaaRel3
import Derived.Deep.RegionHeld3
namespace Go.Proofs.Ytcmnjiichkcmgaa
open Go.RowKit Go.Maps Go.Sort
set_option linter.unusedVariables false
variable {fp : Nat → Prop}

set_option maxRecDepth 100000 in
set_option maxHeartbeats 1000000 in
theorem alike_any (pb N M : Nat) (F : Tab) (v : Value) (fs : List Fl) (w : World) (hd : Disk w pb fp N F) (hN : N < 100000) (hf : Fits F M) (hM : M ≤ 100000) (h : FilesV fp w v fs) (hR : Rel fs F) :
    Calls Try.prog 13 #[.pointer (some ⟨pb, 0, none⟩), v] w fun e w' => e = .returned (.bool true) ∧ fs.length ≤ N ∧ Below w.heap.size w w' := by
  obtain ⟨a, c, rfl, h3, _⟩ := id h
  obtain ⟨n, hn⟩ : ∃ n, fs.length = n := ⟨_, rfl⟩
  have HNm : Hid (Calls Try.prog 17 #[.pointer (some ⟨pb, 0, none⟩)] w fun e w' => ∃ na ma, e = .returned (.slice na n ma) ∧ n ≤ N ∧ StrsV w' (.slice na n ma) (fs.map nk) ∧ (∀ i, i < n → (fs.getD i noFl).name.size ≤ maxLen) ∧ Below w.heap.size w w') :=
    (names_any pb N fp F w hd (by omega)).mono fun e w' ⟨v, ks, he, h1, h2, h3, h4, hB⟩ => by
      obtain rfl := h1.unique hR.names
      have hs := strs_of_row h4
      obtain ⟨na, ma, rfl, _⟩ := id hs
      rw [List.length_map, hn] at he hs h2
      refine ⟨na, ma, he, h2, hs, fun i hi => ?_, hB⟩
      have := h3 (nk (fs.getD i noFl)) (List.mem_map_of_mem (getD_memF (by omega)))
      rwa [← size_nameS, nameS_nk] at this
  have HD : Hid (Disk w pb fp N F ∧ Fits F M ∧ Rel fs F ∧ M ≤ 100000 ∧ N < 100000 ∧ fs.length = n) := ⟨hd, hf, hR, hM, hN, hn⟩
  rw [hn] at h h3 ⊢
  have HF : Hid (FilesV fp w (.slice a n c) fs) := h
  have HFi : Hid (∀ i, i < fs.length → (fs.getD i noFl).firm.length + (fs.getD i noFl).loose.length ≤ M) := fun i hi => hR.fits hf hi
  have hn63 : n ≤ 9223372036854775807 := by unfold maxLen at h3; omega
  clear hd hf hR hM hN hn h h3
  go_enter Try.func13, Try.ntmps13
  go_wp2_with (go_at_call 17; refine HNm.out.mono ?_; rintro e wN ⟨na, ma, rfl, h1, h2, h3, h4⟩; have HS : Hid (StrsV wN (.slice na n ma) (fs.map nk) ∧ (∀ i, i < n → (fs.getD i noFl).name.size ≤ maxLen) ∧ n ≤ N ∧ Below w.heap.size w wN) := ⟨h2, h3, h1, h4⟩; clear h1 h2 h3 h4 HNm)
  go_loopw [6] (fun i wr => ∃ t : Nat, t ≤ n ∧ i = .int .i64 t ∧ Hid (Below wN.heap.size wN wr)) (fun i _ => n - (intOf i).toNat)
  case atStart => exact ⟨0, Nat.zero_le _, rfl, Below.refl _ _⟩
  case round =>
    obtain ⟨t, ht, rfl, HB⟩ := hrel
    have HB1 : Hid (Below w.heap.size w wr) := HS.out.2.2.2.trans (HB.out.mono HS.out.2.2.2.size)
    by_cases hlt : t < n
    · have hlf : t < fs.length := by rw [HD.out.2.2.2.2.2]; exact hlt
      obtain ⟨_, g, rfl, hcN⟩ := strs_at HS.out.1 hlt
      rw [getD_map hlf, nameS_nk] at hcN
      obtain ⟨b, off, rfl, hc⟩ := HF.out.cells (by omega)
      obtain ⟨y0, fa, fc, la, lc, _, y2, _, _⟩ := hc t hlt
      have HX : Hid (∀ w2, Turned (fun _ => False) wr w2 → w2.cell? ⟨g, t, none⟩ = some (.string (fs.getD t noFl).name) ∧ w2.cell? ⟨b, off + t * 3, none⟩ = some (.string (fs.getD t noFl).name) ∧ w2.cell? ⟨b, off + t * 3 + 2, none⟩ = some (.slice la (fs.getD t noFl).loose.length lc)) := fun w2 hT => by
        have hB := hT.below (Nat.le_refl _) (fun _ h => h.elim)
        have hB2 : Below wN.heap.size wN w2 := HB.out.trans (hB.mono HB.out.size)
        have hB3 : Below w.heap.size w w2 := HB1.out.trans (hB.mono HB1.out.size)
        exact ⟨(hB2.cell (p := ⟨g, t, none⟩) (World.block_lt_of_cell? wN _ hcN)).trans hcN, (hB3.cell (p := ⟨b, off + t * 3, none⟩) (World.block_lt_of_cell? w _ y0)).trans y0, (hB3.cell (p := ⟨b, off + t * 3 + 2, none⟩) (World.block_lt_of_cell? w _ y2)).trans y2⟩
      have hsz := HS.out.2.1 t hlt
      have HR1 : Hid (∀ w2, Turned (fun _ => False) wr w2 → Calls Try.prog 15 #[.pointer (some ⟨pb, 0, none⟩), .string (fs.getD t noFl).name] w2 fun e w' => ∃ v', e = .returned v' ∧ ReadsV w' v' (bytesOf F (key (fs.getD t noFl).name)) ∧ Turned (fun _ => False) wr w' ∧ Turned (fun _ => False) w2 w') := fun w2 hT => by
        have hT0 : Turned (fun _ => False) w w2 := (below_turned HB1.out).trans hT (fun _ _ h => h)
        exact (read_any pb _ _ _ F _ w2 (HD.out.1.kept hT0 (fun _ _ h => h)) hsz HD.out.2.1 (by have := HD.out.2.2.2.1; omega)).mono fun e w' ⟨v', he, ho, hB⟩ => ⟨v', he, ReadsV.of_own ho, hT.trans (below_turned hB) (fun _ _ h => h), below_turned hB⟩
      have HR2 : Hid (∀ w2, Turned (fun _ => False) wr w2 → Calls Try.prog 16 #[.slice (some ⟨b, off, none⟩) n c, .string (fs.getD t noFl).name] w2 fun e w' => ∃ v', e = .returned v' ∧ ReadsV w' v' (bytesOf F (key (fs.getD t noFl).name)) ∧ Turned (fun _ => False) wr w' ∧ Turned (fun _ => False) w2 w') := fun w2 hT => by
        have hT0 : Turned (fun _ => False) w w2 := (below_turned HB1.out).trans hT (fun _ _ h => h)
        have hq : fs.length ≤ 100000000 := by have h1 := HD.out.2.2.2.2; have h2 := HS.out.2.2.1; omega
        have := rread_any _ fs (fs.getD t noFl).name w2 (HF.out.below (hT0.below (Nat.le_refl _) (fun _ h => h.elim))) hq (fun i hi => by have h1 := HFi.out i hi; have h2 := HD.out.2.2.2.1; omega)
        rw [HD.out.2.2.1.bytes] at this
        exact this.mono fun e w' ⟨v', he, hr, hB⟩ => ⟨v', he, hr, hT.trans (below_turned hB) (fun _ _ h => h), below_turned hB⟩
      have HLo : Hid (∀ w2, Turned (fun _ => False) wr w2 → Calls Try.prog 18 #[.pointer (some ⟨pb, 0, none⟩), .string (fs.getD t noFl).name] w2 fun e w' => e = .returned (.int .i64 ((fs.getD t noFl).loose.length : Nat)) ∧ Turned (fun _ => False) wr w') := fun w2 hT => by
        have hT0 : Turned (fun _ => False) w w2 := (below_turned HB1.out).trans hT (fun _ _ h => h)
        have := loose_any pb _ _ _ F (fs.getD t noFl).name w2 (HD.out.1.kept hT0 (fun _ _ h => h)) hsz HD.out.2.1 (by have := HD.out.2.2.2.1; omega)
        rw [HD.out.2.2.1.loose hlf] at this
        exact this.mono fun e w' ⟨he, hB⟩ => ⟨he, hT.trans (below_turned hB) (fun _ _ h => h)⟩
      obtain ⟨q0, q1, q2⟩ := HX.out _ (Turned.refl _ _)
      clear hc y0 y2 hcN hsz hlf
      generalize bytesOf F (key (fs.getD t noFl).name) = bb at *
      generalize (fs.getD t noFl).name = s at *
      generalize (fs.getD t noFl).loose.length = ll at *
      go_wp2
      go_region_held3 (fun w' => w'.cell? ⟨g, t, none⟩ = some (.string s) ∧ w'.cell? ⟨b, off + t * 3, none⟩ = some (.string s) ∧ w'.cell? ⟨b, off + t * 3 + 2, none⟩ = some (.slice la ll lc)) (go_keep) (first
        | (go_at_call 18; have := HQ3; refine (HLo.out _ HQ3.out).mono ?_; rintro e w5 ⟨rfl, hT⟩; have HQ4 : Hid (Turned (fun _ => False) wr w5) := hT; obtain ⟨f5, g5, k5⟩ := HX.out _ HQ4.out; clear hT HQ3)
        | (go_at_call 14; have := HQ2; refine (same_yes _ _ bb _ HQ2.out.1 HQ2.out.2.1).mono ?_; rintro e w4 ⟨rfl, hw⟩; have HQ3 : Hid (Turned (fun _ => False) wr w4) := (show Turned (fun _ => False) wr w4 by rw [hw]; exact HQ2.out.2.2); obtain ⟨f4, g4, k4⟩ := HX.out _ HQ3.out; clear hw HQ2)
        | (go_at_call 16; have := HQ1; refine (HR2.out _ HQ1.out.2).mono ?_; rintro e w3 ⟨v2, rfl, hr, hT, hT2⟩; obtain ⟨f3, g3, k3⟩ := HX.out _ hT; have HQ2 : Hid (ReadsV w3 v1 bb ∧ ReadsV w3 v2 bb ∧ Turned (fun _ => False) wr w3) := ⟨HQ1.out.1.below (hT2.below (Nat.le_refl _) (fun _ h => h.elim)), hr, hT⟩; clear hr hT hT2 HQ1)
        | (go_at_call 15; have := HR1; refine (HR1.out _ (drew_turned _ _)).mono ?_; rintro e w2 ⟨v1, rfl, hr, hT, hT2⟩; obtain ⟨f2, g2', k2⟩ := HX.out _ hT; have HQ1 : Hid (ReadsV w2 v1 bb ∧ Turned (fun _ => False) wr w2) := ⟨hr, hT⟩; clear hr hT hT2 HR1))
      all_goals
        go_wp2
        go_roundw
        case rel => exact ⟨t + 1, by omega, by go_num, HB.out.trans ((HQ4.out.below (Nat.le_refl _) (fun _ h => h.elim)).mono HB.out.size)⟩
        case measure => simp [intOf]; omega
    · have hlt' : ¬ (t : Int) < (n : Int) := by omega
      clear hlt
      go_wp2
      go_ret
      exact ⟨rfl, HS.out.2.2.1, HB1.out⟩

end Go.Proofs.Ytcmnjiichkcmgaa
