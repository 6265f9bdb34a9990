/-
  The document's Append and Crash: contracts.
-/
import Derived.Test.YtcmnjiichkcmgaaRacts
namespace Go.Proofs.Ytcmnjiichkcmgaa
open Go.RowKit Go.Maps Go.Sort
set_option linter.unusedVariables false
variable {fp : Nat → Prop}

set_option maxRecDepth 100000 in
set_option maxHeartbeats 400000 in
theorem rappend_no (v u : Value) (fs : List Fl) (s : ByteArray) (w : World) (h : FilesV fp w v fs) (hs : s.size ≤ 9223372036854775807) (hnm : nm s = false) : Calls Try.prog 23 #[v, .string s, u] w fun e w' => Went fp w w' e fs 1 := by
  have HN : Hid (Calls Try.prog 35 #[.string s] w fun e w' => e = .returned (.bool (nm s)) ∧ w' = w) := rname_any s w hs
  have HF : Hid (FilesV fp w v fs) := h
  rw [hnm] at HN
  clear h hnm
  go_enter Try.func23, Try.ntmps23
  go_wp2_with (go_at_call 35; refine HN.out.mono ?_; rintro e w1 ⟨rfl, hw⟩; have hw2 := hw.symm; clear hw; subst hw2)
  go_ret2
  exact ⟨_, rfl, HF.out, Below.refl _ _⟩

set_option maxRecDepth 100000 in
set_option maxHeartbeats 400000 in
theorem rappend_yes (v u : Value) (fs : List Fl) (s : ByteArray) (l : Row) (w : World) (h : FilesV fp w v fs) (hn : fs.length ≤ 100000000) (hr : ReadsV w u l) (hs : s.size ≤ 9223372036854775807) (hnm : nm s = true) (hb : ∀ i, i < fs.length → (fs.getD i noFl).loose.length + l.length ≤ 140737488355328) (hl : l.length ≤ 100000000000) (hfp : ∀ g, fp g → g < w.heap.size) :
    Calls Try.prog 23 #[v, .string s, u] w fun e w' => Went fp w w' e (putL fs ⟨s, (entry fs s).firm, (entry fs s).loose ++ l⟩) 0 := by
  have HN : Hid (Calls Try.prog 35 #[.string s] w fun e w' => e = .returned (.bool (nm s)) ∧ w' = w) := rname_any s w hs
  rw [hnm] at HN
  clear hnm
  obtain ⟨a, c, rfl, h3, _⟩ := id h
  obtain ⟨ua, uc, rfl, _⟩ := id hr
  have HFi : Hid (∀ w1, Below w.heap.size w w1 → Calls Try.prog 28 #[.slice a fs.length c, .string s] w1 fun e w' => e = .returned (.int .i64 (findV (find fs s))) ∧ w' = w1) := fun w1 hB => find_any _ fs s w1 (h.below hB) hn
  have tail : ∀ (t : ByteArray) (fa la : Option Addr) (fn fc ln lc : Nat) (F0 L0 : Row), ReadsF fp w (.slice fa fn fc) F0 → ReadsV w (.slice la ln lc) L0 → L0.length + l.length ≤ 140737488355328 → ∀ w0, w0 = w.alloc (.cells #[.string t, .slice fa fn fc, .slice la ln lc] 58) →
      (∃ JL, (∀ w1, Below w0.heap.size w0 w1 → Calls Try.prog 29 #[.slice la ln lc, .slice ua l.length uc] w1 fun e w' => ∃ ja jc, e = .returned (.slice ja JL jc) ∧ ReadsF fp w' (.slice ja JL jc) (L0 ++ l) ∧ Below w0.heap.size w0 w') ∧
        (∀ w1 ja jc, Below w0.heap.size w0 w1 → ReadsF fp w1 (.slice ja JL jc) (L0 ++ l) → Calls Try.prog 36 #[.slice a fs.length c, .agg #[.string s, .slice fa fn fc, .slice ja JL jc]] w1 fun e w' => ∃ v', e = .returned v' ∧ FilesV fp w' v' (putL fs ⟨s, F0, L0 ++ l⟩) ∧ Below w0.heap.size w0 w')) ∧
      Below w.heap.size w w0 ∧ ∀ w1, Below w0.heap.size w0 w1 → w1.cell? ⟨w.heap.size, 1, none⟩ = some (.slice fa fn fc) ∧ w1.cell? ⟨w.heap.size, 2, none⟩ = some (.slice la ln lc) := by
    intro t fa la fn fc ln lc F0 L0 hF0 hL0 hbb w0 hw0
    have hB0 : Below w.heap.size w w0 := by subst hw0; exact (Below.refl _ _).alloc (Nat.le_refl _) _
    have hlt0 : w.heap.size < w0.heap.size := by subst hw0; show w.heap.size < (w.heap.push _).size; rw [Array.size_push]; omega
    have x1 : w0.cell? ⟨w.heap.size, 1, none⟩ = some (.slice fa fn fc) := by subst hw0; rw [cell_of_row _ w.heap.size 1 _ 58 (0, 0) (heap_alloc_new w _)]; rfl
    have x2 : w0.cell? ⟨w.heap.size, 2, none⟩ = some (.slice la ln lc) := by subst hw0; rw [cell_of_row _ w.heap.size 2 _ 58 (0, 0) (heap_alloc_new w _)]; rfl
    refine ⟨⟨(L0 ++ l).length, fun w1 hB => ?_, fun w1 ja jc hB hj => ?_⟩, hB0, fun w1 hB => ⟨(hB.cell (p := ⟨w.heap.size, 1, none⟩) hlt0).trans x1, (hB.cell (p := ⟨w.heap.size, 2, none⟩) hlt0).trans x2⟩⟩
    · have hB1 : Below w.heap.size w w1 := hB0.trans (hB.mono hB0.size)
      refine (join_any _ _ L0 l w1 (hL0.below hB1) (hr.below hB1) hbb).mono fun e w' ⟨v', he, ho, h2⟩ => ?_
      have hrd : ReadsF fp w' v' (L0 ++ l) := ReadsF.of_own ho (fun g hg => Nat.lt_of_lt_of_le (hfp g hg) hB1.size)
      obtain ⟨ja, jc, rfl, _⟩ := id hrd.1
      exact ⟨ja, jc, he, hrd, hB.trans (h2.mono hB.size)⟩
    · have hB1 : Below w.heap.size w w1 := hB0.trans (hB.mono hB0.size)
      exact (rput_any _ fs s _ _ ⟨s, F0, L0 ++ l⟩ w1 (h.below hB1) hn rfl (hF0.below hB1) hj (fun g hg => Nat.lt_of_lt_of_le (hfp g hg) hB1.size)).mono fun e w' ⟨v', he, hF, h2⟩ => ⟨v', he, hF, hB.trans (h2.mono hB.size)⟩
  cases hf : find fs s with
  | none =>
    have hE : entry fs s = noFl := by unfold entry; rw [hf]
    rw [hE]
    rw [hf] at HFi
    have e1 : findV none = -1 := rfl
    rw [e1] at HFi
    obtain ⟨w0, hw0⟩ : ∃ w0, w0 = w.alloc (.cells #[.string s, .slice none 0 0, .slice none 0 0] 58) := ⟨_, rfl⟩
    obtain ⟨⟨JL, hJ, hP⟩, hB0, hX⟩ := tail s none none 0 0 0 0 [] [] (ReadsF.nil _) (ReadsV.nil _) (by simp; omega) w0 hw0
    have HJ : Hid (∀ w1, Below w0.heap.size w0 w1 → Calls Try.prog 29 #[.slice none 0 0, .slice ua l.length uc] w1 fun e w' => ∃ ja jc, e = .returned (.slice ja JL jc) ∧ ReadsF fp w' (.slice ja JL jc) ([] ++ l) ∧ Below w0.heap.size w0 w') := hJ
    have HP : Hid (∀ w1 ja jc, Below w0.heap.size w0 w1 → ReadsF fp w1 (.slice ja JL jc) ([] ++ l) → Calls Try.prog 36 #[.slice a fs.length c, .agg #[.string s, .slice none 0 0, .slice ja JL jc]] w1 fun e w' => ∃ v', e = .returned v' ∧ FilesV fp w' v' (putL fs ⟨s, [], [] ++ l⟩) ∧ Below w0.heap.size w0 w') := hP
    have HB0 : Hid (Below w.heap.size w w0) := hB0
    have HX : Hid (∀ w1, Below w0.heap.size w0 w1 → w1.cell? ⟨w.heap.size, 1, none⟩ = some (.slice none 0 0) ∧ w1.cell? ⟨w.heap.size, 2, none⟩ = some (.slice none 0 0)) := hX
    show Calls _ _ _ _ fun e w' => Went fp w w' e (putL fs ⟨s, [], [] ++ l⟩) 0
    clear tail hJ hP hB0 hX h hr hf hE e1 hb h3
    generalize putL fs ⟨s, [], [] ++ l⟩ = gs at *
    generalize ([] ++ l : Row) = R at *
    generalize l.length = L at *
    generalize fs.length = n at *
    go_enter Try.func23, Try.ntmps23
    go_wp2_with (first
      | (go_at_call 28; refine (HFi.out _ ((Below.refl _ _).alloc (Nat.le_refl _) _)).mono ?_; rintro e w1 ⟨rfl, hw⟩; have hw2 := hw.symm; clear hw; subst hw2)
      | (go_at_call 35; refine HN.out.mono ?_; rintro e w1 ⟨rfl, hw⟩; have hw2 := hw.symm; clear hw; subst hw2))
    rw [← hw0]
    clear hw0
    obtain ⟨g1, g2⟩ := HX.out _ (Below.refl _ _)
    go_region_held3 (fun w' => w'.cell? ⟨w.heap.size, 1, none⟩ = some (.slice none 0 0) ∧ w'.cell? ⟨w.heap.size, 2, none⟩ = some (.slice none 0 0)) (go_keep) (first
      | (go_at_call 36; have := H1; refine (HP.out _ _ _ H1.out.2 H1.out.1).mono ?_; rintro e w2 ⟨v2, rfl, hF, hB⟩; obtain ⟨k1, k2⟩ := HX.out _ hB; have H2 : Hid (FilesV fp w2 v2 gs ∧ Below w.heap.size w w2) := ⟨hF, HB0.out.trans (hB.mono HB0.out.size)⟩; clear hF hB)
      | (go_at_call 29; refine (HJ.out _ (Below.refl _ _).drew).mono ?_; rintro e w1 ⟨ja, jc, rfl, hrd, hB⟩; obtain ⟨f1, f2⟩ := HX.out _ hB; have H1 : Hid (ReadsF fp w1 (.slice ja JL jc) R ∧ Below w0.heap.size w0 w1) := ⟨hrd, hB⟩; clear hrd hB))
    all_goals go_wp2
    all_goals go_ret2
    all_goals exact ⟨_, rfl, H2.out⟩
  | some k =>
    have hE : entry fs s = fs.getD k noFl := by unfold entry; rw [hf]
    rw [hE]
    rw [hf] at HFi
    have e1 : findV (some k) = (k : Int) := rfl
    rw [e1] at HFi
    obtain ⟨hk, -⟩ := find_some hf
    obtain ⟨b, off, rfl, hc⟩ := h.cells (by omega)
    obtain ⟨c0, fa, fc, la, lc, c1, c2, r1, r2⟩ := hc k hk
    have hlt : b < w.heap.size := World.block_lt_of_cell? w _ c1
    obtain ⟨w0, hw0⟩ : ∃ w0, w0 = w.alloc (.cells #[.string (fs.getD k noFl).name, .slice fa (fs.getD k noFl).firm.length fc, .slice la (fs.getD k noFl).loose.length lc] 58) := ⟨_, rfl⟩
    obtain ⟨⟨JL, hJ, hP⟩, hB0, hX⟩ := tail (fs.getD k noFl).name fa la _ fc _ lc _ _ r1 r2.1 (hb k hk) w0 hw0
    clear tail h hf hE e1 hc r1 r2 hb h3
    generalize putL fs ⟨s, (fs.getD k noFl).firm, (fs.getD k noFl).loose ++ l⟩ = gs at *
    generalize (fs.getD k noFl).loose ++ l = R at *
    generalize (fs.getD k noFl).firm.length = fn at *
    generalize (fs.getD k noFl).loose.length = ln at *
    generalize (fs.getD k noFl).name = t at *
    generalize l.length = L at *
    generalize fs.length = n at *
    have HJ : Hid (∀ w1, Below w0.heap.size w0 w1 → Calls Try.prog 29 #[.slice la ln lc, .slice ua L uc] w1 fun e w' => ∃ ja jc, e = .returned (.slice ja JL jc) ∧ ReadsF fp w' (.slice ja JL jc) R ∧ Below w0.heap.size w0 w') := hJ
    have HP : Hid (∀ w1 ja jc, Below w0.heap.size w0 w1 → ReadsF fp w1 (.slice ja JL jc) R → Calls Try.prog 36 #[.slice (some ⟨b, off, none⟩) n c, .agg #[.string s, .slice fa fn fc, .slice ja JL jc]] w1 fun e w' => ∃ v', e = .returned v' ∧ FilesV fp w' v' gs ∧ Below w0.heap.size w0 w') := hP
    have HB0 : Hid (Below w.heap.size w w0) := hB0
    have HX : Hid (∀ w1, Below w0.heap.size w0 w1 → w1.cell? ⟨w.heap.size, 1, none⟩ = some (.slice fa fn fc) ∧ w1.cell? ⟨w.heap.size, 2, none⟩ = some (.slice la ln lc)) := hX
    clear hJ hP hB0 hX hr
    have i1 : (k : Int) < (n : Int) := by omega
    go_enter Try.func23, Try.ntmps23
    go_wp2_with (first
      | (go_at_call 28; refine (HFi.out _ ((Below.refl _ _).alloc (Nat.le_refl _) _)).mono ?_; rintro e w1 ⟨rfl, hw⟩; have hw2 := hw.symm; clear hw; subst hw2)
      | (go_at_call 35; refine HN.out.mono ?_; rintro e w1 ⟨rfl, hw⟩; have hw2 := hw.symm; clear hw; subst hw2))
    rw [← hw0]
    clear hw0
    obtain ⟨g1, g2⟩ := HX.out _ (Below.refl _ _)
    go_region_held3 (fun w' => w'.cell? ⟨w.heap.size, 1, none⟩ = some (.slice fa fn fc) ∧ w'.cell? ⟨w.heap.size, 2, none⟩ = some (.slice la ln lc)) (go_keep) (first
      | (go_at_call 36; have := H1; refine (HP.out _ _ _ H1.out.2 H1.out.1).mono ?_; rintro e w2 ⟨v2, rfl, hF, hB⟩; obtain ⟨k1, k2⟩ := HX.out _ hB; have H2 : Hid (FilesV fp w2 v2 gs ∧ Below w.heap.size w w2) := ⟨hF, HB0.out.trans (hB.mono HB0.out.size)⟩; clear hF hB)
      | (go_at_call 29; refine (HJ.out _ (Below.refl _ _).drew).mono ?_; rintro e w1 ⟨ja, jc, rfl, hrd, hB⟩; obtain ⟨f1, f2⟩ := HX.out _ hB; have H1 : Hid (ReadsF fp w1 (.slice ja JL jc) R ∧ Below w0.heap.size w0 w1) := ⟨hrd, hB⟩; clear hrd hB))
    all_goals go_wp2
    all_goals go_ret2
    all_goals exact ⟨_, rfl, H2.out⟩

end Go.Proofs.Ytcmnjiichkcmgaa
