/-
  The document's without, Append, Sync, Replace: contracts.
-/
import Derived.Test.YtcmnjiichkcmgaaRput
namespace Go.Proofs.Ytcmnjiichkcmgaa
open Go.RowKit Go.Maps Go.Sort
set_option linter.unusedVariables false
variable {fp : Nat → Prop}

def withoutL (s : ByteArray) : List Fl → List Fl
  | [] => []
  | f :: r => if f.name = s then withoutL s r else f :: withoutL s r
theorem withoutL_len (s : ByteArray) : ∀ fs : List Fl, (withoutL s fs).length ≤ fs.length
  | [] => by simp [withoutL]
  | f :: r => by have := withoutL_len s r; unfold withoutL; split <;> simp <;> omega

set_option maxRecDepth 100000 in
set_option maxHeartbeats 400000 in
theorem without_walk (b off n c : Nat) (fs : List Fl) (s : ByteArray) (w : World) (HF : Hid (FilesV fp w (.slice (some ⟨b, off, none⟩) n c) fs)) (hn : n ≤ 100000000) (hp : 0 < n) (HFp : Hid (∀ g, fp g → g < w.heap.size)) :
    Calls Try.prog 37 #[.slice (some ⟨b, off, none⟩) n c, .string s] w fun e w' => ∃ v', e = .returned v' ∧ FilesV fp w' v' (withoutL s fs) ∧ Below w.heap.size w w' := by
  have HLn : Hid (fs.length = n) := HF.out.len
  go_enter Try.func37, Try.ntmps37
  go_wp2
  go_loopw [5, 6] (fun v i wr => ∃ (k : Nat), k ≤ n ∧ i = .int .i64 k ∧ Hid (∃ vals gs, Outs fp w wr v vals gs ∧ gs ++ withoutL s (fs.drop k) = withoutL s fs)) (fun _ i _ => n - (intOf i).toNat)
  case atStart => exact ⟨0, Nat.zero_le _, rfl, [], [], Outs.start w HFp.out, rfl⟩
  case round =>
    obtain ⟨k, hk, rfl, HK⟩ := hrel
    obtain ⟨vals, gs, hO, hgs⟩ := HK.out
    have HO : Hid (Outs fp w wr u5 vals gs) := hO
    have HG : Hid (gs ++ withoutL s (fs.drop k) = withoutL s fs) := hgs
    have HLe : Hid (gs.length ≤ 1000000000) := by
      show gs.length ≤ _
      have h1 := congrArg List.length hgs
      have h2 := withoutL_len s fs
      rw [List.length_append] at h1
      rw [HLn.out] at h2
      omega
    clear HK hO hgs
    by_cases hlt : k < n
    · obtain ⟨b', off', e, hc⟩ := HF.out.cells hp
      cases e
      obtain ⟨y0, ga, gc, ka, kc, y1, y2, r1, r2⟩ := hc k hlt
      have hbl : b < w.heap.size := World.block_lt_of_cell? w _ y0
      obtain ⟨t, ht⟩ : ∃ t, (fs.getD k noFl).name = t := ⟨_, rfl⟩
      obtain ⟨gn, hgn⟩ : ∃ gn, (fs.getD k noFl).firm.length = gn := ⟨_, rfl⟩
      obtain ⟨kn, hkn⟩ : ∃ kn, (fs.getD k noFl).loose.length = kn := ⟨_, rfl⟩
      rw [ht] at y0
      rw [hgn] at y1 r1
      rw [hkn] at y2 r2
      have HTn : Hid (t = (fs.getD k noFl).name) := ht.symm
      have HSx : Hid (Safe fp wr u5 (.slice ga gn gc) (fs.getD k noFl).firm ∧ Safe fp wr u5 (.slice ka kn kc) (fs.getD k noFl).loose) := ⟨Safe.old r1 HO.out.bel (fun g e => (HO.out.ge g e).1), Safe.old r2 HO.out.bel (fun g e => (HO.out.ge g e).1)⟩
      have q0 := (HO.out.bel.cell (p := ⟨b, off + k * 3, none⟩) hbl).trans y0
      have q1 := (HO.out.bel.cell (p := ⟨b, off + k * 3 + 1, none⟩) hbl).trans y1
      have q2 := (HO.out.bel.cell (p := ⟨b, off + k * 3 + 2, none⟩) hbl).trans y2
      clear y0 y1 y2 r1 r2 hc hgn hkn
      have HNx := HG.out
      rw [drop_cons (by rw [HLn.out]; exact hlt), withoutL, ht] at HNx
      have hb := name_beq t s
      have i1 : (k : Int) < (n : Int) := by omega
      clear ht
      by_cases hst : t = s
      · rw [decide_eq_true hst] at hb
        rw [if_pos hst] at HNx
        have HE : Hid (gs ++ withoutL s (fs.drop (k + 1)) = withoutL s fs) := HNx
        clear HNx hst
        go_wp2
        go_roundw
        case rel => exact ⟨k + 1, by omega, by go_num, vals, gs, HO.out, HE.out⟩
        case measure => simp [intOf]; omega
      · rw [decide_eq_false hst] at hb
        rw [if_neg hst] at HNx
        have HE : Hid (gs ++ [fs.getD k noFl] ++ withoutL s (fs.drop (k + 1)) = withoutL s fs) := by show _ = _; rw [List.append_assoc]; exact HNx
        clear HNx hst
        go_wp2_with (at_builtin; refine wpList_add rfl (.tmp 20) (.tmp 25) rfl HO.out (Below.refl _ _) rfl rfl (fs.getD k noFl) HTn.out HSx.out.1 HSx.out.2 HLe.out ?_; intro v2 w2 hO2; have HOx : Hid (Outs fp w w2 v2 (vals ++ [⟨t, .slice ga gn gc, .slice ka kn kc⟩]) (gs ++ [fs.getD k noFl])) := hO2; clear hO2)
        go_roundw
        case rel => exact ⟨k + 1, by omega, by go_num, _, _, HOx.out, HE.out⟩
        case measure => simp [intOf]; omega
    · have hlt' : ¬ (k : Int) < (n : Int) := by omega
      have he : gs = withoutL s fs := by
        have := HG.out
        rw [List.drop_of_length_le (by rw [HLn.out]; omega)] at this
        simpa [withoutL] using this
      have HE : Hid (gs = withoutL s fs) := he
      clear he
      go_wp2
      go_ret
      exact ⟨_, rfl, by rw [← HE.out]; exact HO.out.files, HO.out.bel⟩
set_option maxRecDepth 100000 in
theorem without_empty (a : Option Addr) (c : Nat) (s : ByteArray) (w : World) : Calls Try.prog 37 #[.slice a 0 c, .string s] w fun e w' => e = .returned (.slice none 0 0) ∧ w' = w := by
  go_enter Try.func37, Try.ntmps37
  go_wp2
  refine wp_loop_rounds 1 ?_
  rw [rounds_succ]
  go_wp2
  go_ret
  exact ⟨rfl, rfl⟩
theorem without_any (v : Value) (fs : List Fl) (s : ByteArray) (w : World) (h : FilesV fp w v fs) (hn : fs.length ≤ 100000000) (hfp : ∀ g, fp g → g < w.heap.size) : Calls Try.prog 37 #[v, .string s] w fun e w' => ∃ v', e = .returned v' ∧ FilesV fp w' v' (withoutL s fs) ∧ Below w.heap.size w w' := by
  obtain ⟨a, c, rfl, h3, _⟩ := id h
  by_cases hp : 0 < fs.length
  · obtain ⟨b, off, rfl, _⟩ := h.cells hp
    exact without_walk b off fs.length c fs s w h hn hp hfp
  · have e : fs = [] := List.length_eq_zero_iff.1 (by omega)
    subst e
    exact (without_empty a c s w).mono fun e w' ⟨he, hw⟩ => ⟨_, he, FilesV.nil _, by rw [hw]; exact Below.refl _ _⟩

/-- What is known of a file that may be there. -/
def entry (fs : List Fl) (s : ByteArray) : Fl := match find fs s with | some k => fs.getD k noFl | none => noFl
/-- An outcome: files, and an answer. -/
def Went (fp : Nat → Prop) (w w' : World) (e : Ending) (fs : List Fl) (x : Int) : Prop := ∃ v', e = .returned (.tuple #[v', .int .i64 x]) ∧ FilesV fp w' v' fs ∧ Below w.heap.size w w'

set_option maxRecDepth 100000 in
set_option maxHeartbeats 400000 in
theorem rsync_any (v : Value) (fs : List Fl) (s : ByteArray) (w : World) (h : FilesV fp w v fs) (hn : fs.length ≤ 100000000) (hb : ∀ i, i < fs.length → (fs.getD i noFl).firm.length + (fs.getD i noFl).loose.length ≤ 140737488355328) (hfp : ∀ g, fp g → g < w.heap.size) :
    Calls Try.prog 24 #[v, .string s] w fun e w' => Went fp w w' e (match find fs s with | some k => putL fs ⟨s, (fs.getD k noFl).firm ++ (fs.getD k noFl).loose, []⟩ | none => fs) (match find fs s with | some _ => 0 | none => 9) := by
  obtain ⟨a, c, rfl, h3, _⟩ := id h
  have HFi : Hid (Calls Try.prog 28 #[.slice a fs.length c, .string s] w fun e w' => e = .returned (.int .i64 (findV (find fs s))) ∧ w' = w) := find_any _ fs s w h hn
  have HF : Hid (FilesV fp w (.slice a fs.length c) fs) := h
  cases hf : find fs s with
  | none =>
    show Calls _ _ _ _ fun e w' => Went fp w w' e fs 9
    rw [hf] at HFi
    have e1 : findV none = -1 := rfl
    rw [e1] at HFi
    clear h h3 hf e1 hb
    generalize fs.length = n at *
    go_enter Try.func24, Try.ntmps24
    go_wp2_with (go_at_call 28; refine HFi.out.mono ?_; rintro e w1 ⟨rfl, hw⟩; have hw2 := hw.symm; clear hw; subst hw2)
    go_ret2
    exact ⟨_, rfl, HF.out, Below.refl _ _⟩
  | some k =>
    show Calls _ _ _ _ fun e w' => Went fp w w' e (putL fs ⟨s, (fs.getD k noFl).firm ++ (fs.getD k noFl).loose, []⟩) 0
    rw [hf] at HFi
    have e1 : findV (some k) = (k : Int) := rfl
    rw [e1] at HFi
    obtain ⟨hk, _⟩ := find_some hf
    obtain ⟨b, off, rfl, hc⟩ := h.cells (by omega)
    obtain ⟨_, fa, fc, la, lc, c1, c2, r1, r2⟩ := hc k hk
    have hlt : b < w.heap.size := World.block_lt_of_cell? w _ c1
    have HX : Hid (∀ w1, Below w.heap.size w w1 → w1.cell? ⟨b, off + k * 3 + 1, none⟩ = some (.slice fa (fs.getD k noFl).firm.length fc) ∧ w1.cell? ⟨b, off + k * 3 + 2, none⟩ = some (.slice la (fs.getD k noFl).loose.length lc)) := fun w1 hB => ⟨(hB.cell (p := ⟨b, off + k * 3 + 1, none⟩) hlt).trans c1, (hB.cell (p := ⟨b, off + k * 3 + 2, none⟩) hlt).trans c2⟩
    have HJ : Hid (∀ w1, Below w.heap.size w w1 → Calls Try.prog 29 #[.slice fa (fs.getD k noFl).firm.length fc, .slice la (fs.getD k noFl).loose.length lc] w1 fun e w' => ∃ ja jc, e = .returned (.slice ja ((fs.getD k noFl).firm ++ (fs.getD k noFl).loose).length jc) ∧ ReadsF fp w' (.slice ja ((fs.getD k noFl).firm ++ (fs.getD k noFl).loose).length jc) ((fs.getD k noFl).firm ++ (fs.getD k noFl).loose) ∧ Below w.heap.size w w') := fun w1 hB =>
      (join_any _ _ _ _ w1 (r1.1.below hB) (r2.1.below hB) (hb k hk)).mono fun e w' ⟨v', he, ho, h2⟩ => by
        have hr : ReadsF fp w' v' _ := ReadsF.of_own ho (fun g hg => Nat.lt_of_lt_of_le (hfp g hg) hB.size)
        obtain ⟨ja, jc, rfl, _⟩ := id hr.1
        exact ⟨ja, jc, he, hr, hB.trans (h2.mono hB.size)⟩
    have HP : Hid (∀ w1 v1, Below w.heap.size w w1 → ReadsF fp w1 v1 ((fs.getD k noFl).firm ++ (fs.getD k noFl).loose) → Calls Try.prog 36 #[.slice (some ⟨b, off, none⟩) fs.length c, .agg #[.string s, v1, .slice none 0 0]] w1 fun e w' => ∃ v', e = .returned v' ∧ FilesV fp w' v' (putL fs ⟨s, (fs.getD k noFl).firm ++ (fs.getD k noFl).loose, []⟩) ∧ Below w.heap.size w w') := fun w1 v1 hB hr =>
      (rput_any _ fs s v1 (.slice none 0 0) ⟨s, (fs.getD k noFl).firm ++ (fs.getD k noFl).loose, []⟩ w1 (h.below hB) hn rfl hr (ReadsF.nil _) (fun g hg => Nat.lt_of_lt_of_le (hfp g hg) hB.size)).mono fun e w' ⟨v', he, hF, h2⟩ => ⟨v', he, hF, hB.trans (h2.mono hB.size)⟩
    clear h hf hc r1 r2 hb e1
    generalize putL fs ⟨s, (fs.getD k noFl).firm ++ (fs.getD k noFl).loose, []⟩ = gs at *
    generalize (fs.getD k noFl).firm ++ (fs.getD k noFl).loose = R at *
    generalize R.length = RL at *
    generalize (fs.getD k noFl).firm.length = fl at *
    generalize (fs.getD k noFl).loose.length = ll at *
    generalize fs.length = n at *
    have i1 : (k : Int) < (n : Int) := by omega
    go_enter Try.func24, Try.ntmps24
    go_wp2_with (go_at_call 28; refine HFi.out.mono ?_; rintro e w1 ⟨rfl, hw⟩; have hw2 := hw.symm; clear hw; subst hw2)
    go_region_held3 (fun w' => w'.cell? ⟨b, off + k * 3 + 1, none⟩ = some (.slice fa fl fc) ∧ w'.cell? ⟨b, off + k * 3 + 2, none⟩ = some (.slice la ll lc)) (go_keep) (first
      | (go_at_call 36; have := H1; refine (HP.out _ _ H1.out.2 H1.out.1).mono ?_; rintro e w2 ⟨v2, rfl, hF, hB⟩; obtain ⟨g1, g2⟩ := HX.out _ hB; have H2 : Hid (FilesV fp w2 v2 gs ∧ Below w.heap.size w w2) := ⟨hF, hB⟩; clear hF hB)
      | (go_at_call 29; refine (HJ.out _ (Below.refl _ _).drew).mono ?_; rintro e w1 ⟨ja, jc, rfl, hr, hB⟩; obtain ⟨f1, f2⟩ := HX.out _ hB; have H1 : Hid (ReadsF fp w1 (.slice ja RL jc) R ∧ Below w.heap.size w w1) := ⟨hr, hB⟩; clear hr hB))
    all_goals go_wp2
    all_goals go_ret2
    all_goals exact ⟨_, rfl, H2.out⟩

set_option maxRecDepth 100000 in
set_option maxHeartbeats 400000 in
theorem rreplace_any (v u : Value) (fs : List Fl) (s : ByteArray) (l : Row) (w : World) (h : FilesV fp w v fs) (hn : fs.length ≤ 100000000) (hr : ReadsV w u l) (hl : l.length ≤ 100000000000) (hs : s.size ≤ 9223372036854775807) (hfp : ∀ g, fp g → g < w.heap.size) :
    Calls Try.prog 25 #[v, .string s, u] w fun e w' => Went fp w w' e (if nm s then (if l = [] then withoutL s fs else putL fs ⟨s, l, []⟩) else fs) (if nm s then 0 else 1) := by
  have HN : Hid (Calls Try.prog 35 #[.string s] w fun e w' => e = .returned (.bool (nm s)) ∧ w' = w) := rname_any s w hs
  have HF : Hid (FilesV fp w v fs) := h
  obtain ⟨ua, uc, rfl, _⟩ := id hr
  by_cases hnm : nm s = true
  · rw [hnm] at HN ⊢
    simp only [if_true]
    by_cases hl0 : l = []
    · subst hl0
      simp only [if_true]
      have HWo : Hid (Calls Try.prog 37 #[v, .string s] w fun e w' => ∃ v', e = .returned v' ∧ FilesV fp w' v' (withoutL s fs) ∧ Below w.heap.size w w') := without_any v fs s w h hn hfp
      clear h hr hnm
      generalize withoutL s fs = gs at *
      go_enter Try.func25, Try.ntmps25
      go_wp2_with (first
        | (go_at_call 37; refine HWo.out.mono ?_; rintro e w1 ⟨v1, rfl, hF, hB⟩; have H1 : Hid (FilesV fp w1 v1 gs ∧ Below w.heap.size w w1) := ⟨hF, hB⟩; clear hF hB)
        | (go_at_call 35; refine HN.out.mono ?_; rintro e w1 ⟨rfl, hw⟩; have hw2 := hw.symm; clear hw; subst hw2))
      go_ret2
      exact ⟨_, rfl, H1.out⟩
    · rw [if_neg hl0]
      have hpos : 0 < l.length := List.length_pos_iff.2 hl0
      have HJ : Hid (Calls Try.prog 29 #[.slice none 0 0, .slice ua l.length uc] w fun e w' => ∃ ja jc, e = .returned (.slice ja l.length jc) ∧ ReadsF fp w' (.slice ja l.length jc) l ∧ Below w.heap.size w w') :=
        (join_any _ _ [] l w (ReadsV.nil _) hr (by simp; omega)).mono fun e w' ⟨v', he, ho, h2⟩ => by
          have hr : ReadsF fp w' v' l := ReadsF.of_own ho hfp
          obtain ⟨ja, jc, rfl, _⟩ := id hr.1
          exact ⟨ja, jc, he, hr, h2⟩
      have HP : Hid (∀ w1 v1, Below w.heap.size w w1 → ReadsF fp w1 v1 l → Calls Try.prog 36 #[v, .agg #[.string s, v1, .slice none 0 0]] w1 fun e w' => ∃ v', e = .returned v' ∧ FilesV fp w' v' (putL fs ⟨s, l, []⟩) ∧ Below w.heap.size w w') := fun w1 v1 hB hr =>
        (rput_any _ fs s v1 (.slice none 0 0) ⟨s, l, []⟩ w1 (h.below hB) hn rfl hr (ReadsF.nil _) (fun g hg => Nat.lt_of_lt_of_le (hfp g hg) hB.size)).mono fun e w' ⟨v', he, hF, h2⟩ => ⟨v', he, hF, hB.trans (h2.mono hB.size)⟩
      clear h hr hnm hl0
      generalize putL fs ⟨s, l, []⟩ = gs at *
      generalize hL : l.length = L at *
      have hL0 : ¬ (L : Int) = 0 := by omega
      have hL1 : ((L : Int) == 0) = false := by rw [beq_eq_false_iff_ne]; omega
      clear hL
      go_enter Try.func25, Try.ntmps25
      go_wp2_with (first
        | (go_at_call 36; have := H1; refine (HP.out _ _ H1.out.2 H1.out.1).mono ?_; rintro e w2 ⟨v2, rfl, hF, hB⟩; have H2 : Hid (FilesV fp w2 v2 gs ∧ Below w.heap.size w w2) := ⟨hF, hB⟩; clear hF hB)
        | (go_at_call 29; refine HJ.out.mono ?_; rintro e w1 ⟨ja, jc, rfl, hr, hB⟩; have H1 : Hid (ReadsF fp w1 (.slice ja L jc) l ∧ Below w.heap.size w w1) := ⟨hr, hB⟩; clear hr hB)
        | (go_at_call 35; refine HN.out.mono ?_; rintro e w1 ⟨rfl, hw⟩; have hw2 := hw.symm; clear hw; subst hw2))
      go_ret2
      exact ⟨_, rfl, H2.out⟩
  · have hnm' : nm s = false := by simpa using hnm
    rw [hnm'] at HN ⊢
    simp only [Bool.false_eq_true, if_false]
    clear h hr hnm hnm'
    go_enter Try.func25, Try.ntmps25
    go_wp2_with (go_at_call 35; refine HN.out.mono ?_; rintro e w1 ⟨rfl, hw⟩; have hw2 := hw.symm; clear hw; subst hw2)
    go_ret2
    exact ⟨_, rfl, HF.out, Below.refl _ _⟩

end Go.Proofs.Ytcmnjiichkcmgaa
