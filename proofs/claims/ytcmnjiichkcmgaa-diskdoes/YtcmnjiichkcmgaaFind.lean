/-
  The document's Find, join, Read, without: contracts.
-/
import Derived.Test.YtcmnjiichkcmgaaFiles
namespace Go.Proofs.Ytcmnjiichkcmgaa
open Go.RowKit Go.Maps Go.Sort
set_option linter.unusedVariables false
variable {fp : Nat → Prop}

/-- Where a name stands from place i on. -/
def findFrom (s : ByteArray) : List Fl → Nat → Option Nat
  | [], _ => none
  | f :: r, i => if f.name = s then some i else findFrom s r (i + 1)
def find (fs : List Fl) (s : ByteArray) : Option Nat := findFrom s fs 0
def findV (o : Option Nat) : Int := match o with | some i => (i : Int) | none => -1
theorem findFrom_ge {s : ByteArray} : ∀ {fs : List Fl} {i k : Nat}, findFrom s fs i = some k → i ≤ k ∧ k < i + fs.length ∧ (fs.getD (k - i) noFl).name = s
  | [], i, k, h => by simp [findFrom] at h
  | f :: r, i, k, h => by
    unfold findFrom at h
    by_cases e : f.name = s
    · rw [if_pos e] at h
      simp at h
      subst h
      refine ⟨Nat.le_refl _, by simp, ?_⟩
      simp [e]
    · rw [if_neg e] at h
      obtain ⟨h1, h2, h3⟩ := findFrom_ge h
      refine ⟨by omega, by simp; omega, ?_⟩
      rw [show k - i = (k - (i + 1)) + 1 by omega]
      simpa using h3
theorem find_some {fs : List Fl} {s : ByteArray} {k : Nat} (h : find fs s = some k) : k < fs.length ∧ (fs.getD k noFl).name = s := by
  obtain ⟨_, h2, h3⟩ := findFrom_ge h
  exact ⟨by omega, by simpa using h3⟩
theorem findFrom_none {s : ByteArray} : ∀ {fs : List Fl} {i : Nat}, findFrom s fs i = none → ∀ f ∈ fs, f.name ≠ s
  | [], _, _ => by simp
  | f :: r, i, h => by
    unfold findFrom at h
    by_cases e : f.name = s
    · rw [if_pos e] at h; cases h
    · rw [if_neg e] at h
      intro g hg
      rcases List.mem_cons.1 hg with rfl | hg
      · exact e
      · exact findFrom_none h g hg
theorem findFrom_drop {s : ByteArray} {fs : List Fl} {k : Nat} (h : k < fs.length) : findFrom s (fs.drop k) k = if (fs.getD k noFl).name = s then some k else findFrom s (fs.drop (k + 1)) (k + 1) := by
  rw [List.drop_eq_getElem_cons h]
  simp [findFrom, h]

theorem name_beq (s t : ByteArray) : (s.toList == t.toList) = decide (s = t) := by
  by_cases e : s = t
  · subst e; simp
  · rw [name_ne e, decide_eq_false e]

set_option maxRecDepth 100000 in
set_option maxHeartbeats 400000 in
theorem find_walk (b off n c : Nat) (fs : List Fl) (s : ByteArray) (w : World) (HF : Hid (FilesV fp w (.slice (some ⟨b, off, none⟩) n c) fs)) (hn : n ≤ 100000000) :
    Calls Try.prog 28 #[.slice (some ⟨b, off, none⟩) n c, .string s] w fun e w' => e = .returned (.int .i64 (findV (find fs s))) ∧ w' = w := by
  go_enter Try.func28, Try.ntmps28
  go_wp2
  go_loop [5] (fun i => ∃ k : Nat, k ≤ n ∧ i = .int .i64 k ∧ Hid (find fs s = findFrom s (fs.drop k) k)) (fun i => n - (intOf i).toNat)
  case atStart => exact ⟨0, Nat.zero_le _, rfl, rfl⟩
  case round =>
    obtain ⟨k, hk, rfl, HK⟩ := hrel
    by_cases hlt : k < n
    · obtain ⟨b', off', e, hc⟩ := HF.out.cells (by omega)
      cases e
      have hc0 := (hc k hlt).c0
      clear hc
      have HD : Hid (find fs s = if (fs.getD k noFl).name = s then some k else findFrom s (fs.drop (k + 1)) (k + 1)) := by
        have := HK.out
        rw [findFrom_drop (by rw [HF.out.len]; exact hlt)] at this
        exact this
      have hb := name_beq (fs.getD k noFl).name s
      by_cases e : (fs.getD k noFl).name = s
      · have HE : Hid (find fs s = some k) := by have := HD.out; rw [if_pos e] at this; exact this
        rw [decide_eq_true e] at hb
        generalize (fs.getD k noFl).name = t at *
        clear HD e
        go_wp2
        go_ret
        exact ⟨by rw [HE.out]; rfl, rfl⟩
      · have HE : Hid (find fs s = findFrom s (fs.drop (k + 1)) (k + 1)) := by have := HD.out; rw [if_neg e] at this; exact this
        rw [decide_eq_false e] at hb
        generalize (fs.getD k noFl).name = t at *
        clear HD e
        go_wp2
        go_round
        case rel => exact ⟨k + 1, by omega, by go_num, HE.out⟩
        case measure => simp [intOf]; omega
    · have HE : Hid (find fs s = none) := by
        have := HK.out
        rw [List.drop_of_length_le (by rw [HF.out.len]; omega)] at this
        exact this
      have hlt' : ¬ (k : Int) < (n : Int) := by omega
      go_wp2
      go_ret
      exact ⟨by rw [HE.out]; rfl, rfl⟩
set_option maxRecDepth 100000 in
theorem find_empty (a : Option Addr) (c : Nat) (s : ByteArray) (w : World) : Calls Try.prog 28 #[.slice a 0 c, .string s] w fun e w' => e = .returned (.int .i64 (-1)) ∧ w' = w := by
  go_enter Try.func28, Try.ntmps28
  go_wp2
  refine wp_loop_rounds 1 ?_
  rw [rounds_succ]
  go_wp2
  go_ret
  exact ⟨rfl, rfl⟩
theorem find_any (v : Value) (fs : List Fl) (s : ByteArray) (w : World) (h : FilesV fp w v fs) (hn : fs.length ≤ 100000000) : Calls Try.prog 28 #[v, .string s] w fun e w' => e = .returned (.int .i64 (findV (find fs s))) ∧ w' = w := by
  obtain ⟨a, c, rfl, h3, _⟩ := id h
  by_cases hp : 0 < fs.length
  · obtain ⟨b, off, rfl, _⟩ := h.cells hp
    exact find_walk b off fs.length c fs s w h hn
  · have e : fs = [] := List.length_eq_zero_iff.1 (by omega)
    subst e
    exact find_empty a c s w

set_option maxRecDepth 100000 in
set_option maxHeartbeats 400000 in
theorem join_any (v u : Value) (l m : Row) (w : World) (hr : ReadsV w v l) (hq : ReadsV w u m) (hb : l.length + m.length ≤ 140737488355328) :
    Calls Try.prog 29 #[v, u] w fun e w' => ∃ v', e = .returned v' ∧ Owns w' w.heap.size v' (l ++ m) ∧ Below w.heap.size w w' := by
  have HR : Hid (ReadsV w v l ∧ ReadsV w u m ∧ l.length + m.length ≤ 140737488355328 ∧ ([] : Row).length + l.length ≤ 140737488355328) := ⟨hr, hq, hb, by show 0 + l.length ≤ _; omega⟩
  clear hr hq hb
  go_enter Try.func29, Try.ntmps29
  go_wp2_with (first
    | (at_builtin; have := H1; refine wpList_append_bytes rfl (.tmp 9) (.tmp 10) 30 rfl w.heap.size Try.underlying30 Try.info5 _ l rfl H1.out.1 _ m rfl (HR.out.2.1.below H1.out.2) HR.out.2.2.1 H1.out.2.size ?_; intro v2 w2 hown hB; have H2 : Hid (Owns w2 w.heap.size v2 (l ++ m) ∧ Below w.heap.size w w2) := ⟨hown, H1.out.2.trans hB⟩; clear hown hB H1)
    | (at_builtin; refine wpList_append_bytes rfl (.tmp 6) (.tmp 7) 30 rfl w.heap.size Try.underlying30 Try.info5 _ [] rfl (Owns.nil _ _) _ l rfl HR.out.1 HR.out.2.2.2 (Nat.le_refl _) ?_; intro v1 w1 hown hB; have H1 : Hid (Owns w1 w.heap.size v1 l ∧ Below w.heap.size w w1) := ⟨hown, hB⟩; clear hown hB))
  go_ret
  exact ⟨_, rfl, H2.out⟩

/-- A file's bytes, as the document reads them. -/
def bytesL (fs : List Fl) (s : ByteArray) : Row := match find fs s with | some k => (fs.getD k noFl).firm ++ (fs.getD k noFl).loose | none => []
set_option maxRecDepth 100000 in
set_option maxHeartbeats 400000 in
theorem rread_any (v : Value) (fs : List Fl) (s : ByteArray) (w : World) (h : FilesV fp w v fs) (hn : fs.length ≤ 100000000) (hb : ∀ i, i < fs.length → (fs.getD i noFl).firm.length + (fs.getD i noFl).loose.length ≤ 140737488355328) :
    Calls Try.prog 16 #[v, .string s] w fun e w' => ∃ v', e = .returned v' ∧ ReadsV w' v' (bytesL fs s) ∧ Below w.heap.size w w' := by
  obtain ⟨a, c, rfl, h3, _⟩ := id h
  have HFi : Hid (Calls Try.prog 28 #[.slice a fs.length c, .string s] w fun e w' => e = .returned (.int .i64 (findV (find fs s))) ∧ w' = w) := find_any _ fs s w h hn
  cases hf : find fs s with
  | none =>
    have hR : bytesL fs s = [] := by unfold bytesL; rw [hf]
    rw [hR]
    clear hR
    rw [hf] at HFi
    have e1 : findV none = -1 := rfl
    rw [e1] at HFi
    clear h h3 hf e1
    go_enter Try.func16, Try.ntmps16
    go_wp2_with (go_at_call 28; refine HFi.out.mono ?_; rintro e w1 ⟨rfl, hw⟩; have hw2 := hw.symm; clear hw; subst hw2)
    go_ret
    exact ⟨_, rfl, ReadsV.nil _, Below.refl _ _⟩
  | some k =>
    have hR : bytesL fs s = (fs.getD k noFl).firm ++ (fs.getD k noFl).loose := by unfold bytesL; rw [hf]
    rw [hR]
    clear hR
    rw [hf] at HFi
    have e1 : findV (some k) = (k : Int) := rfl
    rw [e1] at HFi
    obtain ⟨hk, _⟩ := find_some hf
    obtain ⟨b, off, rfl, hc⟩ := h.cells (by omega)
    obtain ⟨_, fa, fc, la, lc, c1, c2, r1, r2⟩ := hc k hk
    have HJ : Hid (∀ w1, Below w.heap.size w w1 → Calls Try.prog 29 #[.slice fa (fs.getD k noFl).firm.length fc, .slice la (fs.getD k noFl).loose.length lc] w1 fun e w' => ∃ v', e = .returned v' ∧ ReadsV w' v' ((fs.getD k noFl).firm ++ (fs.getD k noFl).loose) ∧ Below w.heap.size w w') := fun w1 hB =>
      (join_any _ _ _ _ w1 (r1.1.below hB) (r2.1.below hB) (hb k hk)).mono fun e w' ⟨v', he, ho, h2⟩ => ⟨v', he, ReadsV.of_own ho, hB.trans (h2.mono hB.size)⟩
    have hlt : b < w.heap.size := World.block_lt_of_cell? w _ c1
    have HX : Hid (∀ w1, Below w.heap.size w w1 → w1.cell? ⟨b, off + k * 3 + 1, none⟩ = some (.slice fa (fs.getD k noFl).firm.length fc) ∧ w1.cell? ⟨b, off + k * 3 + 2, none⟩ = some (.slice la (fs.getD k noFl).loose.length lc)) := fun w1 hB => ⟨(hB.cell (p := ⟨b, off + k * 3 + 1, none⟩) hlt).trans c1, (hB.cell (p := ⟨b, off + k * 3 + 2, none⟩) hlt).trans c2⟩
    clear h hf hc r1 r2 hb e1
    generalize (fs.getD k noFl).firm ++ (fs.getD k noFl).loose = R at *
    generalize (fs.getD k noFl).firm.length = fl at *
    generalize (fs.getD k noFl).loose.length = ll at *
    generalize fs.length = n at *
    have i1 : (k : Int) < (n : Int) := by omega
    go_enter Try.func16, Try.ntmps16
    go_wp2_with (go_at_call 28; refine HFi.out.mono ?_; rintro e w1 ⟨rfl, hw⟩; have hw2 := hw.symm; clear hw; subst hw2)
    go_region_held3 (fun w' => w'.cell? ⟨b, off + k * 3 + 1, none⟩ = some (.slice fa fl fc) ∧ w'.cell? ⟨b, off + k * 3 + 2, none⟩ = some (.slice la ll lc)) (go_keep) (first
      | (go_at_call 29; refine (HJ.out _ (Below.refl _ _).drew).mono ?_; rintro e w1 ⟨v1, rfl, hr, hB⟩; obtain ⟨f1, f2⟩ := HX.out _ hB; have H1 : Hid (ReadsV w1 v1 R ∧ Below w.heap.size w w1) := ⟨hr, hB⟩; clear hr hB))
    all_goals go_wp2
    all_goals go_ret
    all_goals exact ⟨_, rfl, H1.out⟩

end Go.Proofs.Ytcmnjiichkcmgaa
