/-
  ExprOnce: the walk.
-/
import Derived.Test.YtlfeejjlcclbdaaDoorSameW
import Derived.Test.YtlfeejjlcclbdaaDoorNode
namespace Go.Proofs.YtlfeejjlcclbdaaDoor
open Go.RowKit
set_option linter.unusedVariables false

theorem printR_ex (t : Tr) : ∃ s x, PrintR t s x := by
  by_cases h1 : checkM 16 t = 0
  · by_cases h2 : (parseM (ba (textT t))).err = 0 ∧ (parseM (ba (textT t))).t = t
    · exact ⟨_, _, .inr (.inr ⟨h1, h2.1, h2.2, rfl, rfl⟩)⟩
    · exact ⟨_, _, .inr (.inl ⟨h1, by rcases Classical.em ((parseM (ba (textT t))).err = 0) with h | h; exact .inr fun e => h2 ⟨h, e⟩; exact .inl h, rfl, rfl⟩)⟩
  · exact ⟨_, _, .inl ⟨h1, rfl, rfl⟩⟩
theorem printR_uniq {t : Tr} {s s' : Bs} {x x' : Nat} (h : PrintR t s x) (h' : PrintR t s' x') : s' = s ∧ x' = x := by
  rcases h with ⟨a1, a2, a3⟩ | ⟨a1, a2, a3, a4⟩ | ⟨a1, a2, a3, a4, a5⟩ <;> rcases h' with ⟨b1, b2, b3⟩ | ⟨b1, b2, b3, b4⟩ | ⟨b1, b2, b3, b4, b5⟩
  · exact ⟨b2.trans a2.symm, b3.trans a3.symm⟩
  · exact absurd b1 a1
  · exact absurd b1 a1
  · exact absurd a1 b1
  · exact ⟨b3.trans a3.symm, b4.trans a4.symm⟩
  · rcases a2 with h | h
    · exact absurd b2 h
    · exact absurd b3 h
  · exact absurd a1 b1
  · rcases b2 with h | h
    · exact absurd a2 h
    · exact absurd a3 h
  · exact ⟨b4.trans a4.symm, b5.trans a5.symm⟩
/-- An error is never none. -/
def Errs (f : List W → Res) : Prop := ∀ ws e r, f ws = .error (e, r) → e ≠ 0
theorem loop_errs {sd : Nat → List W → Res} (hs : ∀ row, Errs (sd row)) (row : Nat) : ∀ (f last : Nat) (x : Tr) (ws : List W) (e : Nat) (r : List W), loopM sd row f last x ws = .error (e, r) → e ≠ 0
  | 0, _, _, _, e, r, h => by
    have : (Except.error (3, []) : Res) = .error (e, r) := h
    simp only [Except.error.injEq, Prod.mk.injEq] at this
    omega
  | f + 1, last, x, ws, e, r, h => by
    rw [loopM_succ] at h
    split at h
    · cases h
    · split at h
      · simp only [Except.error.injEq, Prod.mk.injEq] at h; omega
      · cases hq : sd (rowK (nextK ws) + 1) ws.tail with
        | error y => rw [hq] at h; obtain ⟨y, q⟩ := y; simp only [Except.error.injEq, Prod.mk.injEq] at h; rw [← h.1]; exact hs _ _ _ _ hq
        | ok y => rw [hq] at h; obtain ⟨y, q⟩ := y; exact loop_errs hs row f _ _ _ e r h
theorem pr_errs : ∀ d, Errs (operandM d) ∧ ∀ row, Errs (sdM d row)
  | 0 => ⟨fun ws e r h => by rw [operandM_zero] at h; simp only [Except.error.injEq, Prod.mk.injEq] at h; omega, fun row ws e r h => by rw [sdM_zero] at h; simp only [Except.error.injEq, Prod.mk.injEq] at h; omega⟩
  | d + 1 => by
    obtain ⟨h1, h2⟩ := pr_errs d
    have hw : ∀ k ws e r, wrapM k (operandM d ws) = .error (e, r) → e ≠ 0 := fun k ws e r h => by
      cases hq : operandM d ws with
      | error y => rw [hq] at h; obtain ⟨y, q⟩ := y; have h' : (Except.error (y, q) : Res) = .error (e, r) := h; simp only [Except.error.injEq, Prod.mk.injEq] at h'; rw [← h'.1]; exact h1 _ _ _ hq
      | ok y => rw [hq] at h; obtain ⟨y, q⟩ := y; cases h
    have ho : Errs (operandM (d + 1)) := fun ws e r h => by
      rw [operandM_succ] at h
      cases ws with
      | nil => have h' : (Except.error (3, []) : Res) = .error (e, r) := h; simp only [Except.error.injEq, Prod.mk.injEq] at h'; omega
      | cons x q =>
        rw [opM_cons] at h
        split at h
        · cases h
        · split at h
          · cases h
          · unfold aheadM at h
            split at h
            · exact hw _ _ _ _ h
            · split at h
              · exact hw _ _ _ _ h
              · split at h
                · cases hq : sdM d 1 (x :: q).tail with
                  | error y => rw [hq] at h; obtain ⟨y, q'⟩ := y; have h' : (Except.error (y, q') : Res) = .error (e, r) := h; simp only [Except.error.injEq, Prod.mk.injEq] at h'; rw [← h'.1]; exact h2 _ _ _ _ hq
                  | ok y =>
                    rw [hq] at h; obtain ⟨y, q'⟩ := y
                    cases q' with
                    | nil => have h' : (Except.error (3, []) : Res) = .error (e, r) := h; simp only [Except.error.injEq, Prod.mk.injEq] at h'; omega
                    | cons v q' =>
                      have h' : (if v.text = [41] then .ok (y, q') else .error (3, v :: q') : Res) = .error (e, r) := h
                      split at h'
                      · cases h'
                      · simp only [Except.error.injEq, Prod.mk.injEq] at h'; omega
                · simp only [Except.error.injEq, Prod.mk.injEq] at h; omega
    refine ⟨ho, fun row ws e r h => ?_⟩
    rw [sdM_succ] at h
    unfold sideM at h
    cases hq : operandM (d + 1) ws with
    | error y => rw [hq] at h; obtain ⟨y, q⟩ := y; simp only [Except.error.injEq, Prod.mk.injEq] at h; rw [← h.1]; exact ho _ _ _ hq
    | ok y => rw [hq] at h; obtain ⟨y, q⟩ := y; exact loop_errs h2 row _ _ _ _ e r h
theorem sd_err {d row : Nat} {ws r : List W} {e : Nat} (h : sdM d row ws = .error (e, r)) : e ≠ 0 := (pr_errs d).2 row ws e r h
/-- What is parsed may be; a fault lies in the text, and leaves no tree. -/
theorem atW_le {p : List W} {ws : List W} (en : Nat) (h : ∀ x ∈ p ++ ws, x.pos ≤ en) : atW en ws ≤ en := by
  cases ws with
  | nil => exact Nat.le_refl _
  | cons x r => exact h x (by simp)
theorem parseM_cases (s : ByteArray) : ((parseM s).err ≠ 0 ∧ (parseM s).t = zeroT ∧ (parseM s).pos ≤ s.size) ∨ ((parseM s).err = 0 ∧ checkM 16 (parseM s).t = 0) := by
  unfold parseM parseO
  by_cases he : (lexOut s).err ≠ 0
  · rw [if_pos he]
    refine .inl ⟨he, rfl, ?_⟩
    show (lexOut s).pos ≤ s.size
    unfold lexOut at he ⊢
    split
    · rename_i h
      rw [if_pos h] at he
      have := sp_posW s.data.toList 0 he
      rw [size_list] at this
      omega
    · exact Nat.zero_le _
  · rw [if_neg he]
    have hp : ∀ x ∈ (lexOut s).ws, x.pos ≤ s.size := by
      unfold lexOut
      split
      · intro x hx
        have := (sp_wd s.data.toList 0 x hx).2.2
        rw [size_list] at this
        omega
      · intro x hx; simp at hx
    generalize (lexOut s).ws = ws at *
    unfold treeM wholeM
    have hE := (pr_eats 16).2 1 ws
    cases hq : sdM 16 1 ws with
    | error x =>
      obtain ⟨x, r⟩ := x
      have hE2 : ∃ p, ws = p ++ r := by rw [hq] at hE; exact hE
      obtain ⟨p, rfl⟩ := hE2
      exact .inl ⟨sd_err hq, rfl, atW_le s.size hp⟩
    | ok x =>
      obtain ⟨x, r⟩ := x
      have hE2 : ∃ p, ws = p ++ r := by rw [hq] at hE; exact hE.1
      obtain ⟨p, rfl⟩ := hE2
      cases r with
      | nil =>
        by_cases hc : checkM 16 x = 0
        · exact .inr (by show (if checkM 16 x ≠ 0 then (⟨zeroT, checkM 16 x, 0⟩ : Pd) else ⟨x, 0, 0⟩).err = 0 ∧ checkM 16 (if checkM 16 x ≠ 0 then (⟨zeroT, checkM 16 x, 0⟩ : Pd) else ⟨x, 0, 0⟩).t = 0; rw [if_neg (fun h => h hc)]; exact ⟨rfl, hc⟩)
        · exact .inl (by show (if checkM 16 x ≠ 0 then (⟨zeroT, checkM 16 x, 0⟩ : Pd) else ⟨x, 0, 0⟩).err ≠ 0 ∧ (if checkM 16 x ≠ 0 then (⟨zeroT, checkM 16 x, 0⟩ : Pd) else ⟨x, 0, 0⟩).t = zeroT ∧ (if checkM 16 x ≠ 0 then (⟨zeroT, checkM 16 x, 0⟩ : Pd) else ⟨x, 0, 0⟩).pos ≤ s.size; rw [if_pos hc]; exact ⟨hc, rfl, Nat.zero_le _⟩)
      | cons v r => exact .inl ⟨(by show (3 : Nat) ≠ 0; decide), rfl, atW_le s.size hp⟩

theorem lit_small {t : Tr} {s : Bs} (h : PrintR t s 0) : (ba s).size ≤ 9223372036854775807 := by
  obtain ⟨_, _, h3, _⟩ := printR_zero h
  by_cases hs : (ba s).size ≤ 4096
  · omega
  · exfalso
    have : (parseM (ba s)).err = 6 := by
      unfold parseM parseO lexOut
      rw [if_neg hs]
      rfl
    omega
theorem two_cell2 {w1 w2 : World} {o : Obj} {x y : Value} (HB : Below ((w1.alloc o).alloc (.cells #[x, y] 28)).heap.size ((w1.alloc o).alloc (.cells #[x, y] 28)) w2) : w2.cell? ⟨w1.heap.size + 1, 1, none⟩ = some y := by
  have k := heap_alloc_new (w1.alloc o) (.cells #[x, y] 28)
  rw [size_alloc] at k
  have h : ((w1.alloc o).alloc (.cells #[x, y] 28)).cell? ⟨w1.heap.size + 1, 1, none⟩ = some y := by rw [cell_of_row _ _ _ _ 28 (0, 0) k]; rfl
  exact (HB.cell (p := ⟨w1.heap.size + 1, 1, none⟩) (World.block_lt_of_cell? _ _ h)).trans h
set_option maxRecDepth 100000 in
set_option maxHeartbeats 1000000 in
theorem once_long (s : ByteArray) (hm : s.size ≤ maxLen) (hs : 1500 < s.size) (w : World) (HD : Hid (Ready w)) : Calls Tryd.prog 6 #[.string s] w fun e w' => e = .returned (.bool true) ∧ Below w.heap.size w w' := by
  have C8 : Hid (∀ w, Ready w → Calls Tryd.prog 8 #[] w fun e w' => e = .returned (.bool true) ∧ Below w.heap.size w w') := fun w h => works_any w h
  have hm2 : s.size ≤ 9223372036854775807 := hm
  go_enter Tryd.func6, Tryd.ntmps6
  go_wp2_with (go_at_call 8; refine (C8.out _ HD.out).mono ?_; rintro e w1 ⟨rfl, HB⟩)
  go_ret
  exact ⟨rfl, HB⟩
set_option maxRecDepth 100000 in
set_option maxHeartbeats 1000000 in
theorem once_fault (s : ByteArray) (hs : s.size ≤ 1500) (x p : Nat) (hx : x ≠ 0) (hp : p ≤ s.size) (w : World) (HD : Hid (Ready w))
    (C9 : Hid (∀ w, Ready w → Calls Tryd.prog 9 #[.string s] w (PPost w ⟨zeroT, x, p⟩))) : Calls Tryd.prog 6 #[.string s] w fun e w' => e = .returned (.bool true) ∧ Below w.heap.size w w' := by
  have C8 : Hid (∀ w, Ready w → Calls Tryd.prog 8 #[] w fun e w' => e = .returned (.bool true) ∧ Below w.heap.size w w') := fun w h => works_any w h
  have C11 : Hid (∀ w v P, Tre w P v zeroT → Calls Tryd.prog 11 #[v, .agg #[.int .i64 0, .int .i64 0, .string ⟨#[]⟩, .slice none 0 0]] w fun e w' => e = .returned (.bool true) ∧ Below w.heap.size w w') := fun w v P h => (rsame_any zeroT P (fun _ => True) zeroT _ _ w h (Tre.leaf w _ inR_zero inR_zero [] (Nat.zero_le _))).mono fun e w' h => ⟨h.1.of_yes rfl, h.2⟩
  have hx2 : ((x : Int) != 0) = true := by simp; omega
  have hs2 : ¬ (1500 : Int) < (s.size : Int) := by omega
  have hp2 : (p : Int) ≤ (s.size : Int) := by omega
  go_enter Tryd.func6, Tryd.ntmps6
  go_wp2_with (first
    | (go_at_call 8; have := D2; refine (C8.out _ D2.out.1).mono ?_; rintro e w4 ⟨rfl, HB⟩; have HF : Hid (Below w.heap.size w w4) := D2.out.2.trans (HB.mono D2.out.2.size); clear HB D2)
    | (go_at_call 11; have := D1; refine (C11.out _ _ _ ((D1.out.2.2.alloc _).alloc _)).mono ?_; rintro e w3 ⟨rfl, HB⟩; have D2 : Hid (Ready w3 ∧ Below w.heap.size w w3) := ⟨((D1.out.1.alloc _).alloc _).below HB, ((D1.out.2.1.alloc D1.out.2.1.size _).alloc (Nat.le_trans D1.out.2.1.size (le_alloc _ _)) _).trans (HB.mono (Nat.le_trans D1.out.2.1.size (Nat.le_trans (le_alloc _ _) (le_alloc _ _))))⟩; have z1 := two_cell2 HB; clear HB D1)
    | (go_at_call 9; refine (C9.out _ HD.out).mono ?_; rintro e w1 ⟨⟨tk, tn, ts, ta, tl, tc, rfl, hT⟩, HB⟩; have D1 : Hid (Ready w1 ∧ Below w.heap.size w w1 ∧ Tre w1 (fun g => w.heap.size ≤ g) (.agg #[.int .i64 tk, .int .i64 tn, .string ts, .slice ta tl tc]) zeroT) := ⟨HD.out.below HB, HB, hT⟩; clear HB hT))
  go_ret
  exact ⟨rfl, HF.out⟩
set_option maxRecDepth 100000 in
set_option maxHeartbeats 1000000 in
theorem once_none (s : ByteArray) (hs : s.size ≤ 1500) (t : Tr) (p : Nat) (hc : checkM 16 t = 0) (HPR : Hid (PrintR t [] 6)) (w : World) (HD : Hid (Ready w))
    (C9 : Hid (∀ w, Ready w → Calls Tryd.prog 9 #[.string s] w (PPost w ⟨t, 0, p⟩))) : Calls Tryd.prog 6 #[.string s] w fun e w' => e = .returned (.bool true) ∧ Below w.heap.size w w' := by
  have C8 : Hid (∀ w, Ready w → Calls Tryd.prog 8 #[] w fun e w' => e = .returned (.bool true) ∧ Below w.heap.size w w') := fun w h => works_any w h
  have C14 : Hid (∀ w v P, Ready w → Tre w P v t → Calls Tryd.prog 14 #[v] w fun e w' => e = .returned (.tuple #[.string ⟨#[]⟩, .int .i64 6]) ∧ Below w.heap.size w w') := fun w v P hr hT => (print_any P t _ w hT hr).mono fun e w' h => by
    obtain ⟨⟨s', x', he, hp⟩, hB⟩ := h
    obtain ⟨rfl, rfl⟩ := printR_uniq HPR.out hp
    exact ⟨he, hB⟩
  have C15 : Hid (∀ k n s a l c w P, Tre w P (.agg #[.int .i64 k, .int .i64 n, .string s, .slice a l c]) t → Calls Tryd.prog 15 #[.agg #[.int .i64 k, .int .i64 n, .string s, .slice a l c]] w fun e w' => e = .returned (.int .i64 0) ∧ Below w.heap.size w w') := fun k n s a l c w P h => by
    have := RCheck_any P t k n s a l c w h
    rw [hc] at this
    exact this
  have hs2 : ¬ (1500 : Int) < (s.size : Int) := by omega
  clear HPR hc
  go_enter Tryd.func6, Tryd.ntmps6
  go_wp2_with (first
    | (go_at_call 8; have := D3; refine (C8.out _ D3.out.1).mono ?_; rintro e w4 ⟨rfl, HB⟩; have HF : Hid (Below w.heap.size w w4) := D3.out.2.trans (HB.mono D3.out.2.size); clear HB D3)
    | (go_at_call 15; have := D2; refine (C15.out _ _ _ _ _ _ _ _ D2.out.2.2).mono ?_; rintro e w3 ⟨rfl, HB⟩; have D3 : Hid (Ready w3 ∧ Below w.heap.size w w3) := ⟨D2.out.1.below HB, D2.out.2.1.trans (HB.mono D2.out.2.1.size)⟩; clear HB D2)
    | (go_at_call 14; have := D1; refine (C14.out _ _ _ ((D1.out.1.alloc _).alloc _) ((D1.out.2.2.alloc _).alloc _)).mono ?_; rintro e w2 ⟨rfl, HB⟩; have D2 : Hid (Ready w2 ∧ Below w.heap.size w w2 ∧ Tre w2 (fun g => w.heap.size ≤ g) (.agg #[.int .i64 tk, .int .i64 tn, .string ts, .slice ta tl tc]) t) := ⟨((D1.out.1.alloc _).alloc _).below HB, ((D1.out.2.1.alloc D1.out.2.1.size _).alloc (Nat.le_trans D1.out.2.1.size (le_alloc _ _)) _).trans (HB.mono (Nat.le_trans D1.out.2.1.size (Nat.le_trans (le_alloc _ _) (le_alloc _ _)))), ((D1.out.2.2.alloc _).alloc _).below HB⟩; obtain ⟨p0, p1, p2, p3, p4⟩ := ((Cell4.new w1 (.int .i64 tk) (.int .i64 tn) (.string ts) (.slice ta tl tc) 25).alloc _).below HB; clear HB D1)
    | (go_at_call 9; refine (C9.out _ HD.out).mono ?_; rintro e w1 ⟨⟨tk, tn, ts, ta, tl, tc, rfl, hT⟩, HB⟩; have D1 : Hid (Ready w1 ∧ Below w.heap.size w w1 ∧ Tre w1 (fun g => w.heap.size ≤ g) (.agg #[.int .i64 tk, .int .i64 tn, .string ts, .slice ta tl tc]) t) := ⟨HD.out.below HB, HB, hT⟩; clear HB hT))
  go_ret
  exact ⟨rfl, HF.out⟩
set_option maxRecDepth 100000 in
set_option maxHeartbeats 1600000 in
theorem once_good (s ss : ByteArray) (hs : s.size ≤ 1500) (t : Tr) (p q : Nat) (hc : checkM 16 t = 0) (w : World) (HD : Hid (Ready w))
    (C9 : Hid (∀ w, Ready w → Calls Tryd.prog 9 #[.string s] w (PPost w ⟨t, 0, p⟩))) (C9b : Hid (∀ w, Ready w → Calls Tryd.prog 9 #[.string ss] w (PPost w ⟨t, 0, q⟩)))
    (C14 : Hid (∀ w v P, Ready w → Tre w P v t → Calls Tryd.prog 14 #[v] w fun e w' => e = .returned (.tuple #[.string ss, .int .i64 0]) ∧ Below w.heap.size w w')) : Calls Tryd.prog 6 #[.string s] w fun e w' => e = .returned (.bool true) ∧ Below w.heap.size w w' := by
  have C8 : Hid (∀ w, Ready w → Calls Tryd.prog 8 #[] w fun e w' => e = .returned (.bool true) ∧ Below w.heap.size w w') := fun w h => works_any w h
  have C15 : Hid (∀ k n s a l c w P, Tre w P (.agg #[.int .i64 k, .int .i64 n, .string s, .slice a l c]) t → Calls Tryd.prog 15 #[.agg #[.int .i64 k, .int .i64 n, .string s, .slice a l c]] w fun e w' => e = .returned (.int .i64 0) ∧ Below w.heap.size w w') := fun k n s a l c w P h => by
    have := RCheck_any P t k n s a l c w h
    rw [hc] at this
    exact this
  have C11 : Hid (∀ v u w P Q, Tre w P v t → Tre w Q u t → Calls Tryd.prog 11 #[v, u] w fun e w' => e = .returned (.bool true) ∧ Below w.heap.size w w') := fun v u w P Q h1 h2 => (rsame_any t P Q t _ _ w h1 h2).mono fun e w' h => ⟨h.1.of_yes rfl, h.2⟩
  have hs2 : ¬ (1500 : Int) < (s.size : Int) := by omega
  clear hc
  go_enter Tryd.func6, Tryd.ntmps6
  go_wp2_with (first
    | (go_at_call 8; have := D6; refine (C8.out _ D6.out.1).mono ?_; rintro e w9 ⟨rfl, HB⟩; have HF : Hid (Below w.heap.size w w9) := D6.out.2.trans (HB.mono D6.out.2.size); clear HB D6)
    | (go_at_call 11; have := D5; refine (C11.out _ _ _ _ _ D5.out.2.2.1 D5.out.2.2.2).mono ?_; rintro e w8 ⟨rfl, HB⟩; have D6 : Hid (Ready w8 ∧ Below w.heap.size w w8) := ⟨D5.out.1.below HB, D5.out.2.1.trans (HB.mono D5.out.2.1.size)⟩; clear HB D5)
    | (go_at_call 15; have := D4; refine (C15.out _ _ _ _ _ _ _ _ D4.out.2.2.1).mono ?_; rintro e w7 ⟨rfl, HB⟩; have D5 : Hid (Ready w7 ∧ Below w.heap.size w w7 ∧ Tre w7 (fun g => w.heap.size ≤ g) (.agg #[.int .i64 tk, .int .i64 tn, .string ts, .slice ta tl tc]) t ∧ Tre w7 (fun g => w2.heap.size ≤ g) (.agg #[.int .i64 yk, .int .i64 yn, .string ys, .slice ya yl yc]) t) := ⟨D4.out.1.below HB, D4.out.2.1.trans (HB.mono D4.out.2.1.size), D4.out.2.2.1.below HB, D4.out.2.2.2.1.below HB⟩; obtain ⟨p0, p1, p2, p3, p4⟩ := D4.out.2.2.2.2.1.below HB; obtain ⟨q0, q1, q2, q3, q4⟩ := D4.out.2.2.2.2.2.1.below HB; have z0 : w7.cell? ⟨w5.heap.size + 1, 0, none⟩ = some (.int .i64 0) := (HB.cell (p := ⟨w5.heap.size + 1, 0, none⟩) (World.block_lt_of_cell? _ _ D4.out.2.2.2.2.2.2)).trans D4.out.2.2.2.2.2.2; clear HB D4)
    | (go_at_call 14; have := D3; refine (C14.out _ _ _ ((D3.out.1.alloc _).alloc _) ((D3.out.2.2.2.1.alloc _).alloc _)).mono ?_; rintro e w6 ⟨rfl, HB⟩; have D4 : Hid (Ready w6 ∧ Below w.heap.size w w6 ∧ Tre w6 (fun g => w.heap.size ≤ g) (.agg #[.int .i64 tk, .int .i64 tn, .string ts, .slice ta tl tc]) t ∧ Tre w6 (fun g => w2.heap.size ≤ g) (.agg #[.int .i64 yk, .int .i64 yn, .string ys, .slice ya yl yc]) t ∧ Cell4 w6 w1.heap.size (.int .i64 tk) (.int .i64 tn) (.string ts) (.slice ta tl tc) ∧ Cell4 w6 w5.heap.size (.int .i64 yk) (.int .i64 yn) (.string ys) (.slice ya yl yc) ∧ w6.cell? ⟨w5.heap.size + 1, 0, none⟩ = some (.int .i64 0)) := ⟨((D3.out.1.alloc _).alloc _).below HB, ((D3.out.2.1.alloc D3.out.2.1.size _).alloc (Nat.le_trans D3.out.2.1.size (le_alloc _ _)) _).trans (HB.mono (Nat.le_trans D3.out.2.1.size (Nat.le_trans (le_alloc _ _) (le_alloc _ _)))), ((D3.out.2.2.1.alloc _).alloc _).below HB, ((D3.out.2.2.2.1.alloc _).alloc _).below HB, ((D3.out.2.2.2.2.alloc _).alloc _).below HB, ((Cell4.new w5 _ _ _ _ 25).alloc _).below HB, two_cell HB⟩; obtain ⟨p0, p1, p2, p3, p4⟩ := D4.out.2.2.2.2.1; clear HB D3)
    | (go_at_call 9; have := D2; refine (C9b.out _ D2.out.1).mono ?_; rintro e w5 ⟨⟨yk, yn, ys, ya, yl, yc, rfl, hT⟩, HB⟩; have D3 : Hid (Ready w5 ∧ Below w.heap.size w w5 ∧ Tre w5 (fun g => w.heap.size ≤ g) (.agg #[.int .i64 tk, .int .i64 tn, .string ts, .slice ta tl tc]) t ∧ Tre w5 (fun g => w2.heap.size ≤ g) (.agg #[.int .i64 yk, .int .i64 yn, .string ys, .slice ya yl yc]) t ∧ Cell4 w5 w1.heap.size (.int .i64 tk) (.int .i64 tn) (.string ts) (.slice ta tl tc)) := ⟨D2.out.1.below HB, D2.out.2.1.trans (HB.mono D2.out.2.1.size), D2.out.2.2.1.below HB, hT, D2.out.2.2.2.below HB⟩; clear HB hT D2)
    | (go_at_call 14; have := D1; refine (C14.out _ _ _ ((D1.out.1.alloc _).alloc _) ((D1.out.2.2.alloc _).alloc _)).mono ?_; rintro e w2 ⟨rfl, HB⟩; have D2 : Hid (Ready w2 ∧ Below w.heap.size w w2 ∧ Tre w2 (fun g => w.heap.size ≤ g) (.agg #[.int .i64 tk, .int .i64 tn, .string ts, .slice ta tl tc]) t ∧ Cell4 w2 w1.heap.size (.int .i64 tk) (.int .i64 tn) (.string ts) (.slice ta tl tc)) := ⟨((D1.out.1.alloc _).alloc _).below HB, ((D1.out.2.1.alloc D1.out.2.1.size _).alloc (Nat.le_trans D1.out.2.1.size (le_alloc _ _)) _).trans (HB.mono (Nat.le_trans D1.out.2.1.size (Nat.le_trans (le_alloc _ _) (le_alloc _ _)))), ((D1.out.2.2.alloc _).alloc _).below HB, ((Cell4.new w1 _ _ _ _ 25).alloc _).below HB⟩; clear HB D1)
    | (go_at_call 9; refine (C9.out _ HD.out).mono ?_; rintro e w1 ⟨⟨tk, tn, ts, ta, tl, tc, rfl, hT⟩, HB⟩; have D1 : Hid (Ready w1 ∧ Below w.heap.size w w1 ∧ Tre w1 (fun g => w.heap.size ≤ g) (.agg #[.int .i64 tk, .int .i64 tn, .string ts, .slice ta tl tc]) t) := ⟨HD.out.below HB, HB, hT⟩; clear HB hT HD))
  go_ret
  exact ⟨rfl, HF.out⟩
theorem once_walk (s : ByteArray) (w : World) (hm : s.size ≤ maxLen) (hw : Ready w) : Calls Tryd.prog 6 #[.string s] w fun e w' => e = .returned (.bool true) ∧ Below w.heap.size w w' := by
  by_cases hs : 1500 < s.size
  · exact once_long s hm hs w hw
  · have C9 : ∀ w, Ready w → Calls Tryd.prog 9 #[.string s] w (PPost w (parseM s)) := fun w h => parse_any s hm w h.held
    rcases parseM_cases s with ⟨h1, h2, h3⟩ | ⟨h1, h2⟩
    · have e : parseM s = ⟨zeroT, (parseM s).err, (parseM s).pos⟩ := by rw [← h2]
      rw [e] at C9
      exact once_fault s (by omega) _ _ h1 h3 w hw C9
    · have e : parseM s = ⟨(parseM s).t, 0, (parseM s).pos⟩ := by rw [← h1]
      rw [e] at C9
      generalize (parseM s).t = t at *
      obtain ⟨sx, x, hpr⟩ := printR_ex t
      by_cases hx : x = 0
      · subst hx
        obtain ⟨_, a2, a3, a4⟩ := printR_zero hpr
        have e2 : parseM (ba sx) = ⟨t, 0, (parseM (ba sx)).pos⟩ := by rw [← a3, ← a4]
        have C9b : ∀ w, Ready w → Calls Tryd.prog 9 #[.string (ba sx)] w (PPost w (parseM (ba sx))) := fun w h => parse_any (ba sx) (lit_small hpr) w h.held
        rw [e2] at C9b
        exact once_good s (ba sx) (by omega) t _ _ h2 w hw C9 C9b fun w v P hr hT => (print_any P t _ w hT hr).mono fun e w' h => by
          obtain ⟨⟨s', x', he, hp⟩, hB⟩ := h
          obtain ⟨rfl, rfl⟩ := printR_uniq hpr hp
          exact ⟨he, hB⟩
      · rcases hpr with ⟨b1, _⟩ | ⟨b1, b2, b3, b4⟩ | ⟨_, _, _, _, b5⟩
        · exact absurd h2 b1
        · subst b3; subst b4
          exact once_none s (by omega) t _ h2 (.inr (.inl ⟨b1, b2, rfl, rfl⟩)) w hw C9
        · exact absurd b5 hx
end Go.Proofs.YtlfeejjlcclbdaaDoor
