/-
  What begins with a sign: contracts.
-/
import Derived.Test.YtlfeejjlcclbdaaGreatDoorOper
namespace Go.Proofs.YtlfeejjlcclbdaaGreatDoor
open Go.RowKit
set_option linter.unusedVariables false


theorem size_set (w : World) (p : Addr) (v : Value) : (w.setCell p v).heap.size = w.heap.size := by simp
/-- The result's four cells are set, and a row of one kid is made. -/
theorem post_node1 {rb en : Nat} {w w2 : World} {t : Tr} {r : List W} {v0 v1 v2 v3 : Value} {k : Int} (hk : InR k) (h : Tre w2 (fun g => w.heap.size < g) (.agg #[v0, v1, v2, v3]) t) (hr : Rd w2 rb en r) (hf : Fr rb w w2) (hl : rb < w.heap.size) (hl2 : w.heap.size < w2.heap.size) :
    Post rb en w (.ok (⟨k, 0, [], [t]⟩, r)) (.returned (.agg #[.int .i64 k, .int .i64 0, .string ⟨#[]⟩, .slice (some ⟨w2.heap.size, 0, none⟩) 1 1]))
      (((((w2.setCell ⟨w.heap.size, 0, none⟩ (.int .i64 k)).setCell ⟨w.heap.size, 1, none⟩ (.int .i64 0)).setCell ⟨w.heap.size, 2, none⟩ (.string ⟨#[]⟩)).setCell ⟨w.heap.size, 3, none⟩ (.slice (some ⟨w2.heap.size, 0, none⟩) 1 1)).alloc (.cells #[v0, v1, v2, v3] 24)) := by
  have ne : ∀ i, ¬ (fun g => w.heap.size < g) (⟨w.heap.size, i, none⟩ : Addr).block := fun i => Nat.lt_irrefl _
  have hT := (((h.set (ne 0) (.int .i64 k)).set (ne 1) (.int .i64 0)).set (ne 2) (.string ⟨#[]⟩)).set (ne 3) (.slice (some ⟨w2.heap.size, 0, none⟩) 1 1)
  have hR := (((hr.set (p := ⟨w.heap.size, 0, none⟩) hl (.int .i64 k)).set (p := ⟨w.heap.size, 1, none⟩) hl (.int .i64 0)).set (p := ⟨w.heap.size, 2, none⟩) hl (.string ⟨#[]⟩)).set (p := ⟨w.heap.size, 3, none⟩) hl (.slice (some ⟨w2.heap.size, 0, none⟩) 1 1)
  have hF := (((hf.setCell (p := ⟨w.heap.size, 0, none⟩) (.inr (Nat.le_refl _)) (.int .i64 k)).setCell (p := ⟨w.heap.size, 1, none⟩) (.inr (Nat.le_refl _)) (.int .i64 0)).setCell (p := ⟨w.heap.size, 2, none⟩) (.inr (Nat.le_refl _)) (.string ⟨#[]⟩)).setCell (p := ⟨w.heap.size, 3, none⟩) (.inr (Nat.le_refl _)) (.slice (some ⟨w2.heap.size, 0, none⟩) 1 1)
  have hS : ((((w2.setCell ⟨w.heap.size, 0, none⟩ (.int .i64 k)).setCell ⟨w.heap.size, 1, none⟩ (.int .i64 0)).setCell ⟨w.heap.size, 2, none⟩ (.string ⟨#[]⟩)).setCell ⟨w.heap.size, 3, none⟩ (.slice (some ⟨w2.heap.size, 0, none⟩) 1 1)).heap.size = w2.heap.size := by rw [size_set, size_set, size_set, size_set]
  generalize (((w2.setCell ⟨w.heap.size, 0, none⟩ (.int .i64 k)).setCell ⟨w.heap.size, 1, none⟩ (.int .i64 0)).setCell ⟨w.heap.size, 2, none⟩ (.string ⟨#[]⟩)).setCell ⟨w.heap.size, 3, none⟩ (.slice (some ⟨w2.heap.size, 0, none⟩) 1 1) = w3 at *
  have c4 := Cell4.new w3 v0 v1 v2 v3 24
  rw [hS] at c4
  exact Post.ok ((Tre.node1 hk (hT.alloc _) hl2 c4.c0 c4.c1 c4.c2 c4.c3).sub fun g hg => Nat.le_of_lt hg) (hR.alloc _) (hF.alloc _)
set_option maxRecDepth 100000 in
set_option maxHeartbeats 400000 in
theorem ahead_neg (rb en deep : Nat) (hd : deep ≤ 16) (x : W) (r : List W) (R : Res) (w : World) (HR : Hid (Rd w rb en (x :: r)))
    (HO : Hid (∀ w, Rd w rb en r → Calls Tryz.prog 52 #[.pointer (some ⟨rb, 0, none⟩), .int .i64 ((deep : Int) + 1)] w (Post rb en w R))) :
    Calls Tryz.prog 70 #[.pointer (some ⟨rb, 0, none⟩), .string ⟨#[45]⟩, .int .i64 deep] w (Post rb en w (wrapM 5 R)) := by
  have HP : Hid (∀ w, Rd w rb en (x :: r) → Calls Tryz.prog 54 #[.pointer (some ⟨rb, 0, none⟩)] w fun e w' => e = .returned (.tuple #[]) ∧ Rd w' rb en r ∧ Fr rb w w') := fun w h => pass_any rb en x r w h
  have HL : Hid (rb < w.heap.size) := HR.out.lt
  cases R with
  | error x =>
    obtain ⟨x, q⟩ := x
    go_enter Tryz.func70, Tryz.ntmps70
    go_wp2_with (first
      | (go_at_call 52; refine (HO.out _ HS1.out).mono ?_; rintro e w2 ⟨rfl, HF2⟩; have HG2 : Hid (Fr rb w w2) := HG1.out.trans HF2; clear HF2)
      | (go_at_call 54; refine (HP.out _ (HR.out.alloc _)).mono ?_; rintro e w1 ⟨rfl, HR1, HF1⟩; have HS1 : Hid (Rd w1 rb en r) := HR1; have HG1 : Hid (Fr rb w w1) := ((Fr.refl rb w).alloc _).trans HF1; clear HR1 HF1))
    exact ⟨rfl, rfl, HG2.out⟩
  | ok x =>
    obtain ⟨t, q⟩ := x
    go_enter Tryz.func70, Tryz.ntmps70
    go_wp2_with (first
      | (go_at_call 52; refine (HO.out _ HS1.out).mono ?_; rintro e w2 ⟨⟨tk, tn, ts, ta, tl, tc, rfl, HT⟩, HR2, HF2⟩; obtain ⟨q0, q1, q2, q3, q4⟩ := HZ1.out.fr HF2 (Nat.ne_of_gt HL.out); have HS2 : Hid (Rd w2 rb en q) := HR2; have HG2 : Hid (Fr rb w w2) := HG1.out.trans HF2; have HT2 : Hid (Tre w2 (fun g => w.heap.size < g) (.agg #[.int .i64 tk, .int .i64 tn, .string ts, .slice ta tl tc]) t) := HT.sub (fun g hg => Nat.lt_of_lt_of_le HZ1.out.lt hg); have hl2 : w.heap.size < w2.heap.size := Nat.lt_of_lt_of_le HZ1.out.lt HF2.size; clear HR2 HF2 HT)
      | (go_at_call 54; refine (HP.out _ (HR.out.alloc _)).mono ?_; rintro e w1 ⟨rfl, HR1, HF1⟩; have HZ1 : Hid (Zero4 w1 w.heap.size) := (Cell4.new w _ _ _ _ 24).fr HF1 (Nat.ne_of_gt HL.out); have HS1 : Hid (Rd w1 rb en r) := HR1; have HG1 : Hid (Fr rb w w1) := ((Fr.refl rb w).alloc _).trans HF1; clear HR1 HF1))
    refine bodyPost_ret (v := .agg #[.int .i64 5, .int .i64 0, .string ⟨#[]⟩, .slice (some ⟨w2.heap.size, 0, none⟩) 1 1]) (by simp [results, Tryz.results70, go_sem, q0, q1, q2, q3, hl2]) rfl ?_
    exact post_node1 ⟨by decide, by decide⟩ HT2.out HS2.out HG2.out HL.out hl2
set_option maxRecDepth 100000 in
set_option maxHeartbeats 400000 in
theorem ahead_not (rb en deep : Nat) (hd : deep ≤ 16) (x : W) (r : List W) (R : Res) (w : World) (HR : Hid (Rd w rb en (x :: r)))
    (HO : Hid (∀ w, Rd w rb en r → Calls Tryz.prog 52 #[.pointer (some ⟨rb, 0, none⟩), .int .i64 ((deep : Int) + 1)] w (Post rb en w R))) :
    Calls Tryz.prog 70 #[.pointer (some ⟨rb, 0, none⟩), .string ⟨#[33]⟩, .int .i64 deep] w (Post rb en w (wrapM 6 R)) := by
  have HP : Hid (∀ w, Rd w rb en (x :: r) → Calls Tryz.prog 54 #[.pointer (some ⟨rb, 0, none⟩)] w fun e w' => e = .returned (.tuple #[]) ∧ Rd w' rb en r ∧ Fr rb w w') := fun w h => pass_any rb en x r w h
  have HL : Hid (rb < w.heap.size) := HR.out.lt
  cases R with
  | error x =>
    obtain ⟨x, q⟩ := x
    go_enter Tryz.func70, Tryz.ntmps70
    go_wp2_with (first
      | (go_at_call 52; refine (HO.out _ HS1.out).mono ?_; rintro e w2 ⟨rfl, HF2⟩; have HG2 : Hid (Fr rb w w2) := HG1.out.trans HF2; clear HF2)
      | (go_at_call 54; refine (HP.out _ (HR.out.alloc _)).mono ?_; rintro e w1 ⟨rfl, HR1, HF1⟩; have HS1 : Hid (Rd w1 rb en r) := HR1; have HG1 : Hid (Fr rb w w1) := ((Fr.refl rb w).alloc _).trans HF1; clear HR1 HF1))
    exact ⟨rfl, rfl, HG2.out⟩
  | ok x =>
    obtain ⟨t, q⟩ := x
    go_enter Tryz.func70, Tryz.ntmps70
    go_wp2_with (first
      | (go_at_call 52; refine (HO.out _ HS1.out).mono ?_; rintro e w2 ⟨⟨tk, tn, ts, ta, tl, tc, rfl, HT⟩, HR2, HF2⟩; obtain ⟨q0, q1, q2, q3, q4⟩ := HZ1.out.fr HF2 (Nat.ne_of_gt HL.out); have HS2 : Hid (Rd w2 rb en q) := HR2; have HG2 : Hid (Fr rb w w2) := HG1.out.trans HF2; have HT2 : Hid (Tre w2 (fun g => w.heap.size < g) (.agg #[.int .i64 tk, .int .i64 tn, .string ts, .slice ta tl tc]) t) := HT.sub (fun g hg => Nat.lt_of_lt_of_le HZ1.out.lt hg); have hl2 : w.heap.size < w2.heap.size := Nat.lt_of_lt_of_le HZ1.out.lt HF2.size; clear HR2 HF2 HT)
      | (go_at_call 54; refine (HP.out _ (HR.out.alloc _)).mono ?_; rintro e w1 ⟨rfl, HR1, HF1⟩; have HZ1 : Hid (Zero4 w1 w.heap.size) := (Cell4.new w _ _ _ _ 24).fr HF1 (Nat.ne_of_gt HL.out); have HS1 : Hid (Rd w1 rb en r) := HR1; have HG1 : Hid (Fr rb w w1) := ((Fr.refl rb w).alloc _).trans HF1; clear HR1 HF1))
    refine bodyPost_ret (v := .agg #[.int .i64 6, .int .i64 0, .string ⟨#[]⟩, .slice (some ⟨w2.heap.size, 0, none⟩) 1 1]) (by simp [results, Tryz.results70, go_sem, q0, q1, q2, q3, hl2]) rfl ?_
    exact post_node1 ⟨by decide, by decide⟩ HT2.out HS2.out HG2.out HL.out hl2
set_option maxRecDepth 100000 in
set_option maxHeartbeats 400000 in
theorem ahead_open (rb en deep : Nat) (hd : deep ≤ 16) (x : W) (r : List W) (R : Res) (w : World) (HR : Hid (Rd w rb en (x :: r)))
    (HO : Hid (∀ w, Rd w rb en r → Calls Tryz.prog 82 #[.pointer (some ⟨rb, 0, none⟩), .int .i64 ((deep : Int) + 1)] w (Post rb en w R))) :
    Calls Tryz.prog 70 #[.pointer (some ⟨rb, 0, none⟩), .string ⟨#[40]⟩, .int .i64 deep] w (Post rb en w R) := by
  have HP : Hid (∀ w, Rd w rb en (x :: r) → Calls Tryz.prog 54 #[.pointer (some ⟨rb, 0, none⟩)] w fun e w' => e = .returned (.tuple #[]) ∧ Rd w' rb en r ∧ Fr rb w w') := fun w h => pass_any rb en x r w h
  have HL : Hid (rb < w.heap.size) := HR.out.lt
  cases R with
  | error x =>
    obtain ⟨x, q⟩ := x
    go_enter Tryz.func70, Tryz.ntmps70
    go_wp2_with (first
      | (go_at_call 82; refine (HO.out _ HS1.out).mono ?_; rintro e w2 ⟨rfl, HF2⟩; have HG2 : Hid (Fr rb w w2) := HG1.out.trans HF2; clear HF2)
      | (go_at_call 54; refine (HP.out _ (HR.out.alloc _)).mono ?_; rintro e w1 ⟨rfl, HR1, HF1⟩; have HS1 : Hid (Rd w1 rb en r) := HR1; have HG1 : Hid (Fr rb w w1) := ((Fr.refl rb w).alloc _).trans HF1; clear HR1 HF1))
    exact ⟨rfl, rfl, HG2.out⟩
  | ok x =>
    obtain ⟨t, q⟩ := x
    go_enter Tryz.func70, Tryz.ntmps70
    go_wp2_with (first
      | (go_at_call 82; refine (HO.out _ HS1.out).mono ?_; rintro e w2 ⟨⟨tk, tn, ts, ta, tl, tc, rfl, HT⟩, HR2, HF2⟩; obtain ⟨q0, q1, q2, q3, q4⟩ := HZ1.out.fr HF2 (Nat.ne_of_gt HL.out); have HS2 : Hid (Rd w2 rb en q) := HR2; have HG2 : Hid (Fr rb w w2) := HG1.out.trans HF2; have HT2 : Hid (Tre w2 (fun g => w.heap.size < g) (.agg #[.int .i64 tk, .int .i64 tn, .string ts, .slice ta tl tc]) t) := HT.sub (fun g hg => Nat.lt_of_lt_of_le HZ1.out.lt hg); clear HR2 HF2 HT)
      | (go_at_call 54; refine (HP.out _ (HR.out.alloc _)).mono ?_; rintro e w1 ⟨rfl, HR1, HF1⟩; have HZ1 : Hid (Zero4 w1 w.heap.size) := (Cell4.new w _ _ _ _ 24).fr HF1 (Nat.ne_of_gt HL.out); have HS1 : Hid (Rd w1 rb en r) := HR1; have HG1 : Hid (Fr rb w w1) := ((Fr.refl rb w).alloc _).trans HF1; clear HR1 HF1))
    refine bodyPost_ret (v := .agg #[.int .i64 tk, .int .i64 tn, .string ts, .slice ta tl tc]) (by simp [results, Tryz.results70, go_sem, q0, q1, q2, q3]) rfl ?_
    exact post_store HT2.out HS2.out HG2.out HL.out
set_option maxRecDepth 100000 in
set_option maxHeartbeats 400000 in
theorem ahead_none (rb en deep : Nat) (hd : deep ≤ 16) (ws : List W) (t : Bs) (h1 : ¬ t = [45]) (h2 : ¬ t = [33]) (h3 : ¬ t = [40]) (w : World) (HR : Hid (Rd w rb en ws)) :
    Calls Tryz.prog 70 #[.pointer (some ⟨rb, 0, none⟩), .string (ba t), .int .i64 deep] w (Post rb en w (.error (3, ws))) := by
  have HX : Hid (∀ w, Rd w rb en ws → Calls Tryz.prog 37 #[.pointer (some ⟨rb, 0, none⟩), .int .i64 3] w fun e w' => e = .panicked [{ v := .iface 33 (.agg #[.int .i64 3, .int .i64 (atW en ws)]), recovered := false }] ∧ Below w.heap.size w w') := fun w h => throw_any rb en 3 ws w h
  have e1 : ((ba t).toList == [45]) = false := ba_ne h1
  have e2 : ((ba t).toList == [33]) = false := ba_ne h2
  have e3 : ((ba t).toList == [40]) = false := ba_ne h3
  clear h1 h2 h3
  generalize ba t = s at *
  go_enter Tryz.func70, Tryz.ntmps70
  go_wp2_with (go_at_call 37; refine (HX.out _ (HR.out.alloc _)).mono ?_; rintro e w1 ⟨rfl, HB⟩)
  exact ⟨rfl, rfl, ((Fr.refl rb w).alloc _).trans (.of_below HB)⟩
theorem ahead_any (rb en deep d : Nat) (hd : deep ≤ 16) (ws : List W) (w : World) (HR : Rd w rb en ws)
    (HO : ∀ w, Rd w rb en ws.tail → Calls Tryz.prog 52 #[.pointer (some ⟨rb, 0, none⟩), .int .i64 ((deep : Int) + 1)] w (Post rb en w (operandM d ws.tail)))
    (HS : ∀ w, Rd w rb en ws.tail → Calls Tryz.prog 36 #[.pointer (some ⟨rb, 0, none⟩), .int .i64 1, .int .i64 ((deep : Int) + 1)] w (Post rb en w (sdM d 1 ws.tail))) :
    Calls Tryz.prog 70 #[.pointer (some ⟨rb, 0, none⟩), .string (ba (headW en ws).text), .int .i64 deep] w (Post rb en w (aheadM (operandM d) (sdM d 1) (headW en ws).text ws)) := by
  unfold aheadM
  by_cases h1 : (headW en ws).text = [45]
  · rw [if_pos h1, h1]
    cases ws with
    | nil => simp [headW] at h1
    | cons x r => exact ahead_neg rb en deep hd x r _ w HR HO
  · rw [if_neg h1]
    by_cases h2 : (headW en ws).text = [33]
    · rw [if_pos h2, h2]
      cases ws with
      | nil => simp [headW] at h2
      | cons x r => exact ahead_not rb en deep hd x r _ w HR HO
    · rw [if_neg h2]
      by_cases h3 : (headW en ws).text = [40]
      · rw [if_pos h3, h3]
        cases ws with
        | nil => simp [headW] at h3
        | cons x r => exact ahead_open rb en deep hd x r _ w HR fun w hw => inside_any rb en (deep + 1) r _ w hw HS
      · rw [if_neg h3]
        exact ahead_none rb en deep hd ws _ h1 h2 h3 w HR
theorem operand_any (rb en deep d : Nat) (hd : deep ≤ 16) (ws : List W) (w : World) (HR : Rd w rb en ws)
    (HO : ∀ w, Rd w rb en ws.tail → Calls Tryz.prog 52 #[.pointer (some ⟨rb, 0, none⟩), .int .i64 ((deep : Int) + 1)] w (Post rb en w (operandM d ws.tail)))
    (HS : ∀ w, Rd w rb en ws.tail → Calls Tryz.prog 36 #[.pointer (some ⟨rb, 0, none⟩), .int .i64 1, .int .i64 ((deep : Int) + 1)] w (Post rb en w (sdM d 1 ws.tail))) :
    Calls Tryz.prog 52 #[.pointer (some ⟨rb, 0, none⟩), .int .i64 deep] w (Post rb en w (operandM (d + 1) ws)) := by
  rw [operandM_succ]
  cases ws with
  | nil => exact operand_ahead rb en deep hd [] _ (by simp [headW]) (by simp [headW]) w HR fun w hw => ahead_any rb en deep d hd [] w hw HO HS
  | cons x r =>
    rw [opM_cons]
    by_cases k1 : x.kind = 1
    · rw [if_pos k1]; exact operand_num rb en deep hd x r k1 w HR
    · rw [if_neg k1]
      by_cases k2 : x.kind = 2
      · rw [if_pos k2]; exact operand_name rb en deep hd x r k2 w HR
      · rw [if_neg k2]
        exact operand_ahead rb en deep hd (x :: r) _ k1 k2 w HR fun w hw => ahead_any rb en deep d hd (x :: r) w hw HO HS
end Go.Proofs.YtlfeejjlcclbdaaGreatDoor
