/-
  An operand: contracts.
-/
import Derived.Test.YtlfeejjlcclbdaaGreatDoorSigns
namespace Go.Proofs.YtlfeejjlcclbdaaGreatDoor
open Go.RowKit
set_option linter.unusedVariables false


set_option maxRecDepth 100000 in
set_option maxHeartbeats 400000 in
theorem operand_deep (rb en deep : Nat) (hd : 16 < deep) (hd2 : deep ≤ 100) (ws : List W) (w : World) (HR : Hid (Rd w rb en ws)) :
    Calls Tryz.prog 52 #[.pointer (some ⟨rb, 0, none⟩), .int .i64 deep] w (Post rb en w (.error (6, ws))) := by
  have HC : Hid (∀ w, Rd w rb en ws → Calls Tryz.prog 37 #[.pointer (some ⟨rb, 0, none⟩), .int .i64 6] w fun e w' => e = .panicked [{ v := .iface 33 (.agg #[.int .i64 6, .int .i64 (atW en ws)]), recovered := false }] ∧ Below w.heap.size w w') := fun w h => throw_any rb en 6 ws w h
  go_enter Tryz.func52, Tryz.ntmps52
  go_wp2_with (go_at_call 37; refine (HC.out _ (HR.out.alloc _)).mono ?_; rintro e w1 ⟨rfl, HB⟩)
  exact ⟨rfl, rfl, ((Fr.refl rb w).alloc _).trans (.of_below HB)⟩
/-- What is stored into the result's own four cells. -/
theorem post_store {rb en : Nat} {w w2 : World} {t : Tr} {r : List W} {v0 v1 v2 v3 : Value} (h : Tre w2 (fun g => w.heap.size < g) (.agg #[v0, v1, v2, v3]) t) (hr : Rd w2 rb en r) (hf : Fr rb w w2) (hl : rb < w.heap.size) :
    Post rb en w (.ok (t, r)) (.returned (.agg #[v0, v1, v2, v3])) ((((w2.setCell ⟨w.heap.size, 0, none⟩ v0).setCell ⟨w.heap.size, 1, none⟩ v1).setCell ⟨w.heap.size, 2, none⟩ v2).setCell ⟨w.heap.size, 3, none⟩ v3) := by
  have ne : ∀ i, ¬ (fun g => w.heap.size < g) (⟨w.heap.size, i, none⟩ : Addr).block := fun i => Nat.lt_irrefl _
  refine Post.ok ((((((h.set (ne 0) _).set (ne 1) _).set (ne 2) _).set (ne 3) _)).sub fun g hg => Nat.le_of_lt hg) ((((hr.set (p := ⟨w.heap.size, 0, none⟩) hl _).set (p := ⟨w.heap.size, 1, none⟩) hl _).set (p := ⟨w.heap.size, 2, none⟩) hl _).set (p := ⟨w.heap.size, 3, none⟩) hl _) ?_
  exact (((hf.setCell (p := ⟨w.heap.size, 0, none⟩) (.inr (Nat.le_refl _)) _).setCell (p := ⟨w.heap.size, 1, none⟩) (.inr (Nat.le_refl _)) _).setCell (p := ⟨w.heap.size, 2, none⟩) (.inr (Nat.le_refl _)) _).setCell (p := ⟨w.heap.size, 3, none⟩) (.inr (Nat.le_refl _)) _
/-- The result's cells, still as they were made. -/
abbrev Zero4 (w : World) (b : Nat) : Prop := Cell4 w b (.int .i64 0) (.int .i64 0) (.string ⟨#[]⟩) (.slice none 0 0)
abbrev zeroObj : Obj := .cells #[.int .i64 0, .int .i64 0, .string ⟨#[]⟩, .slice none 0 0] 24
set_option maxRecDepth 100000 in
set_option maxHeartbeats 400000 in
theorem operand_num (rb en deep : Nat) (hd : deep ≤ 16) (x : W) (r : List W) (hk : x.kind = 1) (w : World) (HR : Hid (Rd w rb en (x :: r))) :
    Calls Tryz.prog 52 #[.pointer (some ⟨rb, 0, none⟩), .int .i64 deep] w (Post rb en w (.ok (⟨1, x.n, [], []⟩, r))) := by
  have HC : Hid (∀ w, Rd w rb en (x :: r) → Calls Tryz.prog 55 #[.pointer (some ⟨rb, 0, none⟩)] w fun e w' => e = .returned (wordV x) ∧ Below w.heap.size w w') := fun w h => word_any rb en (x :: r) w h
  have HP : Hid (∀ w, Rd w rb en (x :: r) → Calls Tryz.prog 54 #[.pointer (some ⟨rb, 0, none⟩)] w fun e w' => e = .returned (.tuple #[]) ∧ Rd w' rb en r ∧ Fr rb w w') := fun w h => pass_any rb en x r w h
  have hn : x.n < 9223372036854775808 := (HR.out.ok x (List.mem_cons_self ..)).2.1
  have HL : Hid (rb < w.heap.size) := HR.out.lt
  unfold wordV at HC
  rw [hk] at HC
  generalize x.n = n at *
  generalize ba x.text = s at *
  generalize x.pos = pp at *
  go_enter Tryz.func52, Tryz.ntmps52
  go_wp2_with (first
    | (go_at_call 54; refine (HP.out _ (HR1.out.alloc _)).mono ?_; rintro e w2 ⟨rfl, HR2, HF2⟩; obtain ⟨p0, p1, p2, p3, p4⟩ := (Cell4.new w1 _ _ _ _ 57).fr HF2 (Nat.ne_of_gt HL1.out); obtain ⟨q0, q1, q2, q3, q4⟩ := (HZ1.out.alloc _).fr HF2 (Nat.ne_of_gt HL.out); have HS2 : Hid (Rd w2 rb en r) := HR2; have HG2 : Hid (Fr rb w w2) := (HF1.out.alloc _).trans HF2; clear HR2 HF2)
    | (go_at_call 55; refine (HC.out _ (HR.out.alloc _)).mono ?_; rintro e w1 ⟨rfl, HB⟩; have HR1 : Hid (Rd w1 rb en (x :: r)) := (HR.out.alloc _).below HB; have HL1 : Hid (rb < w1.heap.size) := HR1.out.lt; have HZ1 : Hid (Zero4 w1 w.heap.size) := (Cell4.new w _ _ _ _ 24).below HB; have HF1 : Hid (Fr rb w w1) := ((Fr.refl rb w).alloc _).trans (.of_below HB); clear HB))
  refine bodyPost_ret (v := .agg #[.int .i64 1, .int .i64 n, .string ⟨#[]⟩, .slice none 0 0]) (by simp [results, Tryz.results52, go_sem, q0, q1, q2, q3]) rfl ?_
  exact post_store (Tre.leaf _ _ ⟨by decide, by decide⟩ ⟨by omega, by omega⟩ [] (Nat.zero_le _)) HS2.out HG2.out HL.out
theorem namedV_form (t : Bs) : ∃ (k : Int) (s : ByteArray), namedV t = .agg #[.int .i64 k, .int .i64 0, .string s, .slice none 0 0] := by
  unfold namedV
  split
  · exact ⟨_, _, rfl⟩
  · split
    · exact ⟨_, _, rfl⟩
    · exact ⟨_, _, rfl⟩
set_option maxRecDepth 100000 in
set_option maxHeartbeats 400000 in
theorem operand_name (rb en deep : Nat) (hd : deep ≤ 16) (x : W) (r : List W) (hk : x.kind = 2) (w : World) (HR : Hid (Rd w rb en (x :: r))) :
    Calls Tryz.prog 52 #[.pointer (some ⟨rb, 0, none⟩), .int .i64 deep] w (Post rb en w (.ok (named x.text, r))) := by
  have HC : Hid (∀ w, Rd w rb en (x :: r) → Calls Tryz.prog 55 #[.pointer (some ⟨rb, 0, none⟩)] w fun e w' => e = .returned (wordV x) ∧ Below w.heap.size w w') := fun w h => word_any rb en (x :: r) w h
  have HP : Hid (∀ w, Rd w rb en (x :: r) → Calls Tryz.prog 54 #[.pointer (some ⟨rb, 0, none⟩)] w fun e w' => e = .returned (.tuple #[]) ∧ Rd w' rb en r ∧ Fr rb w w') := fun w h => pass_any rb en x r w h
  have HM : Hid (∀ w, Calls Tryz.prog 69 #[.string (ba x.text)] w fun e w' => e = .returned (namedV x.text) ∧ Below w.heap.size w w') := fun w => named_any x.text w
  have HT : Hid (∀ w P, Tre w P (namedV x.text) (named x.text)) := fun w P => namedV_tre w P x.text (by have := (HR.out.ok x (List.mem_cons_self ..)).2.2.1; omega)
  have HL : Hid (rb < w.heap.size) := HR.out.lt
  unfold wordV at HC
  rw [hk] at HC
  obtain ⟨kk, ss, e1⟩ := namedV_form x.text
  rw [e1] at HM HT
  generalize named x.text = t at *
  generalize x.n = n at *
  generalize ba x.text = s at *
  generalize x.pos = pp at *
  clear e1
  go_enter Tryz.func52, Tryz.ntmps52
  go_wp2_with (first
    | (go_at_call 69; refine (HM.out _).mono ?_; rintro e w3 ⟨rfl, HB3⟩; obtain ⟨q0, q1, q2, q3, q4⟩ := HZ2.out.below HB3; have HS3 : Hid (Rd w3 rb en r) := HS2.out.below HB3; have HG3 : Hid (Fr rb w w3) := HG2.out.trans (.of_below HB3); clear HB3)
    | (go_at_call 54; refine (HP.out _ (HR1.out.alloc _)).mono ?_; rintro e w2 ⟨rfl, HR2, HF2⟩; obtain ⟨p0, p1, p2, p3, p4⟩ := (Cell4.new w1 _ _ _ _ 57).fr HF2 (Nat.ne_of_gt HL1.out); have HZ2 : Hid (Zero4 w2 w.heap.size) := (HZ1.out.alloc _).fr HF2 (Nat.ne_of_gt HL.out); have HS2 : Hid (Rd w2 rb en r) := HR2; have HG2 : Hid (Fr rb w w2) := (HF1.out.alloc _).trans HF2; clear HR2 HF2)
    | (go_at_call 55; refine (HC.out _ (HR.out.alloc _)).mono ?_; rintro e w1 ⟨rfl, HB⟩; have HR1 : Hid (Rd w1 rb en (x :: r)) := (HR.out.alloc _).below HB; have HL1 : Hid (rb < w1.heap.size) := HR1.out.lt; have HZ1 : Hid (Zero4 w1 w.heap.size) := (Cell4.new w _ _ _ _ 24).below HB; have HF1 : Hid (Fr rb w w1) := ((Fr.refl rb w).alloc _).trans (.of_below HB); clear HB))
  refine bodyPost_ret (v := .agg #[.int .i64 kk, .int .i64 0, .string ss, .slice none 0 0]) (by simp [results, Tryz.results52, go_sem, q0, q1, q2, q3]) rfl ?_
  exact post_store (HT.out _ _) HS3.out HG3.out HL.out
set_option maxRecDepth 100000 in
set_option maxHeartbeats 400000 in
theorem operand_ahead (rb en deep : Nat) (hd : deep ≤ 16) (ws : List W) (R : Res) (h1 : ¬ (headW en ws).kind = 1) (h2 : ¬ (headW en ws).kind = 2) (w : World) (HR : Hid (Rd w rb en ws))
    (HA : Hid (∀ w, Rd w rb en ws → Calls Tryz.prog 70 #[.pointer (some ⟨rb, 0, none⟩), .string (ba (headW en ws).text), .int .i64 deep] w (Post rb en w R))) :
    Calls Tryz.prog 52 #[.pointer (some ⟨rb, 0, none⟩), .int .i64 deep] w (Post rb en w R) := by
  have HC : Hid (∀ w, Rd w rb en ws → Calls Tryz.prog 55 #[.pointer (some ⟨rb, 0, none⟩)] w fun e w' => e = .returned (wordV (headW en ws)) ∧ Below w.heap.size w w') := fun w h => word_any rb en ws w h
  have HL : Hid (rb < w.heap.size) := HR.out.lt
  unfold wordV at HC
  generalize headW en ws = y at *
  have k1 : ¬ (y.kind : Int) = 1 := by omega
  have k2 : ¬ (y.kind : Int) = 2 := by omega
  clear h1 h2
  generalize y.kind = K at *
  generalize y.n = n at *
  generalize ba y.text = s at *
  generalize y.pos = pp at *
  cases R with
  | error x =>
    obtain ⟨x, r⟩ := x
    go_enter Tryz.func52, Tryz.ntmps52
    go_wp2_with (first
      | (go_at_call 70; refine (HA.out _ (HR1.out.alloc _)).mono ?_; rintro e w2 ⟨rfl, HF2⟩; have HG2 : Hid (Fr rb w w2) := (HF1.out.alloc _).trans HF2; clear HF2)
      | (go_at_call 55; refine (HC.out _ (HR.out.alloc _)).mono ?_; rintro e w1 ⟨rfl, HB⟩; have HR1 : Hid (Rd w1 rb en ws) := (HR.out.alloc _).below HB; have HF1 : Hid (Fr rb w w1) := ((Fr.refl rb w).alloc _).trans (.of_below HB); clear HB))
    exact ⟨rfl, rfl, HG2.out⟩
  | ok x =>
    obtain ⟨t, r⟩ := x
    go_enter Tryz.func52, Tryz.ntmps52
    go_wp2_with (first
      | (go_at_call 70; refine (HA.out _ (HR1.out.alloc _)).mono ?_; rintro e w2 ⟨⟨tk, tn, ts, ta, tl, tc, rfl, HT⟩, HR2, HF2⟩; obtain ⟨q0, q1, q2, q3, q4⟩ := (HZ1.out.alloc _).fr HF2 (Nat.ne_of_gt HL.out); have HS2 : Hid (Rd w2 rb en r) := HR2; have HG2 : Hid (Fr rb w w2) := (HF1.out.alloc _).trans HF2; have HT2 : Hid (Tre w2 (fun g => w.heap.size < g) (.agg #[.int .i64 tk, .int .i64 tn, .string ts, .slice ta tl tc]) t) := HT.sub (fun g hg => Nat.lt_of_lt_of_le (HZ1.out.alloc _).lt hg); clear HR2 HF2 HT)
      | (go_at_call 55; refine (HC.out _ (HR.out.alloc _)).mono ?_; rintro e w1 ⟨rfl, HB⟩; have HR1 : Hid (Rd w1 rb en ws) := (HR.out.alloc _).below HB; have HZ1 : Hid (Zero4 w1 w.heap.size) := (Cell4.new w _ _ _ _ 24).below HB; have HF1 : Hid (Fr rb w w1) := ((Fr.refl rb w).alloc _).trans (.of_below HB); clear HB))
    refine bodyPost_ret (v := .agg #[.int .i64 tk, .int .i64 tn, .string ts, .slice ta tl tc]) (by simp [results, Tryz.results52, go_sem, q0, q1, q2, q3]) rfl ?_
    exact post_store HT2.out HS2.out HG2.out HL.out
set_option maxRecDepth 100000 in
set_option maxHeartbeats 400000 in
theorem inside_any (rb en deep : Nat) (ws : List W) (R : Res) (w : World) (HR : Hid (Rd w rb en ws))
    (HA : Hid (∀ w, Rd w rb en ws → Calls Tryz.prog 36 #[.pointer (some ⟨rb, 0, none⟩), .int .i64 1, .int .i64 deep] w (Post rb en w R))) :
    Calls Tryz.prog 82 #[.pointer (some ⟨rb, 0, none⟩), .int .i64 deep] w (Post rb en w (inM R)) := by
  have HL : Hid (rb < w.heap.size) := HR.out.lt
  cases R with
  | error x =>
    obtain ⟨x, r⟩ := x
    go_enter Tryz.func82, Tryz.ntmps82
    go_wp2_with (go_at_call 36; refine (HA.out _ (HR.out.alloc _)).mono ?_; rintro e w2 ⟨rfl, HF2⟩; have HG2 : Hid (Fr rb w w2) := ((Fr.refl rb w).alloc _).trans HF2; clear HF2)
    exact ⟨rfl, rfl, HG2.out⟩
  | ok x =>
    obtain ⟨t, r⟩ := x
    have HW : Hid (∀ w, Rd w rb en r → Calls Tryz.prog 55 #[.pointer (some ⟨rb, 0, none⟩)] w fun e w' => e = .returned (wordV (headW en r)) ∧ Below w.heap.size w w') := fun w h => word_any rb en r w h
    have HX : Hid (∀ w, Rd w rb en r → Calls Tryz.prog 37 #[.pointer (some ⟨rb, 0, none⟩), .int .i64 3] w fun e w' => e = .panicked [{ v := .iface 33 (.agg #[.int .i64 3, .int .i64 (atW en r)]), recovered := false }] ∧ Below w.heap.size w w') := fun w h => throw_any rb en 3 r w h
    have hfd := fieldW1
    unfold wordV at HW
    by_cases ht : (headW en r).text = [41]
    · obtain ⟨v, r, rfl⟩ : ∃ v q, r = v :: q := by cases r with | nil => simp [headW] at ht | cons v q => exact ⟨v, q, rfl⟩
      have ht2 : v.text = [41] := ht
      have HE : Hid (inM (.ok (t, v :: r)) = .ok (t, r)) := by show (if v.text = [41] then (Except.ok (t, r) : Res) else _) = _; rw [if_pos ht2]
      have HP : Hid (∀ w, Rd w rb en (v :: r) → Calls Tryz.prog 54 #[.pointer (some ⟨rb, 0, none⟩)] w fun e w' => e = .returned (.tuple #[]) ∧ Rd w' rb en r ∧ Fr rb w w') := fun w h => pass_any rb en v r w h
      rw [HE.out]
      have e1 : ba (headW en (v :: r)).text = ⟨#[41]⟩ := by rw [ht]; rfl
      rw [e1] at HW
      clear ht ht2 e1 HE HX
      generalize (headW en (v :: r)).kind = K at *
      generalize (headW en (v :: r)).n = n at *
      generalize (headW en (v :: r)).pos = pp at *
      go_enter Tryz.func82, Tryz.ntmps82
      go_wp2_with (first
        | (go_at_call 54; refine (HP.out _ HS3.out).mono ?_; rintro e w4 ⟨rfl, HR4, HF4⟩; obtain ⟨q0, q1, q2, q3, q4⟩ := HZ3.out.fr HF4 (Nat.ne_of_gt HL.out); obtain ⟨p0, p1, p2, p3, p4⟩ := HY3.out.fr HF4 (Nat.ne_of_gt HL2.out); have HS4 : Hid (Rd w4 rb en r) := HR4; have HG4 : Hid (Fr rb w w4) := HG3.out.trans HF4; have HT4 : Hid (Tre w4 (fun g => w.heap.size < g) (.agg #[.int .i64 tk, .int .i64 tn, .string ts, .slice ta tl tc]) t) := HT3.out.moved HF4 (fun g hg => ⟨Nat.ne_of_gt (Nat.lt_trans HL.out hg), hg⟩); clear HR4 HF4)
        | (go_at_call 55; refine (HW.out _ (HS2.out.alloc _)).mono ?_; rintro e w3 ⟨rfl, HB⟩; have HY3 : Hid (Cell4 w3 w2.heap.size (.int .i64 tk) (.int .i64 tn) (.string ts) (.slice ta tl tc)) := (Cell4.new w2 _ _ _ _ 24).below HB; have HS3 : Hid (Rd w3 rb en (v :: r)) := (HS2.out.alloc _).below HB; have HZ3 : Hid (Zero4 w3 w.heap.size) := (HZ2.out.alloc _).below HB; have HG3 : Hid (Fr rb w w3) := (HG2.out.alloc _).trans (.of_below HB); have HT3 : Hid (Tre w3 (fun g => w.heap.size < g) (.agg #[.int .i64 tk, .int .i64 tn, .string ts, .slice ta tl tc]) t) := (HT2.out.alloc _).below HB; have HL2 : Hid (rb < w2.heap.size) := HS2.out.lt; clear HB)
        | (go_at_call 36; refine (HA.out _ (HR.out.alloc _)).mono ?_; rintro e w2 ⟨⟨tk, tn, ts, ta, tl, tc, rfl, HT⟩, HR2, HF2⟩; have HZ2 : Hid (Zero4 w2 w.heap.size) := (Cell4.new w _ _ _ _ 24).fr HF2 (Nat.ne_of_gt HL.out); have HS2 : Hid (Rd w2 rb en (v :: r)) := HR2; have HG2 : Hid (Fr rb w w2) := ((Fr.refl rb w).alloc _).trans HF2; have HT2 : Hid (Tre w2 (fun g => w.heap.size < g) (.agg #[.int .i64 tk, .int .i64 tn, .string ts, .slice ta tl tc]) t) := HT.sub (fun g hg => Nat.lt_of_lt_of_le (Cell4.new w _ _ _ _ 24).lt hg); clear HR2 HF2 HT))
      refine bodyPost_ret (v := .agg #[.int .i64 tk, .int .i64 tn, .string ts, .slice ta tl tc]) (by simp [results, Tryz.results82, go_sem, q0, q1, q2, q3]) rfl ?_
      exact post_store HT4.out HS4.out HG4.out HL.out
    · have HE : Hid (inM (.ok (t, r)) = .error (3, r)) := by
        cases r with
        | nil => rfl
        | cons v q => exact if_neg ht
      rw [HE.out]
      have e1 : ((ba (headW en r).text).toList == [41]) = false := ba_ne ht
      clear ht HE
      generalize ba (headW en r).text = s at *
      generalize (headW en r).kind = K at *
      generalize (headW en r).n = n at *
      generalize (headW en r).pos = pp at *
      go_enter Tryz.func82, Tryz.ntmps82
      go_wp2_with (first
        | (go_at_call 37; refine (HX.out _ HS3.out).mono ?_; rintro e w4 ⟨rfl, HB⟩; have HG4 : Hid (Fr rb w w4) := HG3.out.trans (.of_below HB); clear HB)
        | (go_at_call 55; refine (HW.out _ (HS2.out.alloc _)).mono ?_; rintro e w3 ⟨rfl, HB⟩; have HS3 : Hid (Rd w3 rb en r) := (HS2.out.alloc _).below HB; have HG3 : Hid (Fr rb w w3) := (HG2.out.alloc _).trans (.of_below HB); clear HB)
        | (go_at_call 36; refine (HA.out _ (HR.out.alloc _)).mono ?_; rintro e w2 ⟨⟨tk, tn, ts, ta, tl, tc, rfl, HT⟩, HR2, HF2⟩; have HS2 : Hid (Rd w2 rb en r) := HR2; have HG2 : Hid (Fr rb w w2) := ((Fr.refl rb w).alloc _).trans HF2; clear HR2 HF2 HT))
      exact ⟨rfl, rfl, HG4.out⟩
end Go.Proofs.YtlfeejjlcclbdaaGreatDoor
