/-
  A side: the loop over signs: contracts.
-/
import Derived.Test.YtlfeejjlcclbdaaGreatDoorAhead
import Derived.Deep.LoopGhost
namespace Go.Proofs.YtlfeejjlcclbdaaGreatDoor
open Go.RowKit
set_option linter.unusedVariables false


theorem loopM_succ (sd : Nat → List W → Res) (row f last : Nat) (x : Tr) (ws : List W) : loopM sd row (f + 1) last x ws =
    if nextK ws = 0 ∨ rowK (nextK ws) < row then .ok (x, ws)
    else if rowK (nextK ws) = 3 ∧ last = 3 then .error (3, ws)
    else match sd (rowK (nextK ws) + 1) ws.tail with
      | .error e => .error e
      | .ok (y, r) => loopM sd row f (rowK (nextK ws)) ⟨nextK ws, 0, [], [x, y]⟩ r := rfl
theorem rowK_le (K : Nat) (h : K ≠ 0) (h2 : K ≤ 14) (h3 : 7 ≤ K) : 1 ≤ rowK K ∧ rowK K ≤ 5 := by
  unfold rowK
  repeat' split
  all_goals omega
theorem kindC_range (c : UInt8) : kindC c = 0 ∨ 7 ≤ kindC c ∧ kindC c ≤ 14 := by
  unfold kindC
  repeat' split
  all_goals omega
theorem nextK_range (ws : List W) : nextK ws = 0 ∨ 7 ≤ nextK ws ∧ nextK ws ≤ 14 := by
  cases ws with
  | nil => exact .inl rfl
  | cons x r =>
    show kindW x = 0 ∨ 7 ≤ kindW x ∧ kindW x ≤ 14
    unfold kindW
    split
    · unfold kindS
      split
      · exact kindC_range _
      · exact .inl rfl
    · exact .inl rfl
set_option maxRecDepth 100000 in
set_option maxHeartbeats 400000 in
theorem side_err (rb en deep row : Nat) (ws : List W) (x : Nat × List W) (w : World) (HR : Hid (Rd w rb en ws))
    (HO : Hid (∀ w, Rd w rb en ws → Calls Tryz.prog 52 #[.pointer (some ⟨rb, 0, none⟩), .int .i64 deep] w (Post rb en w (.error x)))) :
    Calls Tryz.prog 36 #[.pointer (some ⟨rb, 0, none⟩), .int .i64 row, .int .i64 deep] w (Post rb en w (.error x)) := by
  obtain ⟨x, q⟩ := x
  go_enter Tryz.func36, Tryz.ntmps36
  go_wp2_with (go_at_call 52; refine (HO.out _ (HR.out.alloc _)).mono ?_; rintro e w2 ⟨rfl, HF2⟩; have HG2 : Hid (Fr rb w w2) := ((Fr.refl rb w).alloc _).trans HF2; clear HF2)
  exact ⟨rfl, rfl, HG2.out⟩
/-- What stands when a round begins. -/
def Mid (w wr : World) (B7 rb en k last row : Nat) (sd : Nat → List W → Res) (R : Res) : Prop :=
  ∃ (x : Tr) (ws : List W) (tk tn : Int) (ts : ByteArray) (ta : Option Addr) (tl tc : Nat), Cell4 wr B7 (.int .i64 tk) (.int .i64 tn) (.string ts) (.slice ta tl tc) ∧
    Tre wr (fun g => w.heap.size < g ∧ g ≠ B7) (.agg #[.int .i64 tk, .int .i64 tn, .string ts, .slice ta tl tc]) x ∧ Zero4 wr w.heap.size ∧ Rd wr rb en ws ∧ Fr rb w wr ∧ ws.length < k ∧ loopM sd row k last x ws = R
theorem Cell4.set {w : World} {b : Nat} {v0 v1 v2 v3 : Value} (h : Cell4 w b v0 v1 v2 v3) (u0 u1 u2 u3 : Value) : Cell4 ((((w.setCell ⟨b, 0, none⟩ u0).setCell ⟨b, 1, none⟩ u1).setCell ⟨b, 2, none⟩ u2).setCell ⟨b, 3, none⟩ u3) b u0 u1 u2 u3 := by
  have h0 := h.c0; have h1 := h.c1; have h2 := h.c2; have h3 := h.c3
  refine ⟨?_, ?_, ?_, ?_, fun i => by simp only [World.frozen?_setCell]; exact h.free i⟩
  · rw [World.cell?_setCell_other _ _ _ _ (by simp), World.cell?_setCell_other _ _ _ _ (by simp), World.cell?_setCell_other _ _ _ _ (by simp), World.cell?_setCell_same' _ _ _ (by rw [h0]; rfl)]
  · rw [World.cell?_setCell_other _ _ _ _ (by simp), World.cell?_setCell_other _ _ _ _ (by simp), World.cell?_setCell_same' _ _ _ (by rw [World.cell?_setCell_other _ _ _ _ (by simp), h1]; rfl)]
  · rw [World.cell?_setCell_other _ _ _ _ (by simp), World.cell?_setCell_same' _ _ _ (by rw [World.cell?_setCell_other _ _ _ _ (by simp), World.cell?_setCell_other _ _ _ _ (by simp), h2]; rfl)]
  · rw [World.cell?_setCell_same' _ _ _ (by rw [World.cell?_setCell_other _ _ _ _ (by simp), World.cell?_setCell_other _ _ _ _ (by simp), World.cell?_setCell_other _ _ _ _ (by simp), h3]; rfl)]
theorem mid_next {w w6 : World} {B7 rb en f own row : Nat} {sd : Nat → List W → Res} {R : Res} {x y : Tr} {r : List W} {tk tn : Int} {ts : ByteArray} {ta : Option Addr} {tl tc : Nat} {yk yn : Int} {ys : ByteArray} {ya : Option Addr} {yl yc K : Nat}
    (hX : Cell4 w6 B7 (.int .i64 tk) (.int .i64 tn) (.string ts) (.slice ta tl tc)) (hT : Tre w6 (fun g => w.heap.size < g ∧ g ≠ B7) (.agg #[.int .i64 tk, .int .i64 tn, .string ts, .slice ta tl tc]) x)
    (hY : Tre w6 (fun g => w.heap.size < g ∧ g ≠ B7) (.agg #[.int .i64 yk, .int .i64 yn, .string ys, .slice ya yl yc]) y) (hZ : Zero4 w6 w.heap.size) (hR : Rd w6 rb en r) (hF : Fr rb w w6) (hlen : r.length < f) (hK : K ≤ 14)
    (hloop : loopM sd row f own ⟨K, 0, [], [x, y]⟩ r = R) (hB : w.heap.size < B7) (hb : rb < w.heap.size) :
    Mid w (((((((w6.setCell ⟨B7, 0, none⟩ (.int .i64 K)).setCell ⟨B7, 1, none⟩ (.int .i64 0)).setCell ⟨B7, 2, none⟩ (.string ⟨#[]⟩)).setCell ⟨B7, 3, none⟩ (.slice (some ⟨w6.heap.size + 1, 0, none⟩) 2 2)).alloc (.cells #[.int .i64 yk, .int .i64 yn, .string ys, .slice ya yl yc] 24))).alloc
      (.cells #[.int .i64 tk, .int .i64 tn, .string ts, .slice ta tl tc, .int .i64 yk, .int .i64 yn, .string ys, .slice ya yl yc] 24)) B7 rb en f own row sd R := by
  have ne : ∀ i, ¬ (fun g => w.heap.size < g ∧ g ≠ B7) (⟨B7, i, none⟩ : Addr).block := fun i h => h.2 rfl
  have hX2 := hX.set (.int .i64 K) (.int .i64 0) (.string ⟨#[]⟩) (.slice (some ⟨w6.heap.size + 1, 0, none⟩) 2 2)
  have hT2 := (((hT.set (ne 0) (.int .i64 K)).set (ne 1) (.int .i64 0)).set (ne 2) (.string ⟨#[]⟩)).set (ne 3) (.slice (some ⟨w6.heap.size + 1, 0, none⟩) 2 2)
  have hY2 := (((hY.set (ne 0) (.int .i64 K)).set (ne 1) (.int .i64 0)).set (ne 2) (.string ⟨#[]⟩)).set (ne 3) (.slice (some ⟨w6.heap.size + 1, 0, none⟩) 2 2)
  have hfr := ((((Fr.refl B7 w6).setCell (p := ⟨B7, 0, none⟩) (.inl rfl) (.int .i64 K)).setCell (p := ⟨B7, 1, none⟩) (.inl rfl) (.int .i64 0)).setCell (p := ⟨B7, 2, none⟩) (.inl rfl) (.string ⟨#[]⟩)).setCell (p := ⟨B7, 3, none⟩) (.inl rfl) (.slice (some ⟨w6.heap.size + 1, 0, none⟩) 2 2)
  have hF2 := (((hF.setCell (p := ⟨B7, 0, none⟩) (.inr (Nat.le_of_lt hB)) (.int .i64 K)).setCell (p := ⟨B7, 1, none⟩) (.inr (Nat.le_of_lt hB)) (.int .i64 0)).setCell (p := ⟨B7, 2, none⟩) (.inr (Nat.le_of_lt hB)) (.string ⟨#[]⟩)).setCell (p := ⟨B7, 3, none⟩) (.inr (Nat.le_of_lt hB)) (.slice (some ⟨w6.heap.size + 1, 0, none⟩) 2 2)
  have hZ2 := hZ.fr hfr (Nat.ne_of_lt hB)
  have hR2 := hR.fr hfr (Nat.lt_trans hb hB)
  have hS : ((((w6.setCell ⟨B7, 0, none⟩ (.int .i64 K)).setCell ⟨B7, 1, none⟩ (.int .i64 0)).setCell ⟨B7, 2, none⟩ (.string ⟨#[]⟩)).setCell ⟨B7, 3, none⟩ (.slice (some ⟨w6.heap.size + 1, 0, none⟩) 2 2)).heap.size = w6.heap.size := by rw [size_set, size_set, size_set, size_set]
  have hlt := hX.lt
  clear hX hT hY hZ hR hF hfr
  generalize (((w6.setCell ⟨B7, 0, none⟩ (.int .i64 K)).setCell ⟨B7, 1, none⟩ (.int .i64 0)).setCell ⟨B7, 2, none⟩ (.string ⟨#[]⟩)).setCell ⟨B7, 3, none⟩ (.slice (some ⟨w6.heap.size + 1, 0, none⟩) 2 2) = w7 at *
  have s1 := size_alloc w7 (.cells #[.int .i64 yk, .int .i64 yn, .string ys, .slice ya yl yc] 24)
  rw [hS] at s1
  have kk := heap_alloc_new (w7.alloc (.cells #[.int .i64 yk, .int .i64 yn, .string ys, .slice ya yl yc] 24)) (.cells #[.int .i64 tk, .int .i64 tn, .string ts, .slice ta tl tc, .int .i64 yk, .int .i64 yn, .string ys, .slice ya yl yc] 24)
  rw [s1] at kk
  have cc := fun j => cell_of_row _ _ j _ 24 (0, 0) kk
  refine ⟨⟨K, 0, [], [x, y]⟩, r, _, _, _, _, _, _, (hX2.alloc _).alloc _, ?_, (hZ2.alloc _).alloc _, (hR2.alloc _).alloc _, (hF2.alloc _).alloc _, hlen, hloop⟩
  exact Tre.node2 ⟨by omega, by omega⟩ ((hT2.alloc _).alloc _) ((hY2.alloc _).alloc _) ⟨by omega, by omega⟩ (cc 0) (cc 1) (cc 2) (cc 3) (cc 4) (cc 5) (cc 6) (cc 7)
set_option maxRecDepth 100000 in
set_option maxHeartbeats 2000000 in
theorem side_ok (rb en deep row : Nat) (hd : deep ≤ 16) (hrow : row ≤ 6) (ws r0 : List W) (x0 : Tr) (sd : Nat → List W → Res) (R : Res) (w : World) (HR : Hid (Rd w rb en ws))
    (HO : Hid (∀ w, Rd w rb en ws → Calls Tryz.prog 52 #[.pointer (some ⟨rb, 0, none⟩), .int .i64 deep] w (Post rb en w (.ok (x0, r0)))))
    (HS : Hid (∀ (k : Nat) ws w, 1 ≤ k → k ≤ 5 → Rd w rb en ws → Calls Tryz.prog 36 #[.pointer (some ⟨rb, 0, none⟩), .int .i64 ((k : Int) + 1), .int .i64 ((deep : Int) + 1)] w (Post rb en w (sd (k + 1) ws))))
    (HEt : Hid (∀ k, Eats (sd k))) (HE : Hid (loopM sd row (r0.length + 1) 6 x0 r0 = R)) :
    Calls Tryz.prog 36 #[.pointer (some ⟨rb, 0, none⟩), .int .i64 row, .int .i64 deep] w (Post rb en w R) := by
  have HL : Hid (rb < w.heap.size) := HR.out.lt
  go_enter Tryz.func36, Tryz.ntmps36
  go_wp2_with (go_at_call 52; refine (HO.out _ (HR.out.alloc _)).mono ?_; rintro e w2 ⟨⟨tk, tn, ts, ta, tl, tc, rfl, HT⟩, HR2, HF2⟩; have HM : Hid (Mid w (w2.alloc (.cells #[.int .i64 tk, .int .i64 tn, .string ts, .slice ta tl tc] 24)) w2.heap.size rb en (r0.length + 1) 6 row sd R) := ⟨x0, r0, tk, tn, ts, ta, tl, tc, Cell4.new w2 _ _ _ _ 24, (HT.kept (fun g hg hlt => ⟨heap_alloc_old _ _ hlt, Nat.lt_of_lt_of_le (Cell4.new w _ _ _ _ 24).lt hg, Nat.ne_of_lt hlt⟩)), ((Cell4.new w _ _ _ _ 24).fr HF2 (Nat.ne_of_gt HL.out)).alloc _, HR2.alloc _, (((Fr.refl rb w).alloc _).trans HF2).alloc _, Nat.lt_succ_self _, HE.out⟩; have HL2 : Hid (rb < w2.heap.size ∧ w.heap.size < w2.heap.size) := ⟨HR2.lt, Nat.lt_of_lt_of_le (Cell4.new w _ _ _ _ 24).lt HF2.size⟩; clear HT HR2 HF2)
  clear HE HO
  go_loopg [8] (r0.length + 1) (fun k p wr => ∃ (last : Nat), p = .int .i64 last ∧ last ≤ 6 ∧ Hid (Mid w wr w2.heap.size rb en k last row sd R))
  case atStart => exact ⟨6, rfl, Nat.le_refl _, HM.out⟩
  case round =>
    obtain ⟨last, rfl, hlast, HM2⟩ := hrel
    obtain ⟨x, ws, tk, tn, ts, ta, tl, tc, HX', HTx', HZ', HRd', HF', hlen, hloop⟩ := HM2.out
    have HX : Hid (Cell4 wr w2.heap.size (.int .i64 tk) (.int .i64 tn) (.string ts) (.slice ta tl tc)) := HX'
    have HTx : Hid (Tre wr (fun g => w.heap.size < g ∧ g ≠ w2.heap.size) (.agg #[.int .i64 tk, .int .i64 tn, .string ts, .slice ta tl tc]) x) := HTx'
    have HZ : Hid (Zero4 wr w.heap.size) := HZ'
    have HRd : Hid (Rd wr rb en ws) := HRd'
    have HF : Hid (Fr rb w wr) := HF'
    have HLen : Hid (ws.length < gk) := hlen
    obtain ⟨f, hf⟩ : ∃ f, gk = f + 1 := ⟨gk - 1, by omega⟩
    have HLoop : Hid (loopM sd row (f + 1) last x ws = R) := by rw [← hf]; exact hloop
    clear HX' HTx' HZ' HRd' HF' hlen hloop HM2 HM HR
    have hr := nextK_range ws
    have HC : Hid (∀ w, Rd w rb en ws → Calls Tryz.prog 53 #[.pointer (some ⟨rb, 0, none⟩)] w fun e w' => e = .returned (.int .i64 (nextK ws)) ∧ Below w.heap.size w w') := fun w h => sign_any rb en ws w h
    have HC2 : Hid (∀ w, Calls Tryz.prog 25 #[.int .i64 (nextK ws)] w fun e w' => e = .returned (.int .i64 (rowK (nextK ws))) ∧ w' = w) := fun w => row_any _ w
    rw [loopM_succ] at HLoop
    by_cases h0 : nextK ws = 0
    · have HRe : Hid (R = .ok (x, ws)) := HLoop.out.symm.trans (if_pos (.inl h0))
      rw [HRe.out]
      rw [h0] at HC HC2
      clear HLoop hr
      generalize rowK ((0 : Nat) : Int) = own at *
      go_wp2_with (first
        | (go_at_call 25; refine (HC2.out _).mono ?_; rintro e w4 ⟨rfl, h4⟩; have h5 := h4.symm; clear h4; subst h5)
        | (go_at_call 53; refine (HC.out _ HRd.out).mono ?_; rintro e w3 ⟨rfl, HB⟩; obtain ⟨p0, p1, p2, p3, p4⟩ := HX.out.below HB; obtain ⟨q0, q1, q2, q3, q4⟩ := HZ.out.below HB; have HT3 : Hid (Tre w3 (fun g => w.heap.size < g) (.agg #[.int .i64 tk, .int .i64 tn, .string ts, .slice ta tl tc]) x) := (HTx.out.below HB).sub (fun g hg => hg.1); have HS3 : Hid (Rd w3 rb en ws) := HRd.out.below HB; have HG3 : Hid (Fr rb w w3) := HF.out.trans (.of_below HB); clear HB))
      refine bodyPost_ret (v := .agg #[.int .i64 tk, .int .i64 tn, .string ts, .slice ta tl tc]) (by simp [results, Tryz.results36, go_sem, q0, q1, q2, q3]) rfl ?_
      exact post_store HT3.out HS3.out HG3.out HL.out
    by_cases h1 : rowK (nextK ws) < row
    · have HRe : Hid (R = .ok (x, ws)) := HLoop.out.symm.trans (if_pos (.inr h1))
      rw [HRe.out]
      clear HLoop hr
      generalize rowK (nextK ws) = own at *
      generalize nextK ws = K at *
      go_wp2_with (first
        | (go_at_call 25; refine (HC2.out _).mono ?_; rintro e w4 ⟨rfl, h4⟩; have h5 := h4.symm; clear h4; subst h5)
        | (go_at_call 53; refine (HC.out _ HRd.out).mono ?_; rintro e w3 ⟨rfl, HB⟩; obtain ⟨p0, p1, p2, p3, p4⟩ := HX.out.below HB; obtain ⟨q0, q1, q2, q3, q4⟩ := HZ.out.below HB; have HT3 : Hid (Tre w3 (fun g => w.heap.size < g) (.agg #[.int .i64 tk, .int .i64 tn, .string ts, .slice ta tl tc]) x) := (HTx.out.below HB).sub (fun g hg => hg.1); have HS3 : Hid (Rd w3 rb en ws) := HRd.out.below HB; have HG3 : Hid (Fr rb w w3) := HF.out.trans (.of_below HB); clear HB))
      refine bodyPost_ret (v := .agg #[.int .i64 tk, .int .i64 tn, .string ts, .slice ta tl tc]) (by simp [results, Tryz.results36, go_sem, q0, q1, q2, q3]) rfl ?_
      exact post_store HT3.out HS3.out HG3.out HL.out
    have hown := rowK_le (nextK ws) h0 (by omega) (by omega)
    rw [if_neg (by rintro (h | h); exact h0 h; exact h1 h)] at HLoop
    by_cases h2 : rowK (nextK ws) = 3 ∧ last = 3
    · have HRe : Hid (R = .error (3, ws)) := HLoop.out.symm.trans (if_pos h2)
      have HX3 : Hid (∀ w, Rd w rb en ws → Calls Tryz.prog 37 #[.pointer (some ⟨rb, 0, none⟩), .int .i64 3] w fun e w' => e = .panicked [{ v := .iface 33 (.agg #[.int .i64 3, .int .i64 (atW en ws)]), recovered := false }] ∧ Below w.heap.size w w') := fun w h => throw_any rb en 3 ws w h
      rw [HRe.out]
      clear HLoop hr
      obtain ⟨h2a, h2b⟩ := h2
      subst h2b
      rw [h2a] at HC2 h1
      clear h2a hown
      generalize nextK ws = K at *
      have hb0 : ((K : Int) == 0) = false := by simp; omega
      have hb1 : decide ((3 : Int) < (row : Int)) = false := by simp; omega
      go_wp2_with (first
        | (go_at_call 37; refine (HX3.out _ HS3.out).mono ?_; rintro e w4 ⟨rfl, HB⟩; have HG4 : Hid (Fr rb w w4) := HG3.out.trans (.of_below HB); clear HB)
        | (go_at_call 25; refine (HC2.out _).mono ?_; rintro e w4 ⟨rfl, h4⟩; have h5 := h4.symm; clear h4; subst h5)
        | (go_at_call 53; refine (HC.out _ HRd.out).mono ?_; rintro e w3 ⟨rfl, HB⟩;  have HS3 : Hid (Rd w3 rb en ws) := HRd.out.below HB; have HG3 : Hid (Fr rb w w3) := HF.out.trans (.of_below HB); clear HB))
      exact ⟨rfl, rfl, HG4.out⟩
    rw [if_neg h2] at HLoop
    obtain ⟨v, q, rfl⟩ : ∃ v q, ws = v :: q := by cases ws with | nil => exact absurd rfl h0 | cons v q => exact ⟨v, q, rfl⟩
    rw [List.tail_cons] at HLoop
    have HP : Hid (∀ w, Rd w rb en (v :: q) → Calls Tryz.prog 54 #[.pointer (some ⟨rb, 0, none⟩)] w fun e w' => e = .returned (.tuple #[]) ∧ Rd w' rb en q ∧ Fr rb w w') := fun w h => pass_any rb en v q w h
    have HD : Hid (∀ w, Rd w rb en q → Calls Tryz.prog 36 #[.pointer (some ⟨rb, 0, none⟩), .int .i64 ((rowK (nextK (v :: q)) : Int) + 1), .int .i64 ((deep : Int) + 1)] w (Post rb en w (sd (rowK (nextK (v :: q)) + 1) q))) := fun w h => HS.out _ q w hown.1 hown.2 h
    have hK : nextK (v :: q) ≤ 14 := by omega
    clear hr
    generalize hown2 : rowK (nextK (v :: q)) = own at *
    generalize nextK (v :: q) = K at *
    have hb0 : ((K : Int) == 0) = false := by simp; omega
    have hb1 : ¬ own < row := by omega
    by_cases h3 : own = 3
    · have h4 : ¬ last = 3 := fun h => h2 ⟨h3, h⟩
      subst h3
      have hb3 : ((last : Int) == 3) = false := by simp; omega
      have HD2 : Hid (∀ w, Rd w rb en q → Calls Tryz.prog 36 #[.pointer (some ⟨rb, 0, none⟩), .int .i64 4, .int .i64 ((deep : Int) + 1)] w (Post rb en w (sd (3 + 1) q))) := HD.out
      clear h0 h1 h2 h4 hown2 HD
      cases hsd : sd (3 + 1) q with
      | error y =>
        obtain ⟨y, r⟩ := y
        rw [hsd] at HLoop HD2
        clear hsd
        have HRe : Hid (R = .error (y, r)) := HLoop.out.symm
        rw [HRe.out]
        clear HLoop
        go_wp2_with (first
          | (go_at_call 36; refine (HD2.out _ HS5.out).mono ?_; rintro e w6 ⟨rfl, HF6⟩; have HG6 : Hid (Fr rb w w6) := HG5.out.trans HF6; clear HF6)
          | (go_at_call 54; refine (HP.out _ HS3.out).mono ?_; rintro e w5 ⟨rfl, HR5, HF5⟩; have HS5 : Hid (Rd w5 rb en q) := HR5; have HG5 : Hid (Fr rb w w5) := HG3.out.trans HF5; clear HR5 HF5)
          | (go_at_call 25; refine (HC2.out _).mono ?_; rintro e w4 ⟨rfl, h4⟩; have h5 := h4.symm; clear h4; subst h5)
          | (go_at_call 53; refine (HC.out _ HRd.out).mono ?_; rintro e w3 ⟨rfl, HB⟩;  have HS3 : Hid (Rd w3 rb en (v :: q)) := HRd.out.below HB; have HG3 : Hid (Fr rb w w3) := HF.out.trans (.of_below HB); clear HB))
        exact ⟨rfl, rfl, HG6.out⟩
      | ok y =>
        obtain ⟨y, r⟩ := y
        have HQ : Hid (r.length < f) := by
          have h1 := HEt.out (3 + 1) q
          rw [hsd] at h1
          have h2 : r.length < q.length := h1.2
          have h3 := HLen.out
          simp only [List.length_cons] at h3
          show r.length < f
          omega
        rw [hsd] at HLoop HD2
        clear hsd
        have HRe : Hid (loopM sd row f 3 ⟨K, 0, [], [x, y]⟩ r = R) := HLoop.out
        clear HLoop
        go_wp2_with (first
          | (go_at_call 36; refine (HD2.out _ HS5.out).mono ?_; rintro e w6 ⟨⟨yk, yn, ys, ya, yl, yc, rfl, HY⟩, HR6, HF6⟩; obtain ⟨p0, p1, p2, p3, p4⟩ := HX5.out.fr HF6 (Nat.ne_of_gt HL2.out.1); have HX6 : Hid (Cell4 w6 w2.heap.size (.int .i64 tk) (.int .i64 tn) (.string ts) (.slice ta tl tc)) := HX5.out.fr HF6 (Nat.ne_of_gt HL2.out.1); have HZ6 : Hid (Zero4 w6 w.heap.size) := HZ5.out.fr HF6 (Nat.ne_of_gt HL.out); have HS6 : Hid (Rd w6 rb en r) := HR6; have HG6 : Hid (Fr rb w w6) := HG5.out.trans HF6; have HT6 : Hid (Tre w6 (fun g => w.heap.size < g ∧ g ≠ w2.heap.size) (.agg #[.int .i64 tk, .int .i64 tn, .string ts, .slice ta tl tc]) x) := HT5.out.moved HF6 (fun g hg => ⟨Nat.ne_of_gt (Nat.lt_trans HL.out hg.1), hg⟩); have HY6 : Hid (Tre w6 (fun g => w.heap.size < g ∧ g ≠ w2.heap.size) (.agg #[.int .i64 yk, .int .i64 yn, .string ys, .slice ya yl yc]) y) := HY.sub (fun g hg => ⟨Nat.lt_of_lt_of_le HZ5.out.lt hg, Nat.ne_of_gt (Nat.lt_of_lt_of_le HX5.out.lt hg)⟩); have hl6 : w2.heap.size < w6.heap.size := HX6.out.lt; clear HY HR6 HF6)
          | (go_at_call 54; refine (HP.out _ HS3.out).mono ?_; rintro e w5 ⟨rfl, HR5, HF5⟩; have HX5 : Hid (Cell4 w5 w2.heap.size (.int .i64 tk) (.int .i64 tn) (.string ts) (.slice ta tl tc)) := HX3.out.fr HF5 (Nat.ne_of_gt HL2.out.1); have HZ5 : Hid (Zero4 w5 w.heap.size) := HZ3.out.fr HF5 (Nat.ne_of_gt HL.out); have HT5 : Hid (Tre w5 (fun g => w.heap.size < g ∧ g ≠ w2.heap.size) (.agg #[.int .i64 tk, .int .i64 tn, .string ts, .slice ta tl tc]) x) := HT3.out.moved HF5 (fun g hg => ⟨Nat.ne_of_gt (Nat.lt_trans HL.out hg.1), hg⟩); have HS5 : Hid (Rd w5 rb en q) := HR5; have HG5 : Hid (Fr rb w w5) := HG3.out.trans HF5; clear HR5 HF5)
          | (go_at_call 25; refine (HC2.out _).mono ?_; rintro e w4 ⟨rfl, h4⟩; have h5 := h4.symm; clear h4; subst h5)
          | (go_at_call 53; refine (HC.out _ HRd.out).mono ?_; rintro e w3 ⟨rfl, HB⟩; have HX3 : Hid (Cell4 w3 w2.heap.size (.int .i64 tk) (.int .i64 tn) (.string ts) (.slice ta tl tc)) := HX.out.below HB; have HZ3 : Hid (Zero4 w3 w.heap.size) := HZ.out.below HB; have HT3 : Hid (Tre w3 (fun g => w.heap.size < g ∧ g ≠ w2.heap.size) (.agg #[.int .i64 tk, .int .i64 tn, .string ts, .slice ta tl tc]) x) := HTx.out.below HB; have HS3 : Hid (Rd w3 rb en (v :: q)) := HRd.out.below HB; have HG3 : Hid (Fr rb w w3) := HF.out.trans (.of_below HB); clear HB))
        go_roundg f
        case measure => show f < gk; omega
        case rel => exact ⟨3, rfl, by omega, mid_next HX6.out HT6.out HY6.out HZ6.out HS6.out HG6.out HQ.out hK HRe.out HL2.out.2 HL.out⟩
    · have hb3 : ((own : Int) == 3) = false := by simp; omega
      clear h0 h1 h2 hown2
      cases hsd : sd (own + 1) q with
      | error y =>
        obtain ⟨y, r⟩ := y
        rw [hsd] at HLoop HD
        clear hsd
        have HRe : Hid (R = .error (y, r)) := HLoop.out.symm
        rw [HRe.out]
        clear HLoop
        go_wp2_with (first
          | (go_at_call 36; refine (HD.out _ HS5.out).mono ?_; rintro e w6 ⟨rfl, HF6⟩; have HG6 : Hid (Fr rb w w6) := HG5.out.trans HF6; clear HF6)
          | (go_at_call 54; refine (HP.out _ HS3.out).mono ?_; rintro e w5 ⟨rfl, HR5, HF5⟩; have HS5 : Hid (Rd w5 rb en q) := HR5; have HG5 : Hid (Fr rb w w5) := HG3.out.trans HF5; clear HR5 HF5)
          | (go_at_call 25; refine (HC2.out _).mono ?_; rintro e w4 ⟨rfl, h4⟩; have h5 := h4.symm; clear h4; subst h5)
          | (go_at_call 53; refine (HC.out _ HRd.out).mono ?_; rintro e w3 ⟨rfl, HB⟩;  have HS3 : Hid (Rd w3 rb en (v :: q)) := HRd.out.below HB; have HG3 : Hid (Fr rb w w3) := HF.out.trans (.of_below HB); clear HB))
        exact ⟨rfl, rfl, HG6.out⟩
      | ok y =>
        obtain ⟨y, r⟩ := y
        have HQ : Hid (r.length < f) := by
          have h1 := HEt.out (own + 1) q
          rw [hsd] at h1
          have h2 : r.length < q.length := h1.2
          have h3 := HLen.out
          simp only [List.length_cons] at h3
          show r.length < f
          omega
        rw [hsd] at HLoop HD
        clear hsd
        have HRe : Hid (loopM sd row f own ⟨K, 0, [], [x, y]⟩ r = R) := HLoop.out
        clear HLoop
        go_wp2_with (first
          | (go_at_call 36; refine (HD.out _ HS5.out).mono ?_; rintro e w6 ⟨⟨yk, yn, ys, ya, yl, yc, rfl, HY⟩, HR6, HF6⟩; obtain ⟨p0, p1, p2, p3, p4⟩ := HX5.out.fr HF6 (Nat.ne_of_gt HL2.out.1); have HX6 : Hid (Cell4 w6 w2.heap.size (.int .i64 tk) (.int .i64 tn) (.string ts) (.slice ta tl tc)) := HX5.out.fr HF6 (Nat.ne_of_gt HL2.out.1); have HZ6 : Hid (Zero4 w6 w.heap.size) := HZ5.out.fr HF6 (Nat.ne_of_gt HL.out); have HS6 : Hid (Rd w6 rb en r) := HR6; have HG6 : Hid (Fr rb w w6) := HG5.out.trans HF6; have HT6 : Hid (Tre w6 (fun g => w.heap.size < g ∧ g ≠ w2.heap.size) (.agg #[.int .i64 tk, .int .i64 tn, .string ts, .slice ta tl tc]) x) := HT5.out.moved HF6 (fun g hg => ⟨Nat.ne_of_gt (Nat.lt_trans HL.out hg.1), hg⟩); have HY6 : Hid (Tre w6 (fun g => w.heap.size < g ∧ g ≠ w2.heap.size) (.agg #[.int .i64 yk, .int .i64 yn, .string ys, .slice ya yl yc]) y) := HY.sub (fun g hg => ⟨Nat.lt_of_lt_of_le HZ5.out.lt hg, Nat.ne_of_gt (Nat.lt_of_lt_of_le HX5.out.lt hg)⟩); have hl6 : w2.heap.size < w6.heap.size := HX6.out.lt; clear HY HR6 HF6)
          | (go_at_call 54; refine (HP.out _ HS3.out).mono ?_; rintro e w5 ⟨rfl, HR5, HF5⟩; have HX5 : Hid (Cell4 w5 w2.heap.size (.int .i64 tk) (.int .i64 tn) (.string ts) (.slice ta tl tc)) := HX3.out.fr HF5 (Nat.ne_of_gt HL2.out.1); have HZ5 : Hid (Zero4 w5 w.heap.size) := HZ3.out.fr HF5 (Nat.ne_of_gt HL.out); have HT5 : Hid (Tre w5 (fun g => w.heap.size < g ∧ g ≠ w2.heap.size) (.agg #[.int .i64 tk, .int .i64 tn, .string ts, .slice ta tl tc]) x) := HT3.out.moved HF5 (fun g hg => ⟨Nat.ne_of_gt (Nat.lt_trans HL.out hg.1), hg⟩); have HS5 : Hid (Rd w5 rb en q) := HR5; have HG5 : Hid (Fr rb w w5) := HG3.out.trans HF5; clear HR5 HF5)
          | (go_at_call 25; refine (HC2.out _).mono ?_; rintro e w4 ⟨rfl, h4⟩; have h5 := h4.symm; clear h4; subst h5)
          | (go_at_call 53; refine (HC.out _ HRd.out).mono ?_; rintro e w3 ⟨rfl, HB⟩; have HX3 : Hid (Cell4 w3 w2.heap.size (.int .i64 tk) (.int .i64 tn) (.string ts) (.slice ta tl tc)) := HX.out.below HB; have HZ3 : Hid (Zero4 w3 w.heap.size) := HZ.out.below HB; have HT3 : Hid (Tre w3 (fun g => w.heap.size < g ∧ g ≠ w2.heap.size) (.agg #[.int .i64 tk, .int .i64 tn, .string ts, .slice ta tl tc]) x) := HTx.out.below HB; have HS3 : Hid (Rd w3 rb en (v :: q)) := HRd.out.below HB; have HG3 : Hid (Fr rb w w3) := HF.out.trans (.of_below HB); clear HB))
        go_roundg f
        case measure => show f < gk; omega
        case rel => exact ⟨own, rfl, by omega, mid_next HX6.out HT6.out HY6.out HZ6.out HS6.out HG6.out HQ.out hK HRe.out HL2.out.2 HL.out⟩
/-- What is promised of an operand, and of a side, at a depth. -/
def Reads (d : Nat) : Prop := ∀ (rb en deep : Nat), d + deep = 17 → ∀ (ws : List W) (w : World), Rd w rb en ws →
  Calls Tryz.prog 52 #[.pointer (some ⟨rb, 0, none⟩), .int .i64 deep] w (Post rb en w (operandM d ws)) ∧
  ∀ row : Nat, row ≤ 6 → Calls Tryz.prog 36 #[.pointer (some ⟨rb, 0, none⟩), .int .i64 row, .int .i64 deep] w (Post rb en w (sdM d row ws))
theorem reads_zero : Reads 0 := by
  intro rb en deep hd ws w hR
  have h1 : ∀ w, Rd w rb en ws → Calls Tryz.prog 52 #[.pointer (some ⟨rb, 0, none⟩), .int .i64 deep] w (Post rb en w (operandM 0 ws)) := fun w hw => operand_deep rb en deep (by omega) (by omega) ws w hw
  exact ⟨h1 w hR, fun row hr => side_err rb en deep row ws (6, ws) w hR h1⟩
theorem reads_succ (d : Nat) (ih : Reads d) : Reads (d + 1) := by
  intro rb en deep hd ws w hR
  have ih2 := ih rb en (deep + 1) (by omega)
  have h1 : ∀ w, Rd w rb en ws → Calls Tryz.prog 52 #[.pointer (some ⟨rb, 0, none⟩), .int .i64 deep] w (Post rb en w (operandM (d + 1) ws)) := fun w hw =>
    operand_any rb en deep d (by omega) ws w hw (fun w h => (ih2 ws.tail w h).1) (fun w h => (ih2 ws.tail w h).2 1 (by omega))
  refine ⟨h1 w hR, fun row hr => ?_⟩
  rw [sdM_succ]
  unfold sideM
  cases hO : operandM (d + 1) ws with
  | error x => rw [hO] at h1; exact side_err rb en deep row ws x w hR h1
  | ok x =>
    obtain ⟨x0, r0⟩ := x
    rw [hO] at h1
    exact side_ok rb en deep row (by omega) hr ws r0 x0 (sdM d) _ w hR h1 (fun k ws w k1 k2 h => (ih2 ws w h).2 (k + 1) (by omega)) (fun k => (pr_eats d).2 k) rfl
theorem reads_any : ∀ d, Reads d
  | 0 => reads_zero
  | d + 1 => reads_succ d (reads_any d)
theorem Post.alloc {rb en : Nat} {w w' : World} {R : Res} {e : Ending} (h : Post rb en w R e w') (o : Obj) : Post rb en w R e (w'.alloc o) := by
  cases R with
  | error x => exact ⟨h.1, h.2.alloc o⟩
  | ok x =>
    obtain ⟨⟨k, n, s, a, l, c, h1, h2⟩, h3, h4⟩ := h
    exact ⟨⟨k, n, s, a, l, c, h1, h2.alloc o⟩, h3.alloc o, h4.alloc o⟩
/-- The whole of the words. -/
def wholeR (ws : List W) : Res :=
  match sdM 16 1 ws with
  | .error e => .error e
  | .ok (x, []) => .ok (x, [])
  | .ok (x, v :: r) => .error (3, v :: r)
set_option maxRecDepth 100000 in
set_option maxHeartbeats 400000 in
theorem whole_any (rb en : Nat) (ws : List W) (w : World) (HR : Hid (Rd w rb en ws)) :
    Calls Tryz.prog 22 #[.pointer (some ⟨rb, 0, none⟩)] w (Post rb en w (wholeR ws)) := by
  have HA : Hid (∀ w, Rd w rb en ws → Calls Tryz.prog 36 #[.pointer (some ⟨rb, 0, none⟩), .int .i64 1, .int .i64 1] w (Post rb en w (sdM 16 1 ws))) := fun w h => (reads_any 16 rb en 1 rfl ws w h).2 1 (by omega)
  have HL : Hid (rb < w.heap.size) := HR.out.lt
  unfold wholeR
  generalize sdM 16 1 ws = S at *
  cases S with
  | error x =>
    obtain ⟨x, r⟩ := x
    go_enter Tryz.func22, Tryz.ntmps22
    go_wp2_with (go_at_call 36; refine (HA.out _ (HR.out.alloc _)).mono ?_; rintro e w2 ⟨rfl, HF2⟩; have HG2 : Hid (Fr rb w w2) := ((Fr.refl rb w).alloc _).trans HF2; clear HF2)
    exact ⟨rfl, rfl, HG2.out⟩
  | ok x =>
    obtain ⟨t, r⟩ := x
    cases r with
    | nil =>
      go_enter Tryz.func22, Tryz.ntmps22
      go_wp2_with (go_at_call 36; refine (HA.out _ (HR.out.alloc _)).mono ?_; rintro e w2 ⟨⟨tk, tn, ts, ta, tl, tc, rfl, HT⟩, HR2, HF2⟩; obtain ⟨a0, cap0, hc0, _, _⟩ := HR2.cells; obtain ⟨q0, q1, q2, q3, q4⟩ := (Cell4.new w _ _ _ _ 24).fr HF2 (Nat.ne_of_gt HL.out); have HZ2 : Hid (Zero4 w2 w.heap.size) := (Cell4.new w _ _ _ _ 24).fr HF2 (Nat.ne_of_gt HL.out); have HS2 : Hid (Rd w2 rb en []) := HR2; have HG2 : Hid (Fr rb w w2) := ((Fr.refl rb w).alloc _).trans HF2; have HT2 : Hid (Tre w2 (fun g => w.heap.size < g) (.agg #[.int .i64 tk, .int .i64 tn, .string ts, .slice ta tl tc]) t) := HT.sub (fun g hg => Nat.lt_of_lt_of_le (Cell4.new w _ _ _ _ 24).lt hg); have hl2 : w.heap.size < w2.heap.size := HZ2.out.lt; have hrb : rb < w2.heap.size := HS2.out.lt; clear HR2 HF2 HT)
      refine bodyPost_ret (v := .agg #[.int .i64 tk, .int .i64 tn, .string ts, .slice ta tl tc]) (by simp [results, Tryz.results22, go_sem, q0, q1, q2, q3, hl2]) rfl ?_
      exact (post_store HT2.out HS2.out HG2.out HL.out).alloc _
    | cons v r =>
      have HX : Hid (∀ w, Rd w rb en (v :: r) → Calls Tryz.prog 37 #[.pointer (some ⟨rb, 0, none⟩), .int .i64 3] w fun e w' => e = .panicked [{ v := .iface 33 (.agg #[.int .i64 3, .int .i64 (atW en (v :: r))]), recovered := false }] ∧ Below w.heap.size w w') := fun w h => throw_any rb en 3 (v :: r) w h
      go_enter Tryz.func22, Tryz.ntmps22
      go_wp2_with (first
        | (go_at_call 37; refine (HX.out _ (HS2.out.alloc _)).mono ?_; rintro e w4 ⟨rfl, HB⟩; have HG4 : Hid (Fr rb w w4) := (HG2.out.alloc _).trans (.of_below HB); clear HB)
        | (go_at_call 36; refine (HA.out _ (HR.out.alloc _)).mono ?_; rintro e w2 ⟨⟨tk, tn, ts, ta, tl, tc, rfl, HT⟩, HR2, HF2⟩; obtain ⟨a0, cap0, hc0, _, _⟩ := (HR2.alloc (.cells #[.int .i64 tk, .int .i64 tn, .string ts, .slice ta tl tc] 24)).cells; have HS2 : Hid (Rd w2 rb en (v :: r)) := HR2; have HG2 : Hid (Fr rb w w2) := ((Fr.refl rb w).alloc _).trans HF2; clear HR2 HF2 HT))
      exact ⟨rfl, rfl, HG4.out⟩
end Go.Proofs.YtlfeejjlcclbdaaGreatDoor
