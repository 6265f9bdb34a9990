/-
  The program's enter, lead, leave: contracts.
-/
import Derived.Test.YtlaiacjlphjmlaaFwA
namespace Go.Proofs.Ytlaiacjlphjmlaa
section
open Go.RowKit
set_option linter.unusedVariables false

theorem drew_alloc (X : World) (c : Obj) : (X.alloc c).drew = X.drew.alloc c := rfl
/-- The walker, and what it keeps. -/
structure Wn (w : World) (B B0 wb fb db jb cb : Nat) (pa : Option Addr) (pc n : Nat) (s : Fs) : Prop where
  wk : ∃ ov, Wk w B B0 wb fb db jb cb pa pc n ov s
  ok : Fok n s
set_option maxRecDepth 100000 in
set_option maxHeartbeats 800000 in
theorem enter_any (B B0 wb fb db jb cb : Nat) (pa : Option Addr) (pc n : Nat) (s : Fs) (p f d : Nat) (w : World) (h : Wn w B B0 wb fb db jb cb pa pc n s) (hn : n ≤ 4096) (hp : p < n) (hf : f < n) (hd : d ≤ 16) (hc : s.cm.getD p false = false) :
    Calls Try.prog 31 #[.pointer (some ⟨wb, 0, none⟩), .int .i64 p, .int .i64 f, .int .i64 d] w fun e w' => e = .returned (.tuple #[]) ∧ Wn w' B B0 wb fb db jb cb pa pc n (s.enter p f d) ∧ Below B w w' := by
  obtain ⟨⟨ov, hk⟩, hok⟩ := h
  have HK : Hid (Wk w B B0 wb fb db jb cb pa pc n ov s) := hk
  have HOk : Hid (Fok n (s.enter p f d)) := hok.enter hp hf hd hc
  have HLn : Hid (s.od.length ≤ 1048576) := by show _ ≤ _; have := hok.len; omega
  have HK3 : Hid (Wk (((w.setCell ⟨cb, p, none⟩ (.bool true)).setCell ⟨fb, p, none⟩ (.int .i64 (f : Nat))).setCell ⟨db, p, none⟩ (.int .i64 (d : Nat))).drew B B0 wb fb db jb cb pa pc n ov ⟨s.fk.set p f, s.dp.set p d, s.jn, s.cm.set p true, s.od⟩) := (((hk.setC p true).setF p f).setD p d).drew
  obtain ⟨c0, c1, c2, c3, c4, c5, fr, k1, k2, k3, k4, od, dis, hhi⟩ := hk
  obtain ⟨d1, d2, d3, d4, d5, d6, d7, d8, d9, d10, m1, m2, m3, m4, m5, m6, m7, m8, m9, m0⟩ := dis
  have e1 := k1.c p (by rw [hok.fk]; exact hp)
  have e2 := k2.c p (by rw [hok.dp]; exact hp)
  have e4 := k4.c p (by rw [hok.cm]; exact hp)
  have g1 := k1.f p
  have g2 := k2.f p
  have g4 := k4.f p
  have hw := World.block_lt_of_cell? _ _ c0
  have hB : Hid (B ≤ w.heap.size) := Nat.le_of_lt (Nat.lt_of_le_of_lt d1 hw)
  obtain ⟨oa, oc, rfl⟩ := od.form
  clear k1 k2 k3 k4 od hok hc
  generalize s.fk.getD p 0 = x1 at *
  generalize s.dp.getD p 0 = x2 at *
  generalize s.cm.getD p false = x4 at *
  go_enter Try.func31, Try.ntmps31
  go_wp2
  go_region
  all_goals go_wp2_with (at_builtin; rw [drew_alloc]; refine list_int rfl (.tmp 34) (.tmp 36) rfl HK3.out.od HK3.out.hi rfl rfl (by simp [World.setCell, World.drew]) HLn.out ?_; intro v5 w5 h5 hg5; obtain ⟨va, vc, rfl⟩ := h5.form1; have HB5 : Hid (Wk (w5.setCell ⟨wb, 5, none⟩ (.slice va (s.od.length + 1) vc)) B B0 wb fb db jb cb pa pc n (.slice va (s.od.length + 1) vc) (s.enter p f d) ∧ Below B0 (((w.setCell ⟨cb, p, none⟩ (.bool true)).setCell ⟨fb, p, none⟩ (.int .i64 (f : Nat))).setCell ⟨db, p, none⟩ (.int .i64 (d : Nat))).drew w5) := (HK3.out.addO h5 hg5).2; obtain ⟨t0, t1, t2⟩ := (HK3.out.addO h5 hg5).1; clear h5 hg5)
  all_goals (
    go_end0
    refine ⟨rfl, ⟨⟨_, HB5.out.1⟩, HOk.out⟩, ?_⟩
    exact (((((Below.refl _ _).setCell (p := ⟨cb, p, none⟩) d5 _).setCell (p := ⟨fb, p, none⟩) d2 _).setCell (p := ⟨db, p, none⟩) d3 _).drew.trans (HB5.out.2.mono (by omega))).setCell (p := ⟨wb, 5, none⟩) d1 _)
end
section
open Go.RowKit
set_option linter.unusedVariables false

set_option maxRecDepth 100000 in
set_option maxHeartbeats 800000 in
theorem lead_any (B B0 wb fb db jb cb : Nat) (pa : Option Addr) (pc n : Nat) (s : Fs) (p f : Nat) (w : World) (h : Wn w B B0 wb fb db jb cb pa pc n s) (hn : n ≤ 4096) (hp : p < n) (hf : f < n) :
    Calls Try.prog 33 #[.pointer (some ⟨wb, 0, none⟩), .int .i64 p, .int .i64 f] w fun e w' => e = .returned (.int .i64 ((leadS s p f).1 : Nat)) ∧ Wn w' B B0 wb fb db jb cb pa pc n (leadS s p f).2 ∧ Below B w w' := by
  have HW : Hid (Wn w B B0 wb fb db jb cb pa pc n s) := h
  obtain ⟨⟨ov, hk⟩, hok⟩ := h
  obtain ⟨c0, c1, c2, c3, c4, c5, fr, k1, k2, k3, k4, od, dis, hhi⟩ := hk
  have e4 := k4.c p (by rw [hok.cm]; exact hp)
  have e1 := k1.c p (by rw [hok.fk]; exact hp)
  have e2 := k2.c f (by rw [hok.dp]; exact hf)
  have hdl : s.dp.getD f 0 ≤ 16 := getD_mem_le hok.dpl
  by_cases hc : s.cm.getD p false = true
  · rw [hc] at e4
    by_cases hq : s.fk.getD p 0 = f
    · have HL : Hid (leadS s p f = (0, s)) := by show _ = _; unfold leadS; rw [if_pos hc, if_neg (by omega)]
      rw [HL.out]
      rw [hq] at e1
      clear k1 k2 k3 k4 od dis hok e2 hdl hc hq
      go_enter Try.func33, Try.ntmps33
      go_wp2
      go_ret
      exact ⟨rfl, HW.out, Below.refl _ _⟩
    · have HL : Hid (leadS s p f = (8, s)) := by show _ = _; unfold leadS; rw [if_pos hc, if_pos hq]
      rw [HL.out]
      have hq2 : ¬ ((s.fk.getD p 0 : Nat) : Int) = (f : Int) := by omega
      clear k1 k2 k3 k4 od dis hok e2 hdl hc hq
      generalize s.fk.getD p 0 = x at *
      go_enter Try.func33, Try.ntmps33
      go_wp2
      go_ret
      exact ⟨rfl, HW.out, Below.refl _ _⟩
  · have hc2 : s.cm.getD p false = false := by simpa using hc
    rw [hc2] at e4
    by_cases hd : 16 < deepS s f
    · have HL : Hid (leadS s p f = (6, s)) := by show _ = _; unfold leadS; rw [if_neg hc, if_pos hd]
      rw [HL.out]
      have hf0 : f ≠ 0 := fun e => by rw [e] at hd; simp [deepS] at hd
      have hd2 : 16 < s.dp.getD f 0 + 1 := by unfold deepS at hd; rw [if_pos hf0] at hd; exact hd
      have hf1 : ¬ (f : Int) = 0 := by omega
      clear k1 k2 k3 k4 od dis hok e1 hc hc2 hd
      generalize s.dp.getD f 0 = x at *
      go_enter Try.func33, Try.ntmps33
      go_wp2
      go_ret
      exact ⟨rfl, HW.out, Below.refl _ _⟩
    · have HL : Hid (leadS s p f = (0, s.enter p f (deepS s f))) := by show _ = _; unfold leadS; rw [if_neg hc, if_neg hd]
      rw [HL.out]
      have HE : Hid (Calls Try.prog 31 #[.pointer (some ⟨wb, 0, none⟩), .int .i64 p, .int .i64 f, .int .i64 (deepS s f : Nat)] w fun e w' => e = .returned (.tuple #[]) ∧ Wn w' B B0 wb fb db jb cb pa pc n (s.enter p f (deepS s f)) ∧ Below B w w') := enter_any B B0 wb fb db jb cb pa pc n s p f (deepS s f) w HW.out hn hp hf (by omega) hc2
      by_cases hf0 : f = 0
      · have hz : deepS s f = 0 := by unfold deepS; rw [if_neg (by omega)]
        rw [hz] at HE ⊢
        subst hf0
        clear k1 k2 k3 k4 od dis hok e1 e2 hc hc2 hd hz HL
        go_enter Try.func33, Try.ntmps33
        go_wp2_with (go_at_call 31; refine HE.out.mono ?_; rintro e w2 ⟨rfl, q1, q2⟩; have HQ : Hid (Wn w2 B B0 wb fb db jb cb pa pc n (s.enter p 0 0) ∧ Below B w w2) := ⟨q1, q2⟩; clear q1 q2)
        go_ret
        exact ⟨rfl, HQ.out.1, HQ.out.2⟩
      · have hz : deepS s f = s.dp.getD f 0 + 1 := by unfold deepS; rw [if_pos hf0]
        rw [hz] at HE hd ⊢
        rw [show ((s.dp.getD f 0 + 1 : Nat) : Int) = (s.dp.getD f 0 : Int) + 1 by omega] at HE
        have hf1 : ¬ (f : Int) = 0 := by omega
        clear k1 k2 k3 k4 od dis hok e1 hc hc2 hz HL
        generalize s.dp.getD f 0 = x at *
        go_enter Try.func33, Try.ntmps33
        go_wp2_with (go_at_call 31; refine HE.out.mono ?_; rintro e w2 ⟨rfl, q1, q2⟩; have HQ : Hid (Wn w2 B B0 wb fb db jb cb pa pc n (s.enter p f (x + 1)) ∧ Below B w w2) := ⟨q1, q2⟩; clear q1 q2)
        go_ret
        exact ⟨rfl, HQ.out.1, HQ.out.2⟩
/-- The places that are walked, in memory below a base. -/
structure Plz (w : World) (B : Nat) (pa : Option Addr) (pc n : Nat) (ps : List Pl) : Prop where
  v : PlsV w (fun g => g < B) (.slice pa n pc) ps
  len : ps.length = n
theorem Plz.below {w w' : World} {B : Nat} {pa : Option Addr} {pc n : Nat} {ps : List Pl} (h : Plz w B pa pc n ps) (hb : Below B w w') : Plz w' B pa pc n ps := ⟨h.v.kept (kept_base hb fun g hg => hg), h.len⟩
set_option maxRecDepth 100000 in
set_option maxHeartbeats 800000 in
theorem leave_any (B B0 wb fb db jb cb : Nat) (pa : Option Addr) (pc n : Nat) (ps : List Pl) (s : Fs) (p : Nat) (w : World) (h : Wn w B B0 wb fb db jb cb pa pc n s) (hps : Plz w B pa pc n ps) (hn : n ≤ 4096) (hp : p < n) :
    Calls Try.prog 32 #[.pointer (some ⟨wb, 0, none⟩), .int .i64 p] w fun e w' => e = .returned (.tuple #[.int .i64 ((leaveS ps s p).1 : Nat), .int .i64 ((leaveS ps s p).2.1 : Nat)]) ∧ Wn w' B B0 wb fb db jb cb pa pc n (leaveS ps s p).2.2 ∧ Below B w w' := by
  have HW : Hid (Wn w B B0 wb fb db jb cb pa pc n s) := h
  have HOk2 : Hid (Fok n (leaveS ps s p).2.2) := (h.ok.leave ps hp).1
  obtain ⟨⟨ov, hk⟩, hok⟩ := h
  have HK : Hid (Wk w B B0 wb fb db jb cb pa pc n ov s) := hk
  obtain ⟨c0, c1, c2, c3, c4, c5, fr, k1, k2, k3, k4, od, dis, hhi⟩ := hk
  have e1 := k1.c p (by rw [hok.fk]; exact hp)
  have hfl : s.fk.getD p 0 < n := getD_mem_or hok.fkl (by omega)
  have e2 := k1.c (s.fk.getD p 0) (by rw [hok.fk]; exact hfl)
  have e3 := k3.c (s.fk.getD p 0) (by rw [hok.jn]; exact hfl)
  have g3 := k3.f (s.fk.getD p 0)
  have hjb := World.block_lt_of_cell? _ _ e3
  have hcap := hps.v.cap
  obtain ⟨qb, qo, aa, ca, ao, co, rfl, hPb, hPA⟩ := hps.v.at p (by rw [hps.len]; exact hp)
  have x0 := hPA.c0
  have hkk : (ps.getD p zeroP).kind = kindP ps p := rfl
  rw [hkk] at x0
  have hlen := hps.len
  obtain ⟨hcap1, hcap2⟩ := hcap
  have hjl : B ≤ jb := dis.l4
  have hij := dis.n6
  have hwj := dis.n3
  clear k1 k2 k3 k4 od dis hok hPA hPb
  by_cases h8 : kindP ps p = 8
  · rw [h8] at x0
    by_cases h0 : s.fk.getD p 0 = 0
    · have HL : Hid (leaveS ps s p = (0, 0, s)) := by show _ = _; unfold leaveS; rw [if_pos h8, if_neg (by omega), h0]
      rw [HL.out]
      rw [h0] at e1
      clear e2 e3 g3 hjb HL HOk2
      go_enter Try.func32, Try.ntmps32
      go_wp2
      go_ret2
      exact ⟨rfl, HW.out, Below.refl _ _⟩
    · have HL : Hid (leaveS ps s p = (0, 8, s)) := by show _ = _; unfold leaveS; rw [if_pos h8, if_pos h0]
      rw [HL.out]
      have h1 : ¬ ((s.fk.getD p 0 : Nat) : Int) = 0 := by omega
      clear e2 e3 g3 hjb HL HOk2
      generalize s.fk.getD p 0 = x at *
      go_enter Try.func32, Try.ntmps32
      go_wp2
      go_ret2
      exact ⟨rfl, HW.out, Below.refl _ _⟩
  · by_cases h4 : kindP ps p = 4
    · rw [h4] at x0
      have HL : Hid (leaveS ps s p = (p, 0, s)) := by show _ = _; unfold leaveS; rw [if_neg h8, if_pos h4]
      rw [HL.out]
      clear e2 e3 g3 hjb HL HOk2 h8 h4
      generalize s.fk.getD p 0 = x at *
      go_enter Try.func32, Try.ntmps32
      go_wp2
      go_ret2
      exact ⟨rfl, HW.out, Below.refl _ _⟩
    · by_cases h5 : kindP ps p = 5
      · rw [h5] at x0
        by_cases h0 : s.fk.getD p 0 = 0
        · have HL : Hid (leaveS ps s p = (0, 8, s)) := by show _ = _; unfold leaveS; rw [if_neg h8, if_neg h4, if_pos h5, if_pos (.inl h0)]
          rw [HL.out]
          rw [h0] at e1
          clear e2 e3 g3 hjb HL HOk2 h8 h4 h5
          go_enter Try.func32, Try.ntmps32
          go_wp2
          go_ret2
          exact ⟨rfl, HW.out, Below.refl _ _⟩
        · have h1 : ¬ ((s.fk.getD p 0 : Nat) : Int) = 0 := by omega
          by_cases hj : s.jn.getD (s.fk.getD p 0) 0 = 0
          · have HL : Hid (leaveS ps s p = (s.fk.getD (s.fk.getD p 0) 0, 0, ⟨s.fk, s.dp, s.jn.set (s.fk.getD p 0) p, s.cm, s.od⟩)) := by
              show _ = _
              unfold leaveS
              rw [if_neg h8, if_neg h4, if_pos h5, if_neg (by rintro (q | q); exact h0 q; exact q hj)]
            rw [HL.out] at HOk2 ⊢
            rw [hj] at e3
            have HF : Hid (Wn (w.setCell ⟨jb, s.fk.getD p 0, none⟩ (.int .i64 (p : Nat))) B B0 wb fb db jb cb (some ⟨qb, qo, none⟩) pc n ⟨s.fk, s.dp, s.jn.set (s.fk.getD p 0) p, s.cm, s.od⟩) := ⟨⟨_, HK.out.setJ _ _⟩, HOk2.out⟩
            clear HL HOk2 h8 h4 h5 hj
            generalize hxf : s.fk.getD p 0 = x at *
            clear hxf
            generalize s.fk.getD x 0 = y at *
            go_enter Try.func32, Try.ntmps32
            go_wp2
            go_ret2
            exact ⟨rfl, HF.out, (Below.refl _ _).setCell (p := ⟨jb, x, none⟩) hjl _⟩
          · have HL : Hid (leaveS ps s p = (0, 8, s)) := by show _ = _; unfold leaveS; rw [if_neg h8, if_neg h4, if_pos h5, if_pos (.inr hj)]
            rw [HL.out]
            have hj1 : ¬ ((s.jn.getD (s.fk.getD p 0) 0 : Nat) : Int) = 0 := by omega
            have hj2 : (((s.jn.getD (s.fk.getD p 0) 0 : Nat) : Int) != 0) = true := by rw [bne_iff_ne]; exact hj1
            have hj3 : ¬ s.jn.getD (s.fk.getD p 0) 0 = 0 := hj
            clear e2 HL HOk2 h8 h4 h5 hj
            generalize s.jn.getD (s.fk.getD p 0) 0 = y at *
            generalize s.fk.getD p 0 = x at *
            go_enter Try.func32, Try.ntmps32
            go_wp2
            go_ret2
            exact ⟨rfl, HW.out, Below.refl _ _⟩
      · have HL : Hid (leaveS ps s p = (s.fk.getD p 0, 0, s)) := by show _ = _; unfold leaveS; rw [if_neg h8, if_neg h4, if_neg h5]
        rw [HL.out]
        have g8 : (kindP ps p == 8) = false := by rw [beq_eq_false_iff_ne]; exact h8
        have g4 : (kindP ps p == 4) = false := by rw [beq_eq_false_iff_ne]; exact h4
        have g5 : (kindP ps p == 5) = false := by rw [beq_eq_false_iff_ne]; exact h5
        clear e2 e3 g3 hjb HL HOk2
        generalize s.fk.getD p 0 = x at *
        generalize kindP ps p = kk at *
        go_enter Try.func32, Try.ntmps32
        go_wp2
        go_ret2
        exact ⟨rfl, HW.out, Below.refl _ _⟩
end
section
open Go.RowKit
set_option linter.unusedVariables false

theorem whole_yes {ps : List Pl} {s : Fs} (h : ∀ i, i < ps.length → badAt ps s i = false) : wholeS ps s = true := by
  unfold wholeS
  rw [List.all_eq_true]
  intro i hi
  rw [h i (List.mem_range.mp hi)]; rfl
theorem whole_no {ps : List Pl} {s : Fs} {i : Nat} (hi : i < ps.length) (h : badAt ps s i = true) : wholeS ps s = false := by
  unfold wholeS
  rw [List.all_eq_false]
  exact ⟨i, List.mem_range.mpr hi, by rw [h]; decide⟩
theorem Wn.below {w w' : World} {B B0 wb fb db jb cb : Nat} {pa : Option Addr} {pc n : Nat} {s : Fs} (h : Wn w B B0 wb fb db jb cb pa pc n s) (hb : Below w.heap.size w w') : Wn w' B B0 wb fb db jb cb pa pc n s := by
  obtain ⟨⟨ov, hk⟩, hok⟩ := h
  exact ⟨⟨ov, hk.below hb⟩, hok⟩
set_option maxRecDepth 100000 in
set_option maxHeartbeats 1600000 in
theorem whole_any (B B0 wb fb db jb cb : Nat) (pa : Option Addr) (pc n : Nat) (ps : List Pl) (s : Fs) (w : World) (h : Wn w B B0 wb fb db jb cb pa pc n s) (hps : Plz w B pa pc n ps) (hn : n ≤ 4096) :
    Calls Try.prog 34 #[.pointer (some ⟨wb, 0, none⟩)] w fun e w' => e = .returned (.bool (wholeS ps s)) ∧ Below w.heap.size w w' := by
  have HW : Hid (∀ wr, Below w.heap.size w wr → Wn wr B B0 wb fb db jb cb pa pc n s) := fun wr q => h.below q
  have HY : Hid ((∀ i, i < n → badAt ps s i = false) → wholeS ps s = true) := fun q => whole_yes (by rw [hps.len]; exact q)
  have HN : Hid (∀ i, i < n → badAt ps s i = true → wholeS ps s = false) := fun i hi q => whole_no (by rw [hps.len]; exact hi) q
  have HP : Hid (∀ i wr, i < n → Below w.heap.size w wr → ∃ qb qo aa ca ao co, pa = some ⟨qb, qo, none⟩ ∧ PlAt wr (fun g => g < B) qb (qo + i * 5) (ps.getD i zeroP) aa ca ao co) := fun i wr hi hb => by
    obtain ⟨qb, qo, aa, ca, ao, co, e1, e2, e3⟩ := hps.v.at i (by rw [hps.len]; exact hi)
    exact ⟨qb, qo, aa, ca, ao, co, e1, e3.kept e2 (kept_below hb)⟩
  obtain ⟨hcap1, hcap2⟩ := hps.v.cap
  obtain ⟨⟨ov, hk⟩, hok⟩ := h
  have c0 := hk.c0
  have HF : Hid (s.cm.length = n ∧ s.jn.length = n) := ⟨hok.cm, hok.jn⟩
  clear hk hok hps
  go_enter Try.func34, Try.ntmps34
  go_wp2
  go_loopw [10] (fun v wr => ∃ (i : Nat), i ≤ n ∧ v = .int .i64 i ∧ Hid (Below w.heap.size w wr ∧ ∀ j, j < i → badAt ps s j = false)) (fun v _ => n - (intOf v).toNat)
  case atStart => exact ⟨0, Nat.zero_le _, rfl, Below.refl _ _, fun j hj => absurd hj (Nat.not_lt_zero _)⟩
  case round =>
    obtain ⟨i, hi, rfl, HR⟩ := hrel
    by_cases hlt : i < n
    · obtain ⟨qb, qo, aa, ca, ao, co, rfl, hPA⟩ := HP.out i wr hlt HR.out.1
      obtain ⟨p0, p1, p2, p3, p4, _⟩ := hPA
      have hkk : (ps.getD i zeroP).kind = kindP ps i := rfl
      rw [hkk] at p0
      have hbl := World.block_lt_of_cell? _ _ p0
      obtain ⟨⟨ov2, hk⟩, _⟩ := HW.out wr HR.out.1
      have x0 := hk.c0
      have x3 := hk.c3
      have x4 := hk.c4
      have e4 := hk.cm.c i (by rw [HF.out.1]; exact hlt)
      have e3 := hk.jn.c i (by rw [HF.out.2]; exact hlt)
      have hlw := World.block_lt_of_cell? _ _ x0
      have hlc := World.block_lt_of_cell? _ _ e4
      have hlj := World.block_lt_of_cell? _ _ e3
      clear hk
      have hcase : s.cm.getD i false = false ∨ (s.cm.getD i false = true ∧ ¬ kindP ps i = 4) ∨ (s.cm.getD i false = true ∧ kindP ps i = 4 ∧ s.jn.getD i 0 = 0) ∨ (s.cm.getD i false = true ∧ kindP ps i = 4 ∧ ¬ s.jn.getD i 0 = 0) := by
        by_cases q1 : s.cm.getD i false = true
        · by_cases q2 : kindP ps i = 4
          · by_cases q3 : s.jn.getD i 0 = 0
            · exact .inr (.inr (.inl ⟨q1, q2, q3⟩))
            · exact .inr (.inr (.inr ⟨q1, q2, q3⟩))
          · exact .inr (.inl ⟨q1, q2⟩)
        · exact .inl (by simpa using q1)
      have HRb : Hid (Below w.heap.size w wr) := HR.out.1
      rcases hcase with h1 | ⟨h1, h2⟩ | ⟨h1, h2, h3⟩ | ⟨h1, h2, h3⟩
      · have HX : Hid (wholeS ps s = false) := HN.out i hlt (by unfold badAt; rw [h1]; rfl)
        rw [h1] at e4
        clear h1 HY HN HP HW
        generalize kindP ps i = kk at *
        generalize ba (ps.getD i zeroP).name = nm at *
        generalize (ps.getD i zeroP).n = pn at *
        generalize (ps.getD i zeroP).arg.length = al at *
        generalize (ps.getD i zeroP).out.length = ol at *
        generalize s.jn.getD i 0 = jx at *
        go_wp2_with fail
        go_ret
        exact ⟨by rw [HX.out]; rfl, HRb.out.alloc HRb.out.size _⟩
      · have HX : Hid (badAt ps s i = false) := by show _ = _; unfold badAt; rw [h1]; simp [h2]
        have h4 : (kindP ps i == 4) = false := by rw [beq_eq_false_iff_ne]; exact h2
        rw [h1] at e4
        clear h1 HY HN HP HW
        generalize kindP ps i = kk at *
        generalize ba (ps.getD i zeroP).name = nm at *
        generalize (ps.getD i zeroP).n = pn at *
        generalize (ps.getD i zeroP).arg.length = al at *
        generalize (ps.getD i zeroP).out.length = ol at *
        generalize s.jn.getD i 0 = jx at *
        go_wp2_with fail
        go_roundw
        case rel => exact ⟨i + 1, by omega, by go_num, HRb.out.alloc HRb.out.size _, fun j hj => by by_cases hji : j = i; subst hji; exact HX.out; exact HR.out.2 j (by omega)⟩
        case measure => simp [intOf]; omega
      · have HX : Hid (wholeS ps s = false) := HN.out i hlt (by unfold badAt; rw [h1, decide_eq_true h2, decide_eq_true h3]; rfl)
        rw [h1] at e4
        rw [h2] at p0
        rw [h3] at e3
        clear h1 h2 h3 HY HN HP HW
        generalize ba (ps.getD i zeroP).name = nm at *
        generalize (ps.getD i zeroP).n = pn at *
        generalize (ps.getD i zeroP).arg.length = al at *
        generalize (ps.getD i zeroP).out.length = ol at *
        go_wp2_with fail
        go_ret
        exact ⟨by rw [HX.out]; rfl, HRb.out.alloc HRb.out.size _⟩
      · have HX : Hid (badAt ps s i = false) := by show _ = _; unfold badAt; rw [h1, decide_eq_true h2, decide_eq_false h3]; rfl
        have h5 : (((s.jn.getD i 0 : Nat) : Int) == 0) = false := by rw [beq_eq_false_iff_ne]; omega
        rw [h1] at e4
        rw [h2] at p0
        clear h1 h2 h3 HY HN HP HW
        generalize ba (ps.getD i zeroP).name = nm at *
        generalize (ps.getD i zeroP).n = pn at *
        generalize (ps.getD i zeroP).arg.length = al at *
        generalize (ps.getD i zeroP).out.length = ol at *
        generalize s.jn.getD i 0 = jx at *
        go_wp2_with fail
        go_roundw
        case rel => exact ⟨i + 1, by omega, by go_num, HRb.out.alloc HRb.out.size _, fun j hj => by by_cases hji : j = i; subst hji; exact HX.out; exact HR.out.2 j (by omega)⟩
        case measure => simp [intOf]; omega
    · have HX : Hid (wholeS ps s = true) := HY.out fun j hj => HR.out.2 j (by omega)
      have HRb : Hid (Below w.heap.size w wr) := HR.out.1
      clear HY HN HP HW HR
      go_wp2_with fail
      go_ret
      exact ⟨by rw [HX.out]; rfl, HRb.out⟩
end
end Go.Proofs.Ytlaiacjlphjmlaa
