/-
  The program's through: its contract.
-/
import Derived.Test.YtlaiacjlphjmlaaFwZ
import Derived.WalkMore
namespace Go.Proofs.Ytlaiacjlphjmlaa
open Go.RowKit
set_option linter.unusedVariables false

theorem Gw.int_at {w : World} {B : Nat} {v : Value} {ts : List Nat} (h : Gw intR 3 1 w B v ts) {i : Nat} (hi : i < ts.length) : ∃ g c, v = .slice (some ⟨g, 0, none⟩) ts.length c ∧ ts.length ≤ c ∧ c ≤ 9223372036854775807 ∧ w.cell? ⟨g, i, none⟩ = some (.int .i64 (ts.getD i 0 : Nat)) := by
  obtain ⟨xs, ⟨h1, h2⟩, h3⟩ := h
  rcases h2 with ⟨_, h2⟩ | ⟨g, cap, cur, q1, q2, q3, q4, q5, q6, q7⟩
  · omega
  · refine ⟨g, cap, q1, q4, q5, ?_⟩
    have hx := h3 i hi
    have e : (xs.drop (i * 1)).take 1 = [.int .i64 (ts[i] : Nat)] := hx
    have e2 := cells_at e (i := 0) (by decide)
    rw [cell_of_row _ _ _ _ 3 (0, 0) q3]
    have e3 : cur.toList[i]? = xs[i]? := by
      rw [← q7, List.getElem?_take]
      rw [if_pos (by omega)]
    have e4 : cur[i]? = cur.toList[i]? := by simp
    rw [e4, e3]
    have e5 : xs[i * 1 + 0]? = some (.int .i64 (ts[i] : Nat)) := e2
    rw [Nat.mul_one, Nat.add_zero] at e5
    rw [e5]
    congr 3
    simp [List.getD_eq_getElem?_getD, hi]
theorem leave_od (ps : List Pl) (s : Fs) (p : Nat) : (leaveS ps s p).2.2.od = s.od := by
  unfold leaveS
  repeat' split
  all_goals rfl
theorem lead_od (s : Fs) (p f : Nat) : s.od.length ≤ (leadS s p f).2.od.length := by
  unfold leadS
  repeat' split
  all_goals simp [Fs.enter]
theorem leads_od (f : Nat) : ∀ (l : List Fl) (s : Fs), s.od.length ≤ (leadsS f l s).2.od.length
  | [], s => Nat.le_refl _
  | x :: r, s => by
    unfold leadsS
    split
    · exact lead_od _ _ _
    · exact Nat.le_trans (lead_od _ _ _) (leads_od f r _)
/-- The flows of a place, in memory. -/
theorem out_at {w : World} {B : Nat} {pa : Option Addr} {pc n : Nat} {ps : List Pl} (h : Plz w B pa pc n ps) {p : Nat} (hp : p < n) : ∃ qb qo ao co, pa = some ⟨qb, qo, none⟩ ∧ w.cell? ⟨qb, qo + p * 5 + 4, none⟩ = some (.slice ao (outP ps p).length co) ∧ FlsV w (fun g => g < B) (.slice ao (outP ps p).length co) (outP ps p) ∧ qb < B := by
  obtain ⟨qb, qo, aa, ca, ao, co, e1, e2, e3⟩ := h.v.at p (by rw [h.len]; exact hp)
  exact ⟨qb, qo, ao, co, e1, e3.c4, e3.val.out, e2⟩
set_option maxRecDepth 100000 in
set_option maxHeartbeats 1600000 in
theorem through_any (B B0 wb fb db jb cb : Nat) (pa : Option Addr) (pc n : Nat) (ps : List Pl) (s : Fs) (w : World) (h : Wn w B B0 wb fb db jb cb pa pc n s) (hps : Plz w B pa pc n ps) (hn : n ≤ 4096) (hB : B ≤ w.heap.size) (hto : ∀ p, p < n → ∀ x ∈ outP ps p, 0 ≤ x.to ∧ x.to.toNat < n) :
    Calls Try.prog 20 #[.pointer (some ⟨wb, 0, none⟩)] w fun e w' => e = .returned (.int .i64 (throughS ps s : Nat)) ∧ Wn w' B B0 wb fb db jb cb pa pc n (goS ps (n + 1) 0 s).2 ∧ Below B w w' := by
  have HTh : Hid (∀ er s2, goS ps (n + 1) 0 s = (er, s2) → throughS ps s = if er = 0 ∧ wholeS ps s2 = false then 8 else er) := fun er s2 q => by unfold throughS; rw [hps.len, q]
  have HLv : Hid (∀ s1 p w1, Wn w1 B B0 wb fb db jb cb pa pc n s1 → Plz w1 B pa pc n ps → p < n → Calls Try.prog 32 #[.pointer (some ⟨wb, 0, none⟩), .int .i64 p] w1 fun e w' => e = .returned (.tuple #[.int .i64 ((leaveS ps s1 p).1 : Nat), .int .i64 ((leaveS ps s1 p).2.1 : Nat)]) ∧ Wn w' B B0 wb fb db jb cb pa pc n (leaveS ps s1 p).2.2 ∧ Below B w1 w') := fun s1 p w1 q1 q2 q3 => leave_any B B0 wb fb db jb cb pa pc n ps s1 p w1 q1 q2 hn q3
  have HLd : Hid (∀ s1 p f w1, Wn w1 B B0 wb fb db jb cb pa pc n s1 → p < n → f < n → Calls Try.prog 33 #[.pointer (some ⟨wb, 0, none⟩), .int .i64 p, .int .i64 f] w1 fun e w' => e = .returned (.int .i64 ((leadS s1 p f).1 : Nat)) ∧ Wn w' B B0 wb fb db jb cb pa pc n (leadS s1 p f).2 ∧ Below B w1 w') := fun s1 p f w1 q1 q2 q3 => lead_any B B0 wb fb db jb cb pa pc n s1 p f w1 q1 hn q2 q3
  have HWh : Hid (∀ s1 w1, Wn w1 B B0 wb fb db jb cb pa pc n s1 → Plz w1 B pa pc n ps → Calls Try.prog 34 #[.pointer (some ⟨wb, 0, none⟩)] w1 fun e w' => e = .returned (.bool (wholeS ps s1)) ∧ Below w1.heap.size w1 w') := fun s1 w1 q1 q2 => whole_any B B0 wb fb db jb cb pa pc n ps s1 w1 q1 q2 hn
  have HPs : Hid (∀ w1, Below B w w1 → Plz w1 B pa pc n ps) := fun w1 q => hps.below q
  have HTo : Hid (∀ p, p < n → ∀ x ∈ outP ps p, 0 ≤ x.to ∧ x.to.toNat < n) := hto
  have H0 : Hid (Wn w B B0 wb fb db jb cb pa pc n s) := h
  clear h hps hto
  go_enter Try.func20, Try.ntmps20
  go_wp2
  go_step3
  go_wp2
  go_step3
  go_wp2
  go_loopw [3, 4] (fun v i wr => ∃ (k : Nat), v = .int .i64 0 ∧ i = .int .i64 k ∧ k ≤ n ∧ Hid (∃ s1, k ≤ s1.od.length ∧ Wn wr B B0 wb fb db jb cb pa pc n s1 ∧ Below B w wr ∧ goS ps (n + 1) 0 s = goS ps (n + 1 - k) k s1)) (fun _ i _ => n + 1 - (intOf i).toNat)
  case atStart => exact ⟨0, rfl, rfl, Nat.zero_le _, s, Nat.zero_le _, H0.out, Below.refl _ _, rfl⟩
  case round =>
    obtain ⟨k, rfl, rfl, hkn, HR⟩ := hrel
    obtain ⟨s1, hks, hW1, hB1, hgo⟩ := HR.out
    have HW1 : Hid (Wn wr B B0 wb fb db jb cb pa pc n s1) := hW1
    have HB1 : Hid (Below B w wr) := hB1
    have HGo : Hid (goS ps (n + 1) 0 s = goS ps (n + 1 - k) k s1) := hgo
    have HOk : Hid (Fok n s1) := hW1.ok
    obtain ⟨⟨ov, hk⟩, hok⟩ := hW1
    have hol := hok.len
    have c0 := hk.c0
    have c5 := hk.c5
    have hlw := World.block_lt_of_cell? _ _ c0
    by_cases hlt : k < s1.od.length
    · obtain ⟨og, oc, rfl, ho1, ho2, ho3⟩ := hk.od.int_at hlt
      have hat : s1.od.getD k 0 < n := getD_mem_or hok.odl (by omega)
      have HSt : Hid (goS ps (n + 1 - k) k s1 = if (stepS ps s1 (s1.od.getD k 0)).1 ≠ 0 then stepS ps s1 (s1.od.getD k 0) else goS ps (n + 1 - (k + 1)) (k + 1) (stepS ps s1 (s1.od.getD k 0)).2) := by
        show _ = _
        rw [show n + 1 - k = (n + 1 - (k + 1)) + 1 by omega, goS, if_pos hlt]
      have HC32 : Hid (Calls Try.prog 32 #[.pointer (some ⟨wb, 0, none⟩), .int .i64 (s1.od.getD k 0 : Nat)] wr fun e w' => e = .returned (.tuple #[.int .i64 ((leaveS ps s1 (s1.od.getD k 0)).1 : Nat), .int .i64 ((leaveS ps s1 (s1.od.getD k 0)).2.1 : Nat)]) ∧ Wn w' B B0 wb fb db jb cb pa pc n (leaveS ps s1 (s1.od.getD k 0)).2.2 ∧ Below B wr w') := HLv.out _ _ _ HW1.out (HPs.out _ HB1.out) hat
      have HLvk : Hid ((leaveS ps s1 (s1.od.getD k 0)).1 < n) := (hok.leave ps hat).2
      have HStp : Hid (stepS ps s1 (s1.od.getD k 0) = if (leaveS ps s1 (s1.od.getD k 0)).2.1 ≠ 0 then ((leaveS ps s1 (s1.od.getD k 0)).2.1, (leaveS ps s1 (s1.od.getD k 0)).2.2) else leadsS (leaveS ps s1 (s1.od.getD k 0)).1 (outP ps (s1.od.getD k 0)) (leaveS ps s1 (s1.od.getD k 0)).2.2) := rfl
      clear hk hok hgo hB1 HR
      generalize hpp : s1.od.getD k 0 = p at *
      clear hpp
      have hE : (leaveS ps s1 p).2.1 = 0 ∨ (leaveS ps s1 p).2.1 ≠ 0 := by omega
      have HLF : Hid ((leaveS ps s1 p).1 < n) := HLvk.out
      have hLF : (leaveS ps s1 p).1 < n := HLvk.out
      have HOd : Hid (k < (leaveS ps s1 p).2.2.od.length) := by show _ < _; rw [leave_od]; exact hlt
      clear HLvk
      generalize (leaveS ps s1 p).1 = F at *
      generalize (leaveS ps s1 p).2.2 = S2 at *
      generalize (leaveS ps s1 p).2.1 = E at *
      rcases hE with rfl | hE
      · have HSt2 : Hid (stepS ps s1 p = leadsS F (outP ps p) S2) := by show _ = _; rw [HStp.out, if_neg (by omega)]
        have HPz : Hid (∀ wx, Below B w wx → ∃ qb qo ao co, pa = some ⟨qb, qo, none⟩ ∧ wx.cell? ⟨qb, qo + p * 5 + 4, none⟩ = some (.slice ao (outP ps p).length co) ∧ FlsV wx (fun g => g < B) (.slice ao (outP ps p).length co) (outP ps p) ∧ qb < B) := fun wx q => out_at (HPs.out wx q) hat
        have HTp : Hid (∀ x ∈ outP ps p, 0 ≤ x.to ∧ x.to.toNat < n) := HTo.out p hat
        obtain ⟨pcap1, pcap2⟩ := (HPs.out w (Below.refl _ _)).v.cap
        go_wp2_with (go_at_call 32; refine HC32.out.mono ?_; rintro e w2 ⟨rfl, q1, q2⟩; have HQ : Hid (Wn w2 B B0 wb fb db jb cb pa pc n S2 ∧ Below B w w2) := ⟨q1, HB1.out.trans q2⟩; obtain ⟨⟨ov2, hk2⟩, _⟩ := q1; have d0 := hk2.c0; have hlw2 := World.block_lt_of_cell? _ _ d0; obtain ⟨qb, qo, ao, co, rfl, x4, hfl, hqb⟩ := HPz.out w2 HQ.out.2; have hlq := World.block_lt_of_cell? _ _ x4; obtain ⟨fcap1, fcap2⟩ := hfl.cap; have HFl : Hid (FlsV w2 (fun g => g < B) (.slice ao (outP ps p).length co) (outP ps p)) := hfl; clear q2 hk2 hfl)
        have HFa : Hid (∀ j (hj : j < (outP ps p).length) wx, Below B w2 wx → ∃ gb go ka kc, ao = some ⟨gb, go, none⟩ ∧ FlAt wx (fun g => g < B) gb (go + j * 2) (outP ps p)[j] ka kc) := fun j hj wx q => by
          obtain ⟨gb, go, ka, kc, e1, e2, e3⟩ := HFl.out.at j hj
          rw [getD_memF hj] at e3
          exact ⟨gb, go, ka, kc, e1, e3.kept e2 (kept_base q fun g hg => hg)⟩
        clear HPz HFl x4 d0
        generalize outP ps p = outs at *
        go_loopw [42, 3] (fun i v wr => ∃ (j : Nat), v = .int .i64 0 ∧ i = .int .i64 j ∧ j ≤ outs.length ∧ Hid (∃ s3, Wn wr B B0 wb fb db jb cb (some ⟨qb, qo, none⟩) pc n s3 ∧ Below B w wr ∧ Below B w2 wr ∧ leadsS F outs S2 = leadsS F (outs.drop j) s3)) (fun i _ _ => outs.length - (intOf i).toNat)
        case atStart => exact ⟨0, rfl, rfl, Nat.zero_le _, S2, HQ.out.1, HQ.out.2, Below.refl _ _, rfl⟩
        case round =>
          obtain ⟨j, rfl, rfl, hj, HR2⟩ := hrel
          obtain ⟨s3, hW3, hB3, hB4, hls⟩ := HR2.out
          have HW3 : Hid (Wn wr B B0 wb fb db jb cb (some ⟨qb, qo, none⟩) pc n s3) := hW3
          have HB3 : Hid (Below B w wr ∧ Below B w2 wr) := ⟨hB3, hB4⟩
          have HLs : Hid (leadsS F outs S2 = leadsS F (outs.drop j) s3) := hls
          clear hW3 hB3 hB4 hls HR2
          by_cases hjl : j < outs.length
          · obtain ⟨gb, go, ka, kc, rfl, hFA⟩ := HFa.out j hjl wr HB3.out.2
            obtain ⟨f0, f1, _, _⟩ := hFA
            have hlf := World.block_lt_of_cell? _ _ f0
            obtain ⟨ht1, ht2⟩ := HTp.out _ (List.getElem_mem hjl)
            have HC33 : Hid (∀ o, Calls Try.prog 33 #[.pointer (some ⟨wb, 0, none⟩), .int .i64 outs[j].to, .int .i64 (F : Nat)] (wr.alloc o) fun e w' => e = .returned (.int .i64 ((leadS s3 outs[j].to.toNat F).1 : Nat)) ∧ Wn w' B B0 wb fb db jb cb (some ⟨qb, qo, none⟩) pc n (leadS s3 outs[j].to.toNat F).2 ∧ Below B (wr.alloc o) w') := fun o => by
              have := HLd.out s3 outs[j].to.toNat F (wr.alloc o) (HW3.out.below ((Below.refl _ _).alloc (Nat.le_refl _) o)) ht2 HLF.out
              rw [show ((outs[j].to.toNat : Nat) : Int) = outs[j].to by omega] at this
              exact this
            have HLs2 : Hid (leadsS F (outs.drop j) s3 = if (leadS s3 outs[j].to.toNat F).1 ≠ 0 then leadS s3 outs[j].to.toNat F else leadsS F (outs.drop (j + 1)) (leadS s3 outs[j].to.toNat F).2) := by
              show _ = _
              rw [List.drop_eq_getElem_cons hjl]; rfl
            have hE3 : (leadS s3 outs[j].to.toNat F).1 = 0 ∨ (leadS s3 outs[j].to.toNat F).1 ≠ 0 := by omega
            have HPr : Hid (leadS s3 outs[j].to.toNat F = ((leadS s3 outs[j].to.toNat F).1, (leadS s3 outs[j].to.toNat F).2)) := rfl
            have hBw : B ≤ wr.heap.size := Nat.le_trans hB HB3.out.1.size
            clear HFa
            generalize (leadS s3 outs[j].to.toNat F).2 = s4 at *
            generalize (leadS s3 outs[j].to.toNat F).1 = E3 at *
            generalize leadS s3 outs[j].to.toNat F = L3 at *
            generalize outs[j].to = yt at *
            generalize outs[j].ifs.length = yl at *
            rcases hE3 with rfl | hE3
            · go_wp2_with (go_at_call 33; refine (HC33.out _).mono ?_; rintro e w4 ⟨rfl, q1, q2⟩; have HQ4 : Hid (Wn w4 B B0 wb fb db jb cb (some ⟨qb, qo, none⟩) pc n s4 ∧ Below B wr w4) := ⟨q1, ((Below.refl _ _).alloc hBw _).trans q2⟩; clear q1 q2)
              go_roundw
              case rel => exact ⟨j + 1, rfl, by go_num, by omega, s4, HQ4.out.1, HB3.out.1.trans HQ4.out.2, HB3.out.2.trans HQ4.out.2, by rw [HLs.out, HLs2.out, if_neg (by omega)]⟩
              case measure => simp [intOf]; omega
            · have hE4 : ¬ (E3 : Int) = 0 := by omega
              have HFin : Hid (goS ps (n + 1) 0 s = (E3, s4)) := by
                show _ = _
                rw [HGo.out, HSt.out, HSt2.out, HLs.out, HLs2.out, if_pos hE3, HPr.out]
                simp [hE3]
              go_wp2_with (go_at_call 33; refine (HC33.out _).mono ?_; rintro e w4 ⟨rfl, q1, q2⟩; have HQ4 : Hid (Wn w4 B B0 wb fb db jb cb (some ⟨qb, qo, none⟩) pc n s4 ∧ Below B wr w4) := ⟨q1, ((Below.refl _ _).alloc hBw _).trans q2⟩; clear q1 q2)
              try rw [Exit.noGoto_ret]
              go_ret
              refine ⟨?_, ?_, HB3.out.1.trans HQ4.out.2⟩
              · rw [HTh.out _ _ HFin.out, if_neg (by rintro ⟨q, _⟩; exact hE3 q)]; rfl
              · rw [HFin.out]; exact HQ4.out.1
          · have hjj : j = outs.length := by omega
            have HNx : Hid (goS ps (n + 1) 0 s = goS ps (n + 1 - (k + 1)) (k + 1) s3) := by
              show _ = _
              rw [HGo.out, HSt.out, HSt2.out, HLs.out, hjj, List.drop_length]
              simp [leadsS]
            have HKs : Hid (k + 1 ≤ s3.od.length) := by
              have h1 := leads_od F outs S2
              rw [HLs.out, hjj, List.drop_length] at h1
              have h2 := HOd.out
              show k + 1 ≤ s3.od.length
              simp only [leadsS] at h1
              omega
            clear HFa
            go_wp2_with fail
            go_roundw
            case rel => exact ⟨k + 1, rfl, by go_num, by omega, s3, HKs.out, HW3.out, HB3.out.1, HNx.out⟩
            case measure => simp [intOf]; omega
      · have hE2 : ¬ (E : Int) = 0 := by omega
        have HFin : Hid (goS ps (n + 1) 0 s = (E, S2)) := by
          show _ = _
          rw [HGo.out, HSt.out, HStp.out, if_pos hE]
          simp [hE]
        go_wp2_with (go_at_call 32; refine HC32.out.mono ?_; rintro e w2 ⟨rfl, q1, q2⟩; have HQ : Hid (Wn w2 B B0 wb fb db jb cb pa pc n S2 ∧ Below B w w2) := ⟨q1, HB1.out.trans q2⟩; clear q1 q2)
        try rw [Exit.noGoto_ret]
        go_ret
        refine ⟨?_, ?_, HQ.out.2⟩
        · rw [HTh.out _ _ HFin.out, if_neg (by rintro ⟨q, _⟩; exact hE q)]; rfl
        · rw [HFin.out]; exact HQ.out.1
    · have HFin : Hid (goS ps (n + 1) 0 s = (0, s1)) := by
        show _ = _
        rw [HGo.out, show n + 1 - k = (n - k) + 1 by omega, goS, if_neg hlt]
      have HC34 : Hid (Calls Try.prog 34 #[.pointer (some ⟨wb, 0, none⟩)] wr fun e w' => e = .returned (.bool (wholeS ps s1)) ∧ Below wr.heap.size wr w') := HWh.out _ _ HW1.out (HPs.out _ HB1.out)
      have HTt : Hid (throughS ps s = if wholeS ps s1 = false then 8 else 0) := by show _ = _; rw [HTh.out _ _ HFin.out]; simp
      obtain ⟨oa, oc, rfl⟩ := hk.od.form
      rw [HFin.out]
      clear hk hok hgo hB1 HR HGo
      generalize wholeS ps s1 = wh at *
      cases wh
      · go_wp2_with (go_at_call 34; refine HC34.out.mono ?_; rintro e w4 ⟨rfl, q1⟩; have HQ4 : Hid (Below wr.heap.size wr w4) := q1; clear q1)
        try rw [Exit.noGoto_ret]
        go_ret
        exact ⟨by rw [HTt.out]; rfl, by rw [HFin.out]; exact HW1.out.below HQ4.out, HB1.out.trans (HQ4.out.mono (Nat.le_trans hB HB1.out.size))⟩
      · go_wp2_with (go_at_call 34; refine HC34.out.mono ?_; rintro e w4 ⟨rfl, q1⟩; have HQ4 : Hid (Below wr.heap.size wr w4) := q1; clear q1)
        try rw [Exit.noGoto_ret]
        go_ret
        exact ⟨by rw [HTt.out]; rfl, by rw [HFin.out]; exact HW1.out.below HQ4.out, HB1.out.trans (HQ4.out.mono (Nat.le_trans hB HB1.out.size))⟩
end Go.Proofs.Ytlaiacjlphjmlaa
