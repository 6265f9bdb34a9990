/-
  FlowGame's walk.
-/
import Derived.Test.YtlaiacjlphjmlaaGmI
import Derived.Test.YtlaiacjlphjmlaaFyZ
import Derived.Test.YtlaiacjlphjmlaaFlP
import Derived.BigQuiet
namespace Go.Proofs.Ytlaiacjlphjmlaa
open Go.RowKit
set_option linter.unusedVariables false

theorem of_check2 {d : Df} (h : ofE d = 0) : checkD d = 0 := by
  by_cases q : checkD d = 0
  · exact q
  · unfold ofE at h; rw [if_pos q] at h; exact h
/-- The game as it begins. -/
theorem gm_begin {w : World} {o : Obj} {g : Nat} (hg : g = w.heap.size) : GmV ((w.alloc (.cells #[.int .i64 0, .slice none 0 0] 41)).alloc o) (some ⟨g, 0, none⟩) 1 1 (.slice none 0 0) ⟨[⟨0, []⟩], []⟩ := by
  subst hg
  have e1 : ((w.alloc (.cells #[.int .i64 0, .slice none 0 0] 41)).alloc o).heap[w.heap.size]? = some (.cells #[.int .i64 0, .slice none 0 0] 41) := (heap_alloc_old _ _ (by rw [size_alloc]; omega)).trans (heap_alloc_new w _)
  refine ⟨rfl, Nat.le_refl _, by decide, fun i hi => ?_, Iv.nil _⟩
  have hi0 : i = 0 := by simp at hi; exact hi
  subst hi0
  refine ⟨w.heap.size, .slice none 0 0, rfl, ?_, ?_, Iv.nil _, fun k hk => by cases hk⟩
  · rw [cell_of_row _ _ _ _ 41 (0, 0) e1]; rfl
  · rw [cell_of_row _ _ _ _ 41 (0, 0) e1]; rfl
theorem mod_small {z : Int} {t : Nat} (h0 : 0 < t) (h1 : t ≤ 1000) : ∃ k : Nat, wrap64 ((IntKind.u64.wrap z).tmod (t : Int)) = (k : Int) ∧ k < t := by
  have hw : 0 ≤ IntKind.u64.wrap z := by rw [IntKind.wrap_u64]; omega
  have e : (IntKind.u64.wrap z).tmod (t : Int) = (IntKind.u64.wrap z) % (t : Int) := Int.tmod_eq_emod_of_nonneg hw
  have h2 : 0 ≤ (IntKind.u64.wrap z) % (t : Int) := Int.emod_nonneg _ (by omega)
  have h3 : (IntKind.u64.wrap z) % (t : Int) < (t : Int) := Int.emod_lt_of_pos _ (by omega)
  refine ⟨((IntKind.u64.wrap z) % (t : Int)).toNat, ?_, by omega⟩
  rw [e]
  unfold wrap64
  omega
set_option maxRecDepth 100000 in
set_option maxHeartbeats 16000000 in
theorem game_walk (d : Df) (a : Option Addr) (c n : Nat) (ma : Option Addr) (mn mc : Nat) (fa : Option Addr) (fn fc : Nat) (w : World) (w0 : DfV w (fun _ => True) d a c) (hn : d.places.length = n) (hmo : IzV w ma mn mc) (hfl : IzV w fa fn fc) (HMo : Hid (ofE d = 0 → MovesOk w (ba d.id) a n c d.places (ofS d) ∧ Gpl d.places n (ofS d) ∧ kindP d.places 0 = 1)) :
    Calls Try.prog 5 #[.agg #[.string (ba d.id), .slice a n c], .slice ma mn mc, .slice fa fn fc] w fun e w' => e = .returned (.bool true) ∧ Below w.heap.size w w' := by
  have H6 : Hid (∀ o, Calls Try.prog 6 #[.agg #[.string (ba d.id), .slice a n c]] (w.alloc o) fun e w' => (∃ b, e = .returned (.bool b)) ∧ Below (w.alloc o).heap.size (w.alloc o) w') := fun o => by
    have := light_any _ d a c _ (w0.kept (kept_below ((Below.refl _ _).alloc (Nat.le_refl _) o)))
    rw [hn] at this; exact this
  have H7 : Hid (∀ w, Calls Try.prog 7 #[] w fun e w' => e = .returned (.bool true) ∧ Below w.heap.size w w') := fun w => works_any w
  have H8 : Hid (∀ w2, Below w.heap.size w w2 → Calls Try.prog 8 #[.agg #[.string (ba d.id), .slice a n c]] w2 fun e w' => Below w2.heap.size w2 w' ∧ ((ofE d ≠ 0 ∧ e = .returned (.tuple #[.agg #[.slice none 0 0, .slice none 0 0, .slice none 0 0], .int .i64 (ofE d : Nat)])) ∨ (ofE d = 0 ∧ ∃ fb db jb, e = .returned (.tuple #[.agg #[.slice (some ⟨fb, 0, none⟩) n n, .slice (some ⟨db, 0, none⟩) n n, .slice (some ⟨jb, 0, none⟩) n n], .int .i64 0]) ∧ RowN w' db (ofS d).dp))) := fun w2 q => by
    have := Of_any _ d a c w2 (w0.kept (kept_below q))
    rw [hn] at this
    refine this.mono ?_
    rintro e w' ⟨h1, h2 | ⟨h2, fb, db, jb, h3, _, _, _, _, h4, _⟩⟩
    · exact ⟨h1, .inl h2⟩
    · rw [hn] at h3; exact ⟨h1, .inr ⟨h2, fb, db, jb, h3, h4⟩⟩
  have HPs : Hid (PlsV w (fun _ => True) (.slice a n c) d.places) := by have := w0.places; rw [hn] at this; exact this
  have HLn : Hid (d.places.length = n) := hn
  have hcap := HPs.out.cap
  have HZm : Hid (IzV w ma mn mc) := hmo
  have HZf : Hid (IzV w fa fn fc) := hfl
  have hmc1 := hmo.cap1
  have hmc2 := hmo.cap2
  have hfc1 := hfl.cap1
  have hfc2 := hfl.cap2
  have HPos : Hid (ofE d = 0 → 0 < n ∧ n ≤ 4096) := fun h => by
    have := def_facts (of_check2 h)
    rw [← hn]; exact ⟨this.pos, this.len⟩
  clear w0 hn hmo hfl
  generalize ofS d = s at *
  generalize ofE d = oe at *
  generalize d.places = ps at *
  generalize ba d.id = ds at *
  by_cases hn60 : 60 < n
  · have h1 : (60 : Int) < (n : Int) := by omega
    have h1d : decide ((60 : Int) < (n : Int)) = true := decide_eq_true h1
    go_enter Try.func5, Try.ntmps5
    go_wp2_with (first
      | (go_at_call 7; refine (H7.out _).mono ?_; rintro e w2 ⟨rfl, HB⟩; have HB2 : Hid (Below w.heap.size w w2) := HB1.out.1.trans (HB.mono HB1.out.1.size); clear HB)
      | (go_at_call 6; refine (H6.out _).mono ?_; rintro e w1 ⟨⟨lb, rfl⟩, HB⟩; have HB1 : Hid (Below w.heap.size w w1 ∧ Cell2 w1 w.heap.size (.string ds) (.slice a n c)) := ⟨((Below.refl _ _).alloc (Nat.le_refl _) _).trans (HB.mono (le_alloc _ _)), (Cell2.new w _ _ 24).below HB⟩; obtain ⟨z0, z1, zf⟩ := HB1.out.2; have lz := World.block_lt_of_cell? _ _ z0; clear HB; cases lb))
    all_goals (
      go_ret
      exact ⟨rfl, HB2.out⟩)
  · have h1 : ¬ (60 : Int) < (n : Int) := by omega
    have h1d : decide ((60 : Int) < (n : Int)) = false := decide_eq_false h1
    by_cases hm60 : 60 < mn
    · have h2 : (60 : Int) < (mn : Int) := by omega
      have h2d : decide ((60 : Int) < (mn : Int)) = true := decide_eq_true h2
      go_enter Try.func5, Try.ntmps5
      go_wp2_with (first
        | (go_at_call 7; refine (H7.out _).mono ?_; rintro e w2 ⟨rfl, HB⟩; have HB2 : Hid (Below w.heap.size w w2) := HB1.out.1.trans (HB.mono HB1.out.1.size); clear HB)
        | (go_at_call 6; refine (H6.out _).mono ?_; rintro e w1 ⟨⟨lb, rfl⟩, HB⟩; have HB1 : Hid (Below w.heap.size w w1 ∧ Cell2 w1 w.heap.size (.string ds) (.slice a n c)) := ⟨((Below.refl _ _).alloc (Nat.le_refl _) _).trans (HB.mono (le_alloc _ _)), (Cell2.new w _ _ 24).below HB⟩; obtain ⟨z0, z1, zf⟩ := HB1.out.2; have lz := World.block_lt_of_cell? _ _ z0; clear HB; cases lb))
      all_goals (
        go_ret
        exact ⟨rfl, HB2.out⟩)
    · have h2 : ¬ (60 : Int) < (mn : Int) := by omega
      have h2d : decide ((60 : Int) < (mn : Int)) = false := decide_eq_false h2
      go_enter Try.func5, Try.ntmps5
      go_wp2_with (go_at_call 6; refine (H6.out _).mono ?_; rintro e w1 ⟨⟨lb, rfl⟩, HB⟩; have HB1 : Hid (Below w.heap.size w w1 ∧ Cell2 w1 w.heap.size (.string ds) (.slice a n c)) := ⟨((Below.refl _ _).alloc (Nat.le_refl _) _).trans (HB.mono (le_alloc _ _)), (Cell2.new w _ _ 24).below HB⟩; obtain ⟨z0, z1, zf⟩ := HB1.out.2; have lz := World.block_lt_of_cell? _ _ z0; clear HB; cases lb)
      · go_wp2_with (go_at_call 7; refine (H7.out _).mono ?_; rintro e w2 ⟨rfl, HB⟩; have HB2 : Hid (Below w.heap.size w w2) := HB1.out.1.trans (HB.mono HB1.out.1.size); clear HB)
        go_ret
        exact ⟨rfl, HB2.out⟩
      · by_cases hof : oe = 0
        · obtain ⟨hpos, h4096⟩ := HPos.out hof
          obtain ⟨hMv, hGp, hK0⟩ := HMo.out hof
          have HMv : Hid (MovesOk w ds a n c ps s) := hMv
          have HGp : Hid (Gpl ps n s ∧ kindP ps 0 = 1) := ⟨hGp, hK0⟩
          have HDl : Hid (s.dp.length = n) := hGp.bal.ok.dp
          clear hMv hGp hK0 HMo HPos
          go_wp2_with (go_at_call 8; refine (H8.out _ HB1.out.1).mono ?_; rintro e w2 ⟨q1, q⟩; obtain ⟨F, D, J, rfl, r2⟩ := (show oe = 0 ∧ _ from q.elim (fun x => absurd hof x.1) id).2; have HB2 : Hid (Below w.heap.size w w2 ∧ Cell2 w2 w.heap.size (.string ds) (.slice a n c) ∧ RowN w2 D s.dp) := ⟨HB1.out.1.trans (q1.mono HB1.out.1.size), HB1.out.2.below q1, r2⟩; obtain ⟨y0, y1, yf⟩ := HB2.out.2.1; have ly := World.block_lt_of_cell? _ _ y0; clear q q1 r2)
          have HGl : Hid (Gl w (((w2.alloc (.cells #[.slice (some ⟨F, 0, none⟩) n n, .slice (some ⟨D, 0, none⟩) n n, .slice (some ⟨J, 0, none⟩) n n] 29)).alloc (.cells #[.int .i64 0, .slice none 0 0] 41)).alloc (.cells #[.slice (some ⟨w2.heap.size + 1, 0, none⟩) 1 1, .slice none 0 0] 44)) ds a n c w2.heap.size F D J (w2.heap.size + 1 + 1) (some ⟨w2.heap.size + 1, 0, none⟩) 1 1 none 0 0 s ⟨[⟨0, []⟩], []⟩) := by
            have hb3 : Below w2.heap.size w2 (((w2.alloc (.cells #[.slice (some ⟨F, 0, none⟩) n n, .slice (some ⟨D, 0, none⟩) n n, .slice (some ⟨J, 0, none⟩) n n] 29)).alloc (.cells #[.int .i64 0, .slice none 0 0] 41)).alloc (.cells #[.slice (some ⟨w2.heap.size + 1, 0, none⟩) 1 1, .slice none 0 0] 44)) := (((Below.refl _ _).alloc (Nat.le_refl _) _).alloc (le_alloc _ _) _).alloc (Nat.le_trans (le_alloc _ _) (le_alloc _ _)) _
            have e1 := size_alloc w2 (.cells #[.slice (some ⟨F, 0, none⟩) n n, .slice (some ⟨D, 0, none⟩) n n, .slice (some ⟨J, 0, none⟩) n n] 29)
            have e2 := size_alloc (w2.alloc (.cells #[.slice (some ⟨F, 0, none⟩) n n, .slice (some ⟨D, 0, none⟩) n n, .slice (some ⟨J, 0, none⟩) n n] 29)) (.cells #[.int .i64 0, .slice none 0 0] 41)
            have hC := Cell3.new w2 (.slice (some ⟨F, 0, none⟩) n n) (.slice (some ⟨D, 0, none⟩) n n) (.slice (some ⟨J, 0, none⟩) n n) 29
            have hG := Cell2.new ((w2.alloc (.cells #[.slice (some ⟨F, 0, none⟩) n n, .slice (some ⟨D, 0, none⟩) n n, .slice (some ⟨J, 0, none⟩) n n] 29)).alloc (.cells #[.int .i64 0, .slice none 0 0] 41)) (.slice (some ⟨w2.heap.size + 1, 0, none⟩) 1 1) (.slice none 0 0) 44
            rw [e2, e1] at hG
            refine ⟨HB2.out.1.trans (hb3.mono HB2.out.1.size), HB2.out.2.1.below hb3, (hC.kept (heap_alloc_old _ _ (by rw [e1]; omega))).kept (heap_alloc_old _ _ (by rw [e2, e1]; omega)), HB2.out.2.2.kept (hb3.block _ (World.block_lt_of_cell? _ _ (HB2.out.2.2.c 0 (by rw [HDl.out]; exact hpos)))), hG, gm_begin e1.symm, ?_, by omega, by rw [HDl.out]; exact hpos⟩
            have := HB2.out.2.1.lt
            omega
          have HInv : Hid (Ginv ps n s ⟨[⟨0, []⟩], []⟩ (fun _ => 0) (fun _ => [])) := ginv_begin hpos HGp.out.1.bal
          clear z0 z1 zf lz y0 y1 yf ly HB1 H6 H8
          obtain ⟨S, hS⟩ : ∃ S, w2.heap.size = S := ⟨_, rfl⟩
          go_loopw [10] (fun x wr => ∃ (i : Nat), i ≤ mn ∧ x = .int .i64 i ∧ Hid (∃ ta tn tc ca cn cc g fo ou, Gl w wr ds a n c w2.heap.size F D J (w2.heap.size + 1 + 1) ta tn tc ca cn cc s g ∧ Ginv ps n s g fo ou ∧ g.came.length ≤ i)) (fun x _ => mn - (intOf x).toNat)
          case atStart => exact ⟨0, Nat.zero_le _, rfl, _, _, _, _, _, _, _, _, _, HGl.out, HInv.out, Nat.le_refl _⟩
          case round =>
            clear HGl HInv
            rw [hS] at *
            clear hS
            obtain ⟨i, hi, rfl, HR⟩ := hrel
            obtain ⟨ta, tn, tc, ca, cn, cc, g, fo, ou, hgl, hinv, hcl⟩ := HR.out
            have HG : Hid (Gl w wr ds a n c S F D J (S + 1 + 1) ta tn tc ca cn cc s g) := hgl
            have HI : Hid (Ginv ps n s g fo ou) := hinv
            have HCl : Hid (g.came.length ≤ i) := hcl
            have HTl : Hid (g.toks.length = tn) := hgl.gm.len.symm
            have htc1 := hgl.gm.cap1
            have htc2 := hgl.gm.cap2
            obtain ⟨d0, d1, df⟩ := hgl.box
            have ld : w.heap.size < wr.heap.size := World.block_lt_of_cell? _ _ d0
            obtain ⟨g0, g1, gf⟩ := hgl.gbx
            have lg : S + 1 + 1 < wr.heap.size := World.block_lt_of_cell? _ _ g0
            have hlo := hgl.lo
            clear hgl hinv hcl HR
            by_cases hlt : i < mn
            · by_cases htn0 : tn = 0
              · have k3d : decide ((i : Int) < (mn : Int)) = true := decide_eq_true (by omega)
                subst htn0
                go_wp2_with (go_at_call 7; refine (H7.out _).mono ?_; rintro e w5 ⟨rfl, HB⟩; have HB5 : Hid (Below w.heap.size w w5) := HG.out.b.trans (HB.mono HG.out.b.size); clear HB)
                go_ret
                exact ⟨rfl, HB5.out⟩
              · by_cases htn2 : 200 ≤ tn
                · have k1 : (0 : Int) < (tn : Int) := by omega
                  have k1d : decide ((0 : Int) < (tn : Int)) = true := decide_eq_true k1
                  have k2 : ¬ (tn : Int) < 200 := by omega
                  have k2d : decide ((tn : Int) < 200) = false := decide_eq_false k2
                  have k3d : decide ((i : Int) < (mn : Int)) = true := decide_eq_true (by omega)
                  go_wp2_with (go_at_call 7; refine (H7.out _).mono ?_; rintro e w5 ⟨rfl, HB⟩; have HB5 : Hid (Below w.heap.size w w5) := HG.out.b.trans (HB.mono HG.out.b.size); clear HB)
                  go_ret
                  exact ⟨rfl, HB5.out⟩
                · have k1 : (0 : Int) < (tn : Int) := by omega
                  have k1d : decide ((0 : Int) < (tn : Int)) = true := decide_eq_true k1
                  have k2 : (tn : Int) < 200 := by omega
                  have k2d : decide ((tn : Int) < 200) = true := decide_eq_true k2
                  have k3d : decide ((i : Int) < (mn : Int)) = true := decide_eq_true (by omega)
                  obtain ⟨mb, mo, z, rfl, m0, mz⟩ := (HZm.out.below HG.out.b).at_ i hlt
                  have lmb : mb < wr.heap.size := World.block_lt_of_cell? _ _ m0
                  have mz1 := mz.1
                  have mz2 := mz.2
                  obtain ⟨k, hkz, hkt⟩ := mod_small (z := z) (t := tn) (by omega) (by omega)
                  have HKt : Hid (k < g.toks.length) := by show _ < _; rw [HTl.out]; exact hkt
                  have HT1 : Hid (g.toks.length ≤ 1000) := by show _ ≤ _; rw [HTl.out]; omega
                  have HC1 : Hid (g.came.length ≤ 1000) := by show _ ≤ _; have := HCl.out; omega
                  have hkr : (k : Int) < (tn : Int) := by omega
                  go_wp2
                  go_quiet (fail)
                  try simp only [hkz]
                  have HG2 : Hid (Gl w (wr.drewN nq) ds a n c S F D J (S + 1 + 1) ta tn tc ca cn cc s g) := HG.out.drN nq
                  generalize wr.drewN nq = wq at *
                  clear HG g0 g1 gf lg d0 d1 df ld m0 lmb mz mz1 mz2 hkz
                  obtain ⟨d0, d1, df⟩ := HG2.out.box
                  have ld : w.heap.size < wq.heap.size := World.block_lt_of_cell? _ _ d0
                  obtain ⟨g0, g1, gf⟩ := HG2.out.gbx
                  have lg : S + 1 + 1 < wq.heap.size := World.block_lt_of_cell? _ _ g0
                  by_cases hif : i < fn
                  · obtain ⟨fb, fof, zf, rfl, f0, fz⟩ := (HZf.out.below HG2.out.b).at_ i hif
                    have lfb : fb < wq.heap.size := World.block_lt_of_cell? _ _ f0
                    have fz1 := fz.1
                    have fz2 := fz.2
                    obtain ⟨b, hbz, hb16⟩ := mod_small (z := zf) (t := 16) (by omega) (by omega)
                    have hbz2 : wrap64 ((IntKind.u64.wrap zf).tmod 16) = (b : Int) := hbz
                    have HBb : Hid (b < 16) := hb16
                    have hifd : decide ((i : Int) < (fn : Int)) = true := decide_eq_true (by omega)
                    clear hbz fz
                    obtain ⟨tb, tv, rfl, t0, t1, t2, t3⟩ := HG2.out.gm.tok k HKt.out
                    have lt0 : tb < wq.heap.size := World.block_lt_of_cell? _ _ t0
                    obtain ⟨hp1, hp2⟩ := HI.out.plen HGp.out.1.bal _ (getD_memT HKt.out)
                    have HSg : Hid (kindP ps (g.toks.getD k zeroTk).pos = 8 → tn = 1) := fun h => by rw [← HTl.out]; exact HI.out.single HGp.out.1.bal HKt.out h
                    obtain ⟨qb, qo, rfl, p0⟩ := (HPs.out.kept (kept_below HG2.out.b)).kindAt HLn.out hp1
                    have lp : qb < wq.heap.size := World.block_lt_of_cell? _ _ p0
                    obtain ⟨pa, pc, rfl, _⟩ := t2
                    generalize (g.toks.getD k zeroTk).plays.length = pn at *
                    generalize hTP : (g.toks.getD k zeroTk).pos = tp at *
                    clear t3 hp2
                    by_cases k8 : kindP ps tp = 8
                    · have htn1 : tn = 1 := HSg.out k8
                      rw [k8] at p0
                      subst htn1
                      go_wp2_with (go_at_call 11; refine (HMv.out _ _ _ _ _ _ _ g k b fo ou (HG2.out.al _).b (HG2.out.al _).gm HI.out HKt.out HBb.out HT1.out HC1.out).mono ?_; rintro e w3 ⟨ta2, tn2, tc2, ca2, cn2, cc2, rfl, q1, q2⟩; have HG3 : Hid (Gl w ((w3.setCell ⟨S + 1 + 1, 0, none⟩ (.slice ta2 tn2 tc2)).setCell ⟨S + 1 + 1, 1, none⟩ (.slice ca2 cn2 cc2)) ds (some ⟨qb, qo, none⟩) n c S F D J (S + 1 + 1) ta2 tn2 tc2 ca2 cn2 cc2 s (moveM ps s g k b)) := (HG2.out.al _).put q2 q1; have hg3 := ((HG2.out.al (.cells #[.int .i64 (tp : Nat), .slice pa pn pc] 41)).below q2).gbx; obtain ⟨x0, x1, xf⟩ := hg3; have lx3 : S + 1 + 1 < w3.heap.size := World.block_lt_of_cell? _ _ x0; clear q1 q2)
                      have HI3 : Hid (∃ fo' ou', Ginv ps n s (moveM ps s g k b) fo' ou') := HI.out.move HGp.out.1 HGp.out.2 b HKt.out
                      have HC3 : Hid ((moveM ps s g k b).came.length ≤ i + 1) := Nat.le_trans (moveM_came _ _ _ _ _) (Nat.succ_le_succ HCl.out)
                      generalize (w3.setCell ⟨S + 1 + 1, 0, none⟩ (.slice ta2 tn2 tc2)).setCell ⟨S + 1 + 1, 1, none⟩ (.slice ca2 cn2 cc2) = w4 at *
                      clear x0 x1 xf lx3 g0 g1 gf lg d0 d1 df ld t0 t1 lt0 p0 lp
                      generalize moveM ps s g k b = g2 at *
                      have HT3 : Hid (g2.toks.length = tn2) := HG3.out.gm.len.symm
                      have hc31 := HG3.out.gm.cap1
                      have hc32 := HG3.out.gm.cap2
                      go_loopw [14] (fun x wr => ∃ (j : Nat), j ≤ tn2 ∧ x = .int .i64 j ∧ Hid (Gl w wr ds (some ⟨qb, qo, none⟩) n c S F D J (S + 1 + 1) ta2 tn2 tc2 ca2 cn2 cc2 s g2)) (fun x _ => tn2 - (intOf x).toNat)
                      case atStart => exact ⟨0, Nat.zero_le _, rfl, HG3.out⟩
                      case round =>
                        clear HG3
                        obtain ⟨j, hj, rfl, HR5⟩ := hrel
                        obtain ⟨g0, g1, gf⟩ := HR5.out.gbx
                        have lg : S + 1 + 1 < wr.heap.size := World.block_lt_of_cell? _ _ g0
                        obtain ⟨s0, s1, s2, sf⟩ := HR5.out.cs
                        have lS : S < wr.heap.size := World.block_lt_of_cell? _ _ s0
                        by_cases hjl : j < tn2
                        · obtain ⟨tb3, tv3, rfl, t0, t1, t2, t3⟩ := HR5.out.gm.tok j (by rw [HT3.out]; exact hjl)
                          have lt0 : tb3 < wr.heap.size := World.block_lt_of_cell? _ _ t0
                          obtain ⟨fo', ou', hI3⟩ := HI3.out
                          obtain ⟨hp1, hp2⟩ := hI3.plen HGp.out.1.bal _ (getD_memT (by rw [HT3.out]; exact hjl))
                          have r0 := HR5.out.dp.c _ (show (g2.toks.getD j zeroTk).pos < s.dp.length by rw [HDl.out]; exact hp1)
                          have lD : D < wr.heap.size := World.block_lt_of_cell? _ _ r0
                          obtain ⟨va3, vc3, rfl, _⟩ := t2
                          rw [hp2] at t1
                          have hd16 : s.dp.getD (g2.toks.getD j zeroTk).pos 0 ≤ 16 := getD_mem_le HGp.out.1.bal.ok.dpl
                          have hjr : (j : Int) < (tn2 : Int) := by omega
                          generalize s.dp.getD (g2.toks.getD j zeroTk).pos 0 = dd at *
                          generalize (g2.toks.getD j zeroTk).pos = tp3 at *
                          clear t3 hI3 hp2
                          go_wp2
                          go_quiet (fail)
                          go_wp2
                          go_roundw
                          case rel => exact ⟨j + 1, by omega, by go_num, HR5.out.drN _⟩
                          case measure => simp [intOf]; omega
                        · go_wp2_with fail
                          go_roundw
                          case rel =>
                            obtain ⟨fo', ou', hI3⟩ := HI3.out
                            exact ⟨i + 1, by omega, by go_num, _, _, _, _, _, _, _, fo', ou', HR5.out, hI3, HC3.out⟩
                          case measure => simp [intOf]; omega
                    · have k81 : (kindP ps tp == 8) = false := by rw [beq_eq_false_iff_ne]; exact k8
                      have k82 : decide (kindP ps tp = 8) = false := decide_eq_false k8
                      generalize kindP ps tp = kk at *
                      go_wp2_with (go_at_call 11; refine (HMv.out _ _ _ _ _ _ _ g k b fo ou (HG2.out.al _).b (HG2.out.al _).gm HI.out HKt.out HBb.out HT1.out HC1.out).mono ?_; rintro e w3 ⟨ta2, tn2, tc2, ca2, cn2, cc2, rfl, q1, q2⟩; have HG3 : Hid (Gl w ((w3.setCell ⟨S + 1 + 1, 0, none⟩ (.slice ta2 tn2 tc2)).setCell ⟨S + 1 + 1, 1, none⟩ (.slice ca2 cn2 cc2)) ds (some ⟨qb, qo, none⟩) n c S F D J (S + 1 + 1) ta2 tn2 tc2 ca2 cn2 cc2 s (moveM ps s g k b)) := (HG2.out.al _).put q2 q1; have hg3 := ((HG2.out.al (.cells #[.int .i64 (tp : Nat), .slice pa pn pc] 41)).below q2).gbx; obtain ⟨x0, x1, xf⟩ := hg3; have lx3 : S + 1 + 1 < w3.heap.size := World.block_lt_of_cell? _ _ x0; clear q1 q2)
                      have HI3 : Hid (∃ fo' ou', Ginv ps n s (moveM ps s g k b) fo' ou') := HI.out.move HGp.out.1 HGp.out.2 b HKt.out
                      have HC3 : Hid ((moveM ps s g k b).came.length ≤ i + 1) := Nat.le_trans (moveM_came _ _ _ _ _) (Nat.succ_le_succ HCl.out)
                      generalize (w3.setCell ⟨S + 1 + 1, 0, none⟩ (.slice ta2 tn2 tc2)).setCell ⟨S + 1 + 1, 1, none⟩ (.slice ca2 cn2 cc2) = w4 at *
                      clear x0 x1 xf lx3 g0 g1 gf lg d0 d1 df ld t0 t1 lt0 p0 lp
                      generalize moveM ps s g k b = g2 at *
                      have HT3 : Hid (g2.toks.length = tn2) := HG3.out.gm.len.symm
                      have hc31 := HG3.out.gm.cap1
                      have hc32 := HG3.out.gm.cap2
                      go_loopw [14] (fun x wr => ∃ (j : Nat), j ≤ tn2 ∧ x = .int .i64 j ∧ Hid (Gl w wr ds (some ⟨qb, qo, none⟩) n c S F D J (S + 1 + 1) ta2 tn2 tc2 ca2 cn2 cc2 s g2)) (fun x _ => tn2 - (intOf x).toNat)
                      case atStart => exact ⟨0, Nat.zero_le _, rfl, HG3.out⟩
                      case round =>
                        clear HG3
                        obtain ⟨j, hj, rfl, HR5⟩ := hrel
                        obtain ⟨g0, g1, gf⟩ := HR5.out.gbx
                        have lg : S + 1 + 1 < wr.heap.size := World.block_lt_of_cell? _ _ g0
                        obtain ⟨s0, s1, s2, sf⟩ := HR5.out.cs
                        have lS : S < wr.heap.size := World.block_lt_of_cell? _ _ s0
                        by_cases hjl : j < tn2
                        · obtain ⟨tb3, tv3, rfl, t0, t1, t2, t3⟩ := HR5.out.gm.tok j (by rw [HT3.out]; exact hjl)
                          have lt0 : tb3 < wr.heap.size := World.block_lt_of_cell? _ _ t0
                          obtain ⟨fo', ou', hI3⟩ := HI3.out
                          obtain ⟨hp1, hp2⟩ := hI3.plen HGp.out.1.bal _ (getD_memT (by rw [HT3.out]; exact hjl))
                          have r0 := HR5.out.dp.c _ (show (g2.toks.getD j zeroTk).pos < s.dp.length by rw [HDl.out]; exact hp1)
                          have lD : D < wr.heap.size := World.block_lt_of_cell? _ _ r0
                          obtain ⟨va3, vc3, rfl, _⟩ := t2
                          rw [hp2] at t1
                          have hd16 : s.dp.getD (g2.toks.getD j zeroTk).pos 0 ≤ 16 := getD_mem_le HGp.out.1.bal.ok.dpl
                          have hjr : (j : Int) < (tn2 : Int) := by omega
                          generalize s.dp.getD (g2.toks.getD j zeroTk).pos 0 = dd at *
                          generalize (g2.toks.getD j zeroTk).pos = tp3 at *
                          clear t3 hI3 hp2
                          go_wp2
                          go_quiet (fail)
                          go_wp2
                          go_roundw
                          case rel => exact ⟨j + 1, by omega, by go_num, HR5.out.drN _⟩
                          case measure => simp [intOf]; omega
                        · go_wp2_with fail
                          go_roundw
                          case rel =>
                            obtain ⟨fo', ou', hI3⟩ := HI3.out
                            exact ⟨i + 1, by omega, by go_num, _, _, _, _, _, _, _, fo', ou', HR5.out, hI3, HC3.out⟩
                          case measure => simp [intOf]; omega
                  · have hifd : decide ((i : Int) < (fn : Int)) = false := decide_eq_false (by omega)
                    have HBb : Hid ((0 : Nat) < 16) := by show (0 : Nat) < 16; omega
                    obtain ⟨tb, tv, rfl, t0, t1, t2, t3⟩ := HG2.out.gm.tok k HKt.out
                    have lt0 : tb < wq.heap.size := World.block_lt_of_cell? _ _ t0
                    obtain ⟨hp1, hp2⟩ := HI.out.plen HGp.out.1.bal _ (getD_memT HKt.out)
                    have HSg : Hid (kindP ps (g.toks.getD k zeroTk).pos = 8 → tn = 1) := fun h => by rw [← HTl.out]; exact HI.out.single HGp.out.1.bal HKt.out h
                    obtain ⟨qb, qo, rfl, p0⟩ := (HPs.out.kept (kept_below HG2.out.b)).kindAt HLn.out hp1
                    have lp : qb < wq.heap.size := World.block_lt_of_cell? _ _ p0
                    obtain ⟨pa, pc, rfl, _⟩ := t2
                    generalize (g.toks.getD k zeroTk).plays.length = pn at *
                    generalize hTP : (g.toks.getD k zeroTk).pos = tp at *
                    clear t3 hp2
                    by_cases k8 : kindP ps tp = 8
                    · have htn1 : tn = 1 := HSg.out k8
                      rw [k8] at p0
                      subst htn1
                      go_wp2_with (go_at_call 11; refine (HMv.out _ _ _ _ _ _ _ g k 0 fo ou (HG2.out.al _).b (HG2.out.al _).gm HI.out HKt.out HBb.out HT1.out HC1.out).mono ?_; rintro e w3 ⟨ta2, tn2, tc2, ca2, cn2, cc2, rfl, q1, q2⟩; have HG3 : Hid (Gl w ((w3.setCell ⟨S + 1 + 1, 0, none⟩ (.slice ta2 tn2 tc2)).setCell ⟨S + 1 + 1, 1, none⟩ (.slice ca2 cn2 cc2)) ds (some ⟨qb, qo, none⟩) n c S F D J (S + 1 + 1) ta2 tn2 tc2 ca2 cn2 cc2 s (moveM ps s g k 0)) := (HG2.out.al _).put q2 q1; have hg3 := ((HG2.out.al (.cells #[.int .i64 (tp : Nat), .slice pa pn pc] 41)).below q2).gbx; obtain ⟨x0, x1, xf⟩ := hg3; have lx3 : S + 1 + 1 < w3.heap.size := World.block_lt_of_cell? _ _ x0; clear q1 q2)
                      have HI3 : Hid (∃ fo' ou', Ginv ps n s (moveM ps s g k 0) fo' ou') := HI.out.move HGp.out.1 HGp.out.2 0 HKt.out
                      have HC3 : Hid ((moveM ps s g k 0).came.length ≤ i + 1) := Nat.le_trans (moveM_came _ _ _ _ _) (Nat.succ_le_succ HCl.out)
                      generalize (w3.setCell ⟨S + 1 + 1, 0, none⟩ (.slice ta2 tn2 tc2)).setCell ⟨S + 1 + 1, 1, none⟩ (.slice ca2 cn2 cc2) = w4 at *
                      clear x0 x1 xf lx3 g0 g1 gf lg d0 d1 df ld t0 t1 lt0 p0 lp
                      generalize moveM ps s g k 0 = g2 at *
                      have HT3 : Hid (g2.toks.length = tn2) := HG3.out.gm.len.symm
                      have hc31 := HG3.out.gm.cap1
                      have hc32 := HG3.out.gm.cap2
                      go_loopw [14] (fun x wr => ∃ (j : Nat), j ≤ tn2 ∧ x = .int .i64 j ∧ Hid (Gl w wr ds (some ⟨qb, qo, none⟩) n c S F D J (S + 1 + 1) ta2 tn2 tc2 ca2 cn2 cc2 s g2)) (fun x _ => tn2 - (intOf x).toNat)
                      case atStart => exact ⟨0, Nat.zero_le _, rfl, HG3.out⟩
                      case round =>
                        clear HG3
                        obtain ⟨j, hj, rfl, HR5⟩ := hrel
                        obtain ⟨g0, g1, gf⟩ := HR5.out.gbx
                        have lg : S + 1 + 1 < wr.heap.size := World.block_lt_of_cell? _ _ g0
                        obtain ⟨s0, s1, s2, sf⟩ := HR5.out.cs
                        have lS : S < wr.heap.size := World.block_lt_of_cell? _ _ s0
                        by_cases hjl : j < tn2
                        · obtain ⟨tb3, tv3, rfl, t0, t1, t2, t3⟩ := HR5.out.gm.tok j (by rw [HT3.out]; exact hjl)
                          have lt0 : tb3 < wr.heap.size := World.block_lt_of_cell? _ _ t0
                          obtain ⟨fo', ou', hI3⟩ := HI3.out
                          obtain ⟨hp1, hp2⟩ := hI3.plen HGp.out.1.bal _ (getD_memT (by rw [HT3.out]; exact hjl))
                          have r0 := HR5.out.dp.c _ (show (g2.toks.getD j zeroTk).pos < s.dp.length by rw [HDl.out]; exact hp1)
                          have lD : D < wr.heap.size := World.block_lt_of_cell? _ _ r0
                          obtain ⟨va3, vc3, rfl, _⟩ := t2
                          rw [hp2] at t1
                          have hd16 : s.dp.getD (g2.toks.getD j zeroTk).pos 0 ≤ 16 := getD_mem_le HGp.out.1.bal.ok.dpl
                          have hjr : (j : Int) < (tn2 : Int) := by omega
                          generalize s.dp.getD (g2.toks.getD j zeroTk).pos 0 = dd at *
                          generalize (g2.toks.getD j zeroTk).pos = tp3 at *
                          clear t3 hI3 hp2
                          go_wp2
                          go_quiet (fail)
                          go_wp2
                          go_roundw
                          case rel => exact ⟨j + 1, by omega, by go_num, HR5.out.drN _⟩
                          case measure => simp [intOf]; omega
                        · go_wp2_with fail
                          go_roundw
                          case rel =>
                            obtain ⟨fo', ou', hI3⟩ := HI3.out
                            exact ⟨i + 1, by omega, by go_num, _, _, _, _, _, _, _, fo', ou', HR5.out, hI3, HC3.out⟩
                          case measure => simp [intOf]; omega
                    · have k81 : (kindP ps tp == 8) = false := by rw [beq_eq_false_iff_ne]; exact k8
                      have k82 : decide (kindP ps tp = 8) = false := decide_eq_false k8
                      generalize kindP ps tp = kk at *
                      go_wp2_with (go_at_call 11; refine (HMv.out _ _ _ _ _ _ _ g k 0 fo ou (HG2.out.al _).b (HG2.out.al _).gm HI.out HKt.out HBb.out HT1.out HC1.out).mono ?_; rintro e w3 ⟨ta2, tn2, tc2, ca2, cn2, cc2, rfl, q1, q2⟩; have HG3 : Hid (Gl w ((w3.setCell ⟨S + 1 + 1, 0, none⟩ (.slice ta2 tn2 tc2)).setCell ⟨S + 1 + 1, 1, none⟩ (.slice ca2 cn2 cc2)) ds (some ⟨qb, qo, none⟩) n c S F D J (S + 1 + 1) ta2 tn2 tc2 ca2 cn2 cc2 s (moveM ps s g k 0)) := (HG2.out.al _).put q2 q1; have hg3 := ((HG2.out.al (.cells #[.int .i64 (tp : Nat), .slice pa pn pc] 41)).below q2).gbx; obtain ⟨x0, x1, xf⟩ := hg3; have lx3 : S + 1 + 1 < w3.heap.size := World.block_lt_of_cell? _ _ x0; clear q1 q2)
                      have HI3 : Hid (∃ fo' ou', Ginv ps n s (moveM ps s g k 0) fo' ou') := HI.out.move HGp.out.1 HGp.out.2 0 HKt.out
                      have HC3 : Hid ((moveM ps s g k 0).came.length ≤ i + 1) := Nat.le_trans (moveM_came _ _ _ _ _) (Nat.succ_le_succ HCl.out)
                      generalize (w3.setCell ⟨S + 1 + 1, 0, none⟩ (.slice ta2 tn2 tc2)).setCell ⟨S + 1 + 1, 1, none⟩ (.slice ca2 cn2 cc2) = w4 at *
                      clear x0 x1 xf lx3 g0 g1 gf lg d0 d1 df ld t0 t1 lt0 p0 lp
                      generalize moveM ps s g k 0 = g2 at *
                      have HT3 : Hid (g2.toks.length = tn2) := HG3.out.gm.len.symm
                      have hc31 := HG3.out.gm.cap1
                      have hc32 := HG3.out.gm.cap2
                      go_loopw [14] (fun x wr => ∃ (j : Nat), j ≤ tn2 ∧ x = .int .i64 j ∧ Hid (Gl w wr ds (some ⟨qb, qo, none⟩) n c S F D J (S + 1 + 1) ta2 tn2 tc2 ca2 cn2 cc2 s g2)) (fun x _ => tn2 - (intOf x).toNat)
                      case atStart => exact ⟨0, Nat.zero_le _, rfl, HG3.out⟩
                      case round =>
                        clear HG3
                        obtain ⟨j, hj, rfl, HR5⟩ := hrel
                        obtain ⟨g0, g1, gf⟩ := HR5.out.gbx
                        have lg : S + 1 + 1 < wr.heap.size := World.block_lt_of_cell? _ _ g0
                        obtain ⟨s0, s1, s2, sf⟩ := HR5.out.cs
                        have lS : S < wr.heap.size := World.block_lt_of_cell? _ _ s0
                        by_cases hjl : j < tn2
                        · obtain ⟨tb3, tv3, rfl, t0, t1, t2, t3⟩ := HR5.out.gm.tok j (by rw [HT3.out]; exact hjl)
                          have lt0 : tb3 < wr.heap.size := World.block_lt_of_cell? _ _ t0
                          obtain ⟨fo', ou', hI3⟩ := HI3.out
                          obtain ⟨hp1, hp2⟩ := hI3.plen HGp.out.1.bal _ (getD_memT (by rw [HT3.out]; exact hjl))
                          have r0 := HR5.out.dp.c _ (show (g2.toks.getD j zeroTk).pos < s.dp.length by rw [HDl.out]; exact hp1)
                          have lD : D < wr.heap.size := World.block_lt_of_cell? _ _ r0
                          obtain ⟨va3, vc3, rfl, _⟩ := t2
                          rw [hp2] at t1
                          have hd16 : s.dp.getD (g2.toks.getD j zeroTk).pos 0 ≤ 16 := getD_mem_le HGp.out.1.bal.ok.dpl
                          have hjr : (j : Int) < (tn2 : Int) := by omega
                          generalize s.dp.getD (g2.toks.getD j zeroTk).pos 0 = dd at *
                          generalize (g2.toks.getD j zeroTk).pos = tp3 at *
                          clear t3 hI3 hp2
                          go_wp2
                          go_quiet (fail)
                          go_wp2
                          go_roundw
                          case rel => exact ⟨j + 1, by omega, by go_num, HR5.out.drN _⟩
                          case measure => simp [intOf]; omega
                        · go_wp2_with fail
                          go_roundw
                          case rel =>
                            obtain ⟨fo', ou', hI3⟩ := HI3.out
                            exact ⟨i + 1, by omega, by go_num, _, _, _, _, _, _, _, fo', ou', HR5.out, hI3, HC3.out⟩
                          case measure => simp [intOf]; omega
            · have k3d : decide ((i : Int) < (mn : Int)) = false := decide_eq_false (by omega)
              go_wp2_with (go_at_call 7; refine (H7.out _).mono ?_; rintro e w5 ⟨rfl, HB⟩; have HB5 : Hid (Below w.heap.size w w5) := HG.out.b.trans (HB.mono HG.out.b.size); clear HB)
              go_ret
              exact ⟨rfl, HB5.out⟩
        · have h3 : (oe : Int) ≠ 0 := by omega
          have h4 : ((oe : Int) == 0) = false := by rw [beq_eq_false_iff_ne]; exact h3
          clear HMo HPos
          go_wp2_with (first
            | (go_at_call 8; refine (H8.out _ HB1.out.1).mono ?_; rintro e w2 ⟨q1, q⟩; have q2 := (show oe ≠ 0 ∧ _ from q.elim id (fun x => absurd x.1 hof)).2; subst q2; have HB2 : Hid (Below w.heap.size w w2) := HB1.out.1.trans (q1.mono HB1.out.1.size); clear q q1)
            | (go_at_call 7; refine (H7.out _).mono ?_; rintro e w3 ⟨rfl, HB⟩; have HB3 : Hid (Below w.heap.size w w3) := (HB2.out.alloc HB2.out.size _).trans (HB.mono (Nat.le_trans HB2.out.size (le_alloc _ _))); clear HB))
          go_ret
          exact ⟨rfl, HB3.out⟩
end Go.Proofs.Ytlaiacjlphjmlaa
