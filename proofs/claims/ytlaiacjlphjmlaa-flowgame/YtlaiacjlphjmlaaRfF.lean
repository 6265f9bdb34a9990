/-
  The document's own Of: its contract.
-/
import Derived.Test.YtlaiacjlphjmlaaRfD
import Derived.Test.YtlaiacjlphjmlaaRfE
import Derived.BigQuiet
namespace Go.Proofs.Ytlaiacjlphjmlaa
open Go.RowKit
set_option linter.unusedVariables false

theorem goD_fin {d : Df} (hz : checkD d = 0) (h0 : (goD d).1 = 0) : Fin d.places d.places.length (goD d).2.od.length (goD d).2.od.length (goD d).2 :=
  Fin.go ((kind_start hz (def_facts hz).pos).mpr rfl) (fun p hp x hx => (flows_in hz p hp x hx).2) (d.places.length + 1) 0 _ (Fin.begin (def_facts hz).pos) (by omega) h0
theorem ofE_go {d : Df} (hz : checkD d = 0) : ofE d = if (goD d).1 = 0 ∧ wholeS d.places (goD d).2 = false then 8 else (goD d).1 := by
  unfold ofE; rw [if_neg (by omega)]; rfl
theorem Ro.drN {w0 w5 w : World} {J n : Nat} {vF vD : Value} {ds : ByteArray} {a : Option Addr} {c : Nat} {s : Fs} {i j : Nat} (h : Ro w0 w5 w J n vF vD ds a c s i j) (k : Nat) : Ro w0 w5 (w.drewN k) J n vF vD ds a c s i j := h.keep (below_drewN (Below.refl _ _) k)
set_option maxRecDepth 100000 in
set_option maxHeartbeats 4000000 in
theorem ROf_any (P : Nat → Prop) (d : Df) (a : Option Addr) (c : Nat) (w : World) (hd : DfV w P d a c) : Calls Try.prog 9 #[.agg #[.string (ba d.id), .slice a d.places.length c]] w (ROfP d w) := by
  have HC : Hid (∀ o o2, Calls Try.prog 21 #[.agg #[.string (ba d.id), .slice a d.places.length c]] ((w.alloc o).alloc o2) fun e w' => e = .returned (.int .i64 (checkD d : Nat)) ∧ Below ((w.alloc o).alloc o2).heap.size ((w.alloc o).alloc o2) w') := fun o o2 => RDCheck_any _ d a c _ (hd.kept (kept_below (((Below.refl _ _).alloc (Nat.le_refl _) o).alloc (le_alloc _ _) o2)))
  obtain ⟨hcap1, hcap2⟩ := hd.places.cap
  by_cases hz : checkD d = 0
  · have hfa := def_facts hz
    have hn : d.places.length ≤ 4096 := hfa.len
    have hn0 : 0 < d.places.length := hfa.pos
    have HRw : Hid (∀ w1, Below w.heap.size w w1 → Calls Try.prog 22 #[.agg #[.string (ba d.id), .slice a d.places.length c]] w1 (RowsP d w1)) := fun w1 q => Rows_any _ d a c w1 (hd.kept (kept_below q)) hz
    have HPs : Hid (Plz w w.heap.size a c d.places.length d.places) := ⟨hd.places.kept fun g hg hl => ⟨rfl, hl⟩, rfl⟩
    have hoe := ofE_go hz
    have HOS : Hid (ofS d = (goD d).2) := rfl
    rw [hz] at HC
    by_cases hg : (goD d).1 = 0
    · have HFi : Hid (Fin d.places d.places.length (goD d).2.od.length (goD d).2.od.length (goD d).2) := goD_fin hz hg
      have HBad : Hid (∀ e w', wholeS d.places (goD d).2 = false → Below w.heap.size w w' → e = .returned (.tuple #[.agg #[.slice none 0 0, .slice none 0 0, .slice none 0 0], .int .i64 8]) → ROfP d w e w') := fun e w' q1 q2 q3 => by
        have e8 : ofE d = 8 := by rw [hoe, if_pos ⟨hg, q1⟩]
        exact ⟨q2, .inl ⟨by rw [e8]; decide, by rw [e8]; exact q3⟩⟩
      have HGood : Hid (∀ e w' v1 v2 v3, wholeS d.places (goD d).2 = true → Below w.heap.size w w' → e = .returned (.tuple #[.agg #[v1, v2, v3], .int .i64 0]) → Iv w' v1 (goD d).2.fk → Iv w' v2 (goD d).2.dp → Iv w' v3 (goD d).2.jn → ROfP d w e w') := fun e w' v1 v2 v3 q1 q2 q3 q4 q5 q6 => by
        have e0 : ofE d = 0 := by rw [hoe, if_neg (by rw [q1]; simp), hg]
        exact ⟨q2, .inr ⟨e0, v1, v2, v3, q3, q4, q5, q6⟩⟩
      have HCR : Hid (∀ w1, Below w.heap.size w w1 → Calls Try.prog 22 #[.agg #[.string (ba d.id), .slice a d.places.length c]] w1 fun e w' => ∃ R J ov, e = .returned (.tuple #[.slice (some ⟨R, 0, none⟩) d.places.length d.places.length, .slice (some ⟨J, 0, none⟩) d.places.length d.places.length, .int .i64 0]) ∧ Below w1.heap.size w1 w' ∧ Rs w' R R J d.places.length ov (goD d).2 ∧ w1.heap.size < J) := fun w1 q => (HRw.out w1 q).mono fun e w' ⟨q1, R, J, q2, _, qJ, q3⟩ => by
        obtain ⟨ov, q4⟩ := q3 hg
        rw [hg] at q2
        exact ⟨R, J, ov, q2, q1, q4, qJ⟩
      clear hd hfa hz hoe HRw hg HOS
      generalize ROfP d w = Q at *
      generalize (goD d).2 = s at *
      have hlen : d.places.length = d.places.length := rfl
      have HLn : Hid (d.places.length = d.places.length) := rfl
      have HWy : Hid ((∀ i, i < d.places.length → badAt d.places s i = false) → wholeS d.places s = true) := whole_yes
      have HWn : Hid (∀ i, i < d.places.length → badAt d.places s i = true → wholeS d.places s = false) := fun i hi q => whole_no hi q
      clear hlen HLn
      generalize d.places.length = n at *
      generalize d.places = ps at *
      generalize ba d.id = ds at *
      go_enter Try.func9, Try.ntmps9
      go_wp2_with (first
        | (go_at_call 22; have := G1; refine (HCR.out _ G1.out.1).mono ?_; rintro e w3 ⟨R, J, ov, rfl, q1, q2, qJ⟩; have HJw : Hid (w.heap.size + 1 < J) := Nat.lt_trans G1.out.2.lt qJ; have G2 : Hid (Rs w3 R R J n ov s ∧ Below w.heap.size w w3 ∧ Cell3 w3 (w.heap.size + 1) (.slice none 0 0) (.slice none 0 0) (.slice none 0 0) ∧ Cell2 w3 w.heap.size (.string ds) (.slice a n c)) := ⟨q2, G1.out.1.trans (q1.mono G1.out.1.size), G1.out.2.kept (q1.block _ G1.out.2.lt), (Cell2.mk x0 x1 x2).below q1⟩; clear q1 q2 qJ G1)
        | (go_at_call 21; refine (HC.out _ _).mono ?_; rintro e w2 ⟨rfl, q1⟩; have C3 := Cell3.new (w.alloc (.cells #[.string ds, .slice a n c] 24)) (.slice none 0 0) (.slice none 0 0) (.slice none 0 0) 29; rw [size_alloc] at C3; have G1 : Hid (Below w.heap.size w w2 ∧ Cell3 w2 (w.heap.size + 1) (.slice none 0 0) (.slice none 0 0) (.slice none 0 0)) := ⟨below_new (below_new q1), C3.kept (q1.block _ C3.lt)⟩; obtain ⟨x0, x1, x2⟩ := ((Cell2.new w (.string ds) (.slice a n c) 24).below ((Below.refl _ _).alloc (Nat.le_refl _) (.cells #[.slice none 0 0, .slice none 0 0, .slice none 0 0] 29))).below q1; have hlx := World.block_lt_of_cell? _ _ x0; clear q1 C3))
      have HRo : Hid (Ro w w3 (w3.alloc (.cells #[.slice none 0 0, .slice none 0 0, .slice (some ⟨J, 0, none⟩) n n] 29)) J n (.slice none 0 0) (.slice none 0 0) ds a c s 0 0) := ⟨G2.out.2.1.alloc G2.out.2.1.size _, (Below.refl _ _).alloc (Nat.le_refl _) _, G2.out.2.2.2.below ((Below.refl _ _).alloc (Nat.le_refl _) _), G2.out.2.2.1.kept (heap_alloc_old _ _ G2.out.2.2.1.lt), Cell3.new _ _ _ _ _, Gw.nil _ _ _ _ _, Gw.nil _ _ _ _ _, fun k hk => (by cases hk), G2.out.2.2.1.lt⟩
      have HRs : Hid (∀ wx, Below w3.heap.size w3 wx → Rs wx R R J n ov s) := fun wx q => G2.out.1.below q
      have HR3 : Hid (R < w3.heap.size) := G2.out.1.lR
      clear x0 x1 x2 hlx G2 HC HCR
      go_loopw [9] (fun x wr => ∃ (i : Nat), i ≤ n ∧ x = .int .i64 i ∧ Hid ((∃ vF vD, Ro w w3 wr J n vF vD ds a c s i i) ∧ ∀ j, j < i → badAt ps s j = false)) (fun x _ => n - (intOf x).toNat)
      case atStart => exact ⟨0, Nat.zero_le _, rfl, ⟨_, _, HRo.out⟩, fun j hj => absurd hj (Nat.not_lt_zero _)⟩
      case round =>
        clear HRo
        obtain ⟨i, hi, rfl, HR⟩ := hrel
        obtain ⟨⟨vF, vD, hro⟩, hbf⟩ := HR.out
        have HO : Hid (Ro w w3 wr J n vF vD ds a c s i i) := hro
        have HBf : Hid (∀ j, j < i → badAt ps s j = false) := hbf
        obtain ⟨b0, b1, bf⟩ := hro.box
        have lb := World.block_lt_of_cell? _ _ b0
        obtain ⟨s0, s1, s2, sf⟩ := hro.sb
        have ls := World.block_lt_of_cell? _ _ s0
        have hrs := HRs.out wr hro.hb
        obtain ⟨z0, z1, z2, zf⟩ := hro.res
        have lz := World.block_lt_of_cell? _ _ z0
        have hlo := hro.lo
        obtain ⟨fa, fc, rfl⟩ := hro.f.form
        obtain ⟨da, dc, rfl⟩ := hro.d.form
        have hfl : (s.fk.take i).length = i := by rw [List.length_take, HFi.out.ok.fk]; omega
        have hdl : (s.dp.take i).length = i := by rw [List.length_take, HFi.out.ok.dp]; omega
        rw [hfl] at s0 HO
        rw [hdl] at s1 HO
        clear hro hbf HR
        by_cases hlt : i < n
        · obtain ⟨rv, r1, r2, r3, r4⟩ := hrs.rows i hlt
          have lR := World.block_lt_of_cell? _ _ r1
          have hji := hrs.jn.c i (by rw [HFi.out.ok.jn]; exact hlt)
          have lJ := World.block_lt_of_cell? _ _ hji
          obtain ⟨qb, qo, rfl, p0⟩ := (HPs.out.below HO.out.b).v.kindAt HPs.out.len hlt
          have lq := World.block_lt_of_cell? _ _ p0
          have HBi : Hid (badAt ps s i = (!(s.cm.getD i false) || (decide (kindP ps i = 4) && decide (s.jn.getD i 0 = 0)))) := rfl
          have HPs : Hid True := trivial
          clear hrs
          by_cases hcm : s.cm.getD i false = true
          · have hch : rowL s i = inn s (s.fk.getD i 0) := by unfold rowL; rw [if_pos hcm]; exact chain_eq HFi.out hcm
            have hln : (inn s (s.fk.getD i 0)).length = s.dp.getD i 0 := by rw [← chain_eq HFi.out hcm]; exact chain_len HFi.out _ _ rfl hcm
            have hdp : s.dp.getD i 0 ≤ 16 := getD_mem_le HFi.out.ok.dpl
            have hcc := HFi.out.ch i hcm
            have hfn : s.fk.getD i 0 < n := getD_mem_or HFi.out.ok.fkl (by omega)
            rw [hch] at r3
            rw [hcm] at r1 HBi
            have HIv : Hid (Iv wr rv (inn s (s.fk.getD i 0))) := r3
            obtain ⟨ra, rc, rfl, hrc1, hrc2, hrg⟩ := r3
            rw [hln] at hrc1 r2
            have HFt : Hid (s.fk.take (i + 1) = s.fk.take i ++ [s.fk.getD i 0]) := take_add (by rw [HFi.out.ok.fk]; exact hlt)
            have HDt : Hid (s.dp.take (i + 1) = s.dp.take i ++ [s.dp.getD i 0]) := take_add (by rw [HFi.out.ok.dp]; exact hlt)
            have HLf : Hid ((s.fk.take i).length ≤ 1048576) := by show _ ≤ _; omega
            have HLd : Hid ((s.dp.take i).length ≤ 1048576) := by show _ ≤ _; omega
            have HRk : Hid (∀ wx, Below w3.heap.size w3 wx → wx.cell? ⟨R, i * 2 + 1, none⟩ = some (.slice ra (s.dp.getD i 0) rc)) := fun wx q => (cell_kept ((q.block R HR3.out).trans (HO.out.hb.block R HR3.out).symm) _).trans r2
            by_cases hbad : kindP ps i = 4 ∧ s.jn.getD i 0 = 0
            · have HW : Hid (wholeS ps s = false) := HWn.out i hlt (by rw [HBi.out, decide_eq_true hbad.1, decide_eq_true hbad.2]; rfl)
              rw [hbad.1] at p0
              rw [hbad.2] at hji
              clear hbad hch hln hcc hrg r4 HRk HFt HDt
              go_wp2
              have hz4 : Cell3 _ (w.heap.size + 1) (.slice none 0 0) (.slice none 0 0) (.slice none 0 0) := ((HO.out.res.put 0 (.slice none 0 0)).put 1 (.slice none 0 0)).put 2 (.slice none 0 0)
              obtain ⟨e0, e1, e2, _⟩ := hz4
              try rw [Exit.noGoto_ret]
              refine bodyPost_ret (v := .tuple #[.agg #[.slice none 0 0, .slice none 0 0, .slice none 0 0], .int .i64 8]) (by simp [results, Try.results9, go_sem, e0, e1, e2]) rfl ?_
              exact HBad.out _ _ HW.out (three_below (o := 0) HO.out.b (Nat.le_succ _)) rfl
            · have HNb : Hid (∀ j, j < i + 1 → badAt ps s j = false) := fun j hj => by
                by_cases q : j = i
                · subst q; rw [HBi.out]
                  by_cases k4 : kindP ps j = 4
                  · rw [decide_eq_true k4, decide_eq_false (fun q => hbad ⟨k4, q⟩)]; rfl
                  · rw [decide_eq_false k4]; rfl
                · exact HBf.out j (by omega)
              have hd2 : (s.dp.getD i 0 = 0 ∧ s.fk.getD i 0 = 0) ∨ (0 < s.dp.getD i 0 ∧ ∃ rg, ra = some ⟨rg, 0, none⟩ ∧ wr.cell? ⟨rg, s.dp.getD i 0 - 1, none⟩ = some (.int .i64 (s.fk.getD i 0 : Nat))) := by
                rcases hcc with ⟨q1, q2⟩ | ⟨q1, _, _, q4⟩
                · exact .inl ⟨q2, q1⟩
                · refine .inr ⟨by omega, ?_⟩
                  rcases hrg with ⟨_, q5, _⟩ | ⟨rg, q5, q6⟩
                  · rw [q5] at hln; simp at hln; omega
                  · refine ⟨rg, q5, ?_⟩
                    rw [q6 _ (by omega)]
                    have : (inn s (s.fk.getD i 0)).getD (s.dp.getD i 0 - 1) 0 = s.fk.getD i 0 := by
                      rw [← hln]; unfold inn; rw [if_neg q1]; simp [List.getD_eq_getElem?_getD]
                    rw [this]
              have hk2 : (kindP ps i ≠ 4) ∨ (kindP ps i = 4 ∧ s.jn.getD i 0 ≠ 0) := by
                by_cases k4 : kindP ps i = 4
                · exact .inr ⟨k4, fun q => hbad ⟨k4, q⟩⟩
                · exact .inl k4
              clear hbad hch hln hcc hrg r4 hcm
              rcases hk2 with k4 | ⟨k4, j0⟩
              · have k41 : (kindP ps i == 4) = false := by rw [beq_eq_false_iff_ne]; exact k4
                have k42 : decide (kindP ps i = 4) = false := decide_eq_false k4
                generalize kindP ps i = kk at *
                generalize s.jn.getD i 0 = jj at *
                rcases hd2 with ⟨d0, f0⟩ | ⟨d0, rg, rfl, hcl⟩
                · rw [d0] at r2 HDt hrc1 HRk
                  rw [f0] at HFt
                  clear hdp hfn
                  go_wp2_with (at_builtin; refine list_int2 (y := 0) (B := w3.heap.size + 1) rfl (.tmp 80) (.tmp 82) rfl HO.out.f HO.out.hi rfl rfl rfl HLf.out ?_; intro v6 w6 h6 hg6 ho6; have q6 := h6.form1; rw [hfl] at q6; obtain ⟨va, vc, rfl⟩ := q6; rw [← HFt.out] at h6; have G6 : Hid (Ro w w3 (w6.setCell ⟨w3.heap.size, 0, none⟩ (.slice va (i + 1) vc)) J n (.slice va (i + 1) vc) (.slice da i dc) ds (some ⟨qb, qo, none⟩) c s (i + 1) i) := (HO.out.addF hg6 h6 ho6).2; obtain ⟨t0, t1, t2, t3⟩ := (HO.out.addF hg6 h6 ho6).1; have lt6 := World.block_lt_of_cell? _ _ t0; clear h6 hg6 ho6)
                  generalize w6.setCell ⟨w3.heap.size, 0, none⟩ (.slice va (i + 1) vc) = w7 at *
                  obtain ⟨y0, y1, y2, yf⟩ := G6.out.sb
                  have ly := World.block_lt_of_cell? _ _ y0
                  have xr := HRk.out w7 G6.out.hb
                  have lx := World.block_lt_of_cell? _ _ xr
                  clear t0 t1 t2 t3 lt6 s0 s1 s2 sf ls r1 r2 lR hji lJ p0 lq b0 b1 bf lb z0 z1 z2 zf lz
                  go_region_law (refine step_int2 (y := 0) (B := w3.heap.size + 1) rfl (.tmp 86) (.tmp 93) rfl G6.out.dr.d G6.out.dr.hi rfl rfl rfl HLd.out ?_; intro v8 w8 h8 hg8 ho8; have q8 := h8.form1; rw [hdl] at q8; obtain ⟨ua, uc, rfl⟩ := q8; rw [← HDt.out] at h8; have G8 : Hid (Ro w w3 (w8.setCell ⟨w3.heap.size, 1, none⟩ (.slice ua (i + 1) uc)) J n (.slice va (i + 1) vc) (.slice ua (i + 1) uc) ds (some ⟨qb, qo, none⟩) c s (i + 1) (i + 1)) := (G6.out.dr.addD hg8 h8 ho8).2; obtain ⟨v0, v1, v2, v3⟩ := (G6.out.dr.addD hg8 h8 ho8).1; have lv := World.block_lt_of_cell? _ _ v0; clear h8 hg8 ho8)
                  all_goals (
                    go_wp2
                    go_roundw
                    case rel => exact ⟨i + 1, by omega, by go_num, ⟨_, _, G8.out⟩, HNb.out⟩
                    case measure => simp [intOf]; omega)
                · obtain ⟨e, he⟩ : ∃ e, s.dp.getD i 0 = e + 1 := ⟨s.dp.getD i 0 - 1, by omega⟩
                  rw [he] at r2 HDt hrc1 HRk hdp
                  rw [he, Nat.add_sub_cancel] at hcl
                  have lg := World.block_lt_of_cell? _ _ hcl
                  generalize s.fk.getD i 0 = y at *
                  clear he d0
                  go_wp2
                  go_quiet (fail)
                  go_wp2_with (at_builtin; refine list_int2 (y := y) (B := w3.heap.size + 1) rfl (.tmp 80) (.tmp 82) rfl (HO.out.drN _).f (HO.out.drN _).hi rfl rfl rfl HLf.out ?_; intro v6 w6 h6 hg6 ho6; have q6 := h6.form1; rw [hfl] at q6; obtain ⟨va, vc, rfl⟩ := q6; rw [← HFt.out] at h6; have G6 : Hid (Ro w w3 (w6.setCell ⟨w3.heap.size, 0, none⟩ (.slice va (i + 1) vc)) J n (.slice va (i + 1) vc) (.slice da i dc) ds (some ⟨qb, qo, none⟩) c s (i + 1) i) := ((HO.out.drN _).addF hg6 h6 ho6).2; obtain ⟨t0, t1, t2, t3⟩ := ((HO.out.drN _).addF hg6 h6 ho6).1; have lt6 := World.block_lt_of_cell? _ _ t0; clear h6 hg6 ho6)
                  generalize w6.setCell ⟨w3.heap.size, 0, none⟩ (.slice va (i + 1) vc) = w7 at *
                  obtain ⟨y0, y1, y2, yf⟩ := G6.out.sb
                  have ly := World.block_lt_of_cell? _ _ y0
                  have xr := HRk.out w7 G6.out.hb
                  have lx := World.block_lt_of_cell? _ _ xr
                  clear t0 t1 t2 t3 lt6 s0 s1 s2 sf ls r1 r2 lR hji lJ p0 lq b0 b1 bf lb z0 z1 z2 zf lz
                  go_region_law (refine step_int2 (y := e + 1) (B := w3.heap.size + 1) rfl (.tmp 86) (.tmp 93) rfl G6.out.dr.d G6.out.dr.hi rfl rfl rfl HLd.out ?_; intro v8 w8 h8 hg8 ho8; have q8 := h8.form1; rw [hdl] at q8; obtain ⟨ua, uc, rfl⟩ := q8; rw [← HDt.out] at h8; have G8 : Hid (Ro w w3 (w8.setCell ⟨w3.heap.size, 1, none⟩ (.slice ua (i + 1) uc)) J n (.slice va (i + 1) vc) (.slice ua (i + 1) uc) ds (some ⟨qb, qo, none⟩) c s (i + 1) (i + 1)) := (G6.out.dr.addD hg8 h8 ho8).2; obtain ⟨v0, v1, v2, v3⟩ := (G6.out.dr.addD hg8 h8 ho8).1; have lv := World.block_lt_of_cell? _ _ v0; clear h8 hg8 ho8)
                  all_goals (
                    go_wp2
                    go_roundw
                    case rel => exact ⟨i + 1, by omega, by go_num, ⟨_, _, G8.out⟩, HNb.out⟩
                    case measure => simp [intOf]; omega)
              · rw [k4] at p0
                have j01 : ¬ ((s.jn.getD i 0 : Nat) : Int) = 0 := by omega
                have j02 : (((s.jn.getD i 0 : Nat) : Int) == 0) = false := by rw [beq_eq_false_iff_ne]; exact j01
                have j03 : decide (((s.jn.getD i 0 : Nat) : Int) = 0) = false := decide_eq_false j01
                clear k4
                generalize s.jn.getD i 0 = jj at *
                rcases hd2 with ⟨d0, f0⟩ | ⟨d0, rg, rfl, hcl⟩
                · rw [d0] at r2 HDt hrc1 HRk
                  rw [f0] at HFt
                  clear hdp hfn
                  go_wp2_with (at_builtin; refine list_int2 (y := 0) (B := w3.heap.size + 1) rfl (.tmp 80) (.tmp 82) rfl HO.out.f HO.out.hi rfl rfl rfl HLf.out ?_; intro v6 w6 h6 hg6 ho6; have q6 := h6.form1; rw [hfl] at q6; obtain ⟨va, vc, rfl⟩ := q6; rw [← HFt.out] at h6; have G6 : Hid (Ro w w3 (w6.setCell ⟨w3.heap.size, 0, none⟩ (.slice va (i + 1) vc)) J n (.slice va (i + 1) vc) (.slice da i dc) ds (some ⟨qb, qo, none⟩) c s (i + 1) i) := (HO.out.addF hg6 h6 ho6).2; obtain ⟨t0, t1, t2, t3⟩ := (HO.out.addF hg6 h6 ho6).1; have lt6 := World.block_lt_of_cell? _ _ t0; clear h6 hg6 ho6)
                  generalize w6.setCell ⟨w3.heap.size, 0, none⟩ (.slice va (i + 1) vc) = w7 at *
                  obtain ⟨y0, y1, y2, yf⟩ := G6.out.sb
                  have ly := World.block_lt_of_cell? _ _ y0
                  have xr := HRk.out w7 G6.out.hb
                  have lx := World.block_lt_of_cell? _ _ xr
                  clear t0 t1 t2 t3 lt6 s0 s1 s2 sf ls r1 r2 lR hji lJ p0 lq b0 b1 bf lb z0 z1 z2 zf lz
                  go_region_law (refine step_int2 (y := 0) (B := w3.heap.size + 1) rfl (.tmp 86) (.tmp 93) rfl G6.out.dr.d G6.out.dr.hi rfl rfl rfl HLd.out ?_; intro v8 w8 h8 hg8 ho8; have q8 := h8.form1; rw [hdl] at q8; obtain ⟨ua, uc, rfl⟩ := q8; rw [← HDt.out] at h8; have G8 : Hid (Ro w w3 (w8.setCell ⟨w3.heap.size, 1, none⟩ (.slice ua (i + 1) uc)) J n (.slice va (i + 1) vc) (.slice ua (i + 1) uc) ds (some ⟨qb, qo, none⟩) c s (i + 1) (i + 1)) := (G6.out.dr.addD hg8 h8 ho8).2; obtain ⟨v0, v1, v2, v3⟩ := (G6.out.dr.addD hg8 h8 ho8).1; have lv := World.block_lt_of_cell? _ _ v0; clear h8 hg8 ho8)
                  all_goals (
                    go_wp2
                    go_roundw
                    case rel => exact ⟨i + 1, by omega, by go_num, ⟨_, _, G8.out⟩, HNb.out⟩
                    case measure => simp [intOf]; omega)
                · obtain ⟨e, he⟩ : ∃ e, s.dp.getD i 0 = e + 1 := ⟨s.dp.getD i 0 - 1, by omega⟩
                  rw [he] at r2 HDt hrc1 HRk hdp
                  rw [he, Nat.add_sub_cancel] at hcl
                  have lg := World.block_lt_of_cell? _ _ hcl
                  generalize s.fk.getD i 0 = y at *
                  clear he d0
                  go_wp2
                  go_quiet (fail)
                  go_wp2_with (at_builtin; refine list_int2 (y := y) (B := w3.heap.size + 1) rfl (.tmp 80) (.tmp 82) rfl (HO.out.drN _).f (HO.out.drN _).hi rfl rfl rfl HLf.out ?_; intro v6 w6 h6 hg6 ho6; have q6 := h6.form1; rw [hfl] at q6; obtain ⟨va, vc, rfl⟩ := q6; rw [← HFt.out] at h6; have G6 : Hid (Ro w w3 (w6.setCell ⟨w3.heap.size, 0, none⟩ (.slice va (i + 1) vc)) J n (.slice va (i + 1) vc) (.slice da i dc) ds (some ⟨qb, qo, none⟩) c s (i + 1) i) := ((HO.out.drN _).addF hg6 h6 ho6).2; obtain ⟨t0, t1, t2, t3⟩ := ((HO.out.drN _).addF hg6 h6 ho6).1; have lt6 := World.block_lt_of_cell? _ _ t0; clear h6 hg6 ho6)
                  generalize w6.setCell ⟨w3.heap.size, 0, none⟩ (.slice va (i + 1) vc) = w7 at *
                  obtain ⟨y0, y1, y2, yf⟩ := G6.out.sb
                  have ly := World.block_lt_of_cell? _ _ y0
                  have xr := HRk.out w7 G6.out.hb
                  have lx := World.block_lt_of_cell? _ _ xr
                  clear t0 t1 t2 t3 lt6 s0 s1 s2 sf ls r1 r2 lR hji lJ p0 lq b0 b1 bf lb z0 z1 z2 zf lz
                  go_region_law (refine step_int2 (y := e + 1) (B := w3.heap.size + 1) rfl (.tmp 86) (.tmp 93) rfl G6.out.dr.d G6.out.dr.hi rfl rfl rfl HLd.out ?_; intro v8 w8 h8 hg8 ho8; have q8 := h8.form1; rw [hdl] at q8; obtain ⟨ua, uc, rfl⟩ := q8; rw [← HDt.out] at h8; have G8 : Hid (Ro w w3 (w8.setCell ⟨w3.heap.size, 1, none⟩ (.slice ua (i + 1) uc)) J n (.slice va (i + 1) vc) (.slice ua (i + 1) uc) ds (some ⟨qb, qo, none⟩) c s (i + 1) (i + 1)) := (G6.out.dr.addD hg8 h8 ho8).2; obtain ⟨v0, v1, v2, v3⟩ := (G6.out.dr.addD hg8 h8 ho8).1; have lv := World.block_lt_of_cell? _ _ v0; clear h8 hg8 ho8)
                  all_goals (
                    go_wp2
                    go_roundw
                    case rel => exact ⟨i + 1, by omega, by go_num, ⟨_, _, G8.out⟩, HNb.out⟩
                    case measure => simp [intOf]; omega)
          · have hcm2 : s.cm.getD i false = false := by simpa using hcm
            have HW : Hid (wholeS ps s = false) := HWn.out i hlt (by rw [HBi.out, hcm2]; rfl)
            rw [hcm2] at r1
            clear r2 r3 r4 hcm
            generalize kindP ps i = kk at *
            go_wp2
            have hz4 : Cell3 _ (w.heap.size + 1) (.slice none 0 0) (.slice none 0 0) (.slice none 0 0) := ((HO.out.res.put 0 (.slice none 0 0)).put 1 (.slice none 0 0)).put 2 (.slice none 0 0)
            obtain ⟨e0, e1, e2, _⟩ := hz4
            try rw [Exit.noGoto_ret]
            refine bodyPost_ret (v := .tuple #[.agg #[.slice none 0 0, .slice none 0 0, .slice none 0 0], .int .i64 8]) (by simp [results, Try.results9, go_sem, e0, e1, e2]) rfl ?_
            exact HBad.out _ _ HW.out (three_below (o := 0) HO.out.b (Nat.le_succ _)) rfl
        · have hin : i = n := by omega
          have HW : Hid (wholeS ps s = true) := HWy.out fun j hj => HBf.out j (by omega)
          have hjr := hrs.jn
          have hIf : Iv wr (.slice fa i fc) s.fk := by
            have := gw_iv HO.out.f
            rw [hin, ← HFi.out.ok.fk, List.take_length] at this
            rw [hin, ← HFi.out.ok.fk]; exact this
          have hId : Iv wr (.slice da i dc) s.dp := by
            have := gw_iv HO.out.d
            rw [hin, ← HFi.out.ok.dp, List.take_length] at this
            rw [hin, ← HFi.out.ok.dp]; exact this
          have hIj : Iv wr (.slice (some ⟨J, 0, none⟩) n n) s.jn := by
            have := Iv.row (c := n) hjr (by rw [HFi.out.ok.jn]; exact Nat.le_refl _) (by omega)
            rw [HFi.out.ok.jn] at this; exact this
          have HI : Hid (Iv wr (.slice fa i fc) s.fk ∧ Iv wr (.slice da i dc) s.dp ∧ Iv wr (.slice (some ⟨J, 0, none⟩) n n) s.jn) := ⟨hIf, hId, hIj⟩
          have hJR := hrs.lJ
          have HNe : Hid (∀ k, ((Value.slice fa i fc).ownBlock = some k ∨ (Value.slice da i dc).ownBlock = some k ∨ J = k) → k ≠ w.heap.size + 1) := fun k hk => by
            have h1 := HO.out.lo
            rcases hk with q | q | q
            · have := HO.out.f.own k q; omega
            · have := HO.out.d.own k q; omega
            · have := (HRs.out w3 (Below.refl _ _)).hJ
              have h2 := HJw.out
              omega
          clear hrs hjr hIf hId hIj hJR hin
          go_wp2
          have hz4 : Cell3 _ (w.heap.size + 1) (.slice fa i fc) (.slice da i dc) (.slice (some ⟨J, 0, none⟩) n n) := ((HO.out.res.put 0 (.slice fa i fc)).put 1 (.slice da i dc)).put 2 (.slice (some ⟨J, 0, none⟩) n n)
          obtain ⟨e0, e1, e2, _⟩ := hz4
          try rw [Exit.noGoto_ret]
          refine bodyPost_ret (v := .tuple #[.agg #[.slice fa i fc, .slice da i dc, .slice (some ⟨J, 0, none⟩) n n], .int .i64 0]) (by simp [results, Try.results9, go_sem, e0, e1, e2]) rfl ?_
          exact HGood.out _ _ _ _ _ HW.out (three_below (o := 0) HO.out.b (Nat.le_succ _)) rfl (HI.out.1.keep fun k hk _ => three_other (o := 0) (HNe.out k (.inl hk))) (HI.out.2.1.keep fun k hk _ => three_other (o := 0) (HNe.out k (.inr (.inl hk)))) (HI.out.2.2.keep fun k hk _ => three_other (o := 0) (HNe.out k (.inr (.inr (by injection hk)))))
    · have HE : Hid (ofE d = (goD d).1) := by show _ = _; rw [hoe, if_neg (fun q => hg q.1)]
      have HOfP : Hid (∀ e w', Below w.heap.size w w' ∧ e = .returned (.tuple #[.agg #[.slice none 0 0, .slice none 0 0, .slice none 0 0], .int .i64 ((goD d).1 : Nat)]) → ROfP d w e w') := fun e w' q => ⟨q.1, .inl ⟨by rw [HE.out]; exact hg, by rw [HE.out]; exact q.2⟩⟩
      have HCR : Hid (∀ w1, Below w.heap.size w w1 → Calls Try.prog 22 #[.agg #[.string (ba d.id), .slice a d.places.length c]] w1 fun e w' => ∃ R J, e = .returned (.tuple #[.slice (some ⟨R, 0, none⟩) d.places.length d.places.length, .slice (some ⟨J, 0, none⟩) d.places.length d.places.length, .int .i64 ((goD d).1 : Nat)]) ∧ Below w1.heap.size w1 w') := fun w1 q => (HRw.out w1 q).mono fun e w' ⟨q1, R, J, q2, _, _, q3⟩ => ⟨R, J, q2, q1⟩
      have hg2 : ¬ (((goD d).1 : Nat) : Int) = 0 := by omega
      clear hd hfa hz hoe HRw hg HOS HE HPs
      generalize ROfP d w = Q at *
      generalize (goD d).1 = er at *
      generalize d.places.length = n at *
      generalize ba d.id = ds at *
      go_enter Try.func9, Try.ntmps9
      go_wp2_with (first
        | (go_at_call 22; have := G1; refine (HCR.out _ G1.out.1).mono ?_; rintro e w3 ⟨R, J, rfl, q1⟩; have G2 : Hid (Below w.heap.size w w3 ∧ Cell3 w3 (w.heap.size + 1) (.slice none 0 0) (.slice none 0 0) (.slice none 0 0)) := ⟨G1.out.1.trans (q1.mono G1.out.1.size), G1.out.2.kept (q1.block _ G1.out.2.lt)⟩; obtain ⟨z0, z1, z2, z3⟩ := G2.out.2; have hlz := World.block_lt_of_cell? _ _ z0; clear q1 G1)
        | (go_at_call 21; refine (HC.out _ _).mono ?_; rintro e w2 ⟨rfl, q1⟩; have C3 := Cell3.new (w.alloc (.cells #[.string ds, .slice a n c] 24)) (.slice none 0 0) (.slice none 0 0) (.slice none 0 0) 29; rw [size_alloc] at C3; have G1 : Hid (Below w.heap.size w w2 ∧ Cell3 w2 (w.heap.size + 1) (.slice none 0 0) (.slice none 0 0) (.slice none 0 0)) := ⟨below_new (below_new q1), C3.kept (q1.block _ C3.lt)⟩; obtain ⟨x0, x1, x2⟩ := ((Cell2.new w (.string ds) (.slice a n c) 24).below ((Below.refl _ _).alloc (Nat.le_refl _) (.cells #[.slice none 0 0, .slice none 0 0, .slice none 0 0] 29))).below q1; have hlx := World.block_lt_of_cell? _ _ x0; clear q1 C3))
      have hz4 : Cell3 _ (w.heap.size + 1) (.slice none 0 0) (.slice none 0 0) (.slice none 0 0) := ((G2.out.2.put 0 (.slice none 0 0)).put 1 (.slice none 0 0)).put 2 (.slice none 0 0)
      obtain ⟨e0, e1, e2, _⟩ := hz4
      exact bodyPost_ret (v := .tuple #[.agg #[.slice none 0 0, .slice none 0 0, .slice none 0 0], .int .i64 er]) (by simp [results, Try.results9, go_sem, e0, e1, e2]) rfl (HOfP.out _ _ ⟨three_below (o := 0) G2.out.1 (Nat.le_succ _), rfl⟩)
  · have HE : Hid (ofE d = checkD d) := by show _ = _; unfold ofE; rw [if_pos hz]
    have HOfP : Hid (∀ e w', Below w.heap.size w w' ∧ e = .returned (.tuple #[.agg #[.slice none 0 0, .slice none 0 0, .slice none 0 0], .int .i64 (checkD d : Nat)]) → ROfP d w e w') := fun e w' q => ⟨q.1, .inl ⟨by rw [HE.out]; exact hz, by rw [HE.out]; exact q.2⟩⟩
    have hz2 : ¬ ((checkD d : Nat) : Int) = 0 := by omega
    clear hd HE hz
    generalize checkD d = ck at *
    generalize d.places.length = n at *
    generalize ba d.id = ds at *
    go_enter Try.func9, Try.ntmps9
    go_wp2_with (go_at_call 21; refine (HC.out _ _).mono ?_; rintro e w2 ⟨rfl, q1⟩; have C3 := Cell3.new (w.alloc (.cells #[.string ds, .slice a n c] 24)) (.slice none 0 0) (.slice none 0 0) (.slice none 0 0) 29; rw [size_alloc] at C3; have G1 : Hid (Below w.heap.size w w2 ∧ Cell3 w2 (w.heap.size + 1) (.slice none 0 0) (.slice none 0 0) (.slice none 0 0)) := ⟨below_new (below_new q1), C3.kept (q1.block _ C3.lt)⟩; obtain ⟨z0, z1, z2, z3⟩ := G1.out.2; have hlz := World.block_lt_of_cell? _ _ z0; clear q1 C3)
    have hz4 : Cell3 _ (w.heap.size + 1) (.slice none 0 0) (.slice none 0 0) (.slice none 0 0) := ((G1.out.2.put 0 (.slice none 0 0)).put 1 (.slice none 0 0)).put 2 (.slice none 0 0)
    obtain ⟨e0, e1, e2, _⟩ := hz4
    exact bodyPost_ret (v := .tuple #[.agg #[.slice none 0 0, .slice none 0 0, .slice none 0 0], .int .i64 ck]) (by simp [results, Try.results9, go_sem, e0, e1, e2]) rfl (HOfP.out _ _ ⟨three_below (o := 0) G1.out.1 (Nat.le_succ _), rfl⟩)
end Go.Proofs.Ytlaiacjlphjmlaa
