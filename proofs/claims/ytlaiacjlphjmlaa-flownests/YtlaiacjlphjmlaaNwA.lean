/-
  FlowNests' walk.
-/
import Derived.Test.YtlaiacjlphjmlaaFyZ
import Derived.Test.YtlaiacjlphjmlaaFlP
import Derived.Test.YtlaiacjlphjmlaaCkZ
import Derived.BigQuiet
namespace Go.Proofs.Ytlaiacjlphjmlaa
open Go.RowKit
set_option linter.unusedVariables false

/-- What FlowNests holds at hand. -/
structure Nt (w0 w : World) (sb F D J n : Nat) (a : Option Addr) (c : Nat) (ds : ByteArray) (ps : List Pl) (s : Fs) : Prop where
  b : Below w0.heap.size w0 w
  d : Cell2 w w0.heap.size (.string ds) (.slice a n c)
  cs : Cell3 w sb (.slice (some ⟨F, 0, none⟩) n n) (.slice (some ⟨D, 0, none⟩) n n) (.slice (some ⟨J, 0, none⟩) n n)
  f : RowN w F s.fk
  dp : RowN w D s.dp
  j : RowN w J s.jn
  p : PlsV w (fun _ => True) (.slice a n c) ps
  ok : Fok n s
  pos : 0 < n
theorem Nt.below {w0 w w' : World} {sb F D J n : Nat} {a : Option Addr} {c : Nat} {ds : ByteArray} {ps : List Pl} {s : Fs} (h : Nt w0 w sb F D J n a c ds ps s) (q : Below w.heap.size w w') : Nt w0 w' sb F D J n a c ds ps s :=
  ⟨h.b.trans (q.mono h.b.size), h.d.below q, h.cs.kept (q.block _ (World.block_lt_of_cell? _ _ h.cs.c0)), h.f.kept (q.block _ (h.f.lt (by rw [h.ok.fk]; exact h.pos))), h.dp.kept (q.block _ (h.dp.lt (by rw [h.ok.dp]; exact h.pos))), h.j.kept (q.block _ (h.j.lt (by rw [h.ok.jn]; exact h.pos))), h.p.kept (kept_below q), h.ok, h.pos⟩
theorem Nt.al {w0 w : World} {sb F D J n : Nat} {a : Option Addr} {c : Nat} {ds : ByteArray} {ps : List Pl} {s : Fs} (h : Nt w0 w sb F D J n a c ds ps s) (o : Obj) : Nt w0 (w.alloc o) sb F D J n a c ds ps s := h.below ((Below.refl _ _).alloc (Nat.le_refl _) o)
theorem Nt.dr {w0 w : World} {sb F D J n : Nat} {a : Option Addr} {c : Nat} {ds : ByteArray} {ps : List Pl} {s : Fs} (h : Nt w0 w sb F D J n a c ds ps s) (k : Nat) : Nt w0 (w.drewN k) sb F D J n a c ds ps s := h.below (below_drewN (Below.refl _ _) k)
theorem nt_new {w0 w : World} {F D J n : Nat} {a : Option Addr} {c : Nat} {ds : ByteArray} {ps : List Pl} {s : Fs} (b : Below w0.heap.size w0 w) (d : Cell2 w w0.heap.size (.string ds) (.slice a n c)) (f : RowN w F s.fk) (dp : RowN w D s.dp) (j : RowN w J s.jn) (p : PlsV w0 (fun _ => True) (.slice a n c) ps) (ok : Fok n s) (pos : 0 < n) : Nt w0 (w.alloc (.cells #[.slice (some ⟨F, 0, none⟩) n n, .slice (some ⟨D, 0, none⟩) n n, .slice (some ⟨J, 0, none⟩) n n] 29)) w.heap.size F D J n a c ds ps s :=
  ⟨b.alloc b.size _, d.below ((Below.refl _ _).alloc (Nat.le_refl _) _), Cell3.new w _ _ _ 29, f.kept (heap_alloc_old _ _ (f.lt (by rw [ok.fk]; exact pos))), dp.kept (heap_alloc_old _ _ (dp.lt (by rw [ok.dp]; exact pos))), j.kept (heap_alloc_old _ _ (j.lt (by rw [ok.jn]; exact pos))), (p.kept (kept_below b)).kept (kept_below ((Below.refl _ _).alloc (Nat.le_refl _) _)), ok, pos⟩
theorem Nt.pl {w0 w : World} {sb F D J n : Nat} {a : Option Addr} {c : Nat} {ds : ByteArray} {ps : List Pl} {s : Fs} (h : Nt w0 w sb F D J n a c ds ps s) (hn : ps.length = n) : ∃ qb qo, a = some ⟨qb, qo, none⟩ ∧ ∀ i, i < n → ∃ aa ca ao co, PlAt w (fun _ => True) qb (qo + i * 5) (ps.getD i zeroP) aa ca ao co := by
  obtain ⟨qb, qo, _, _, _, _, rfl, _, _⟩ := h.p.at 0 (by rw [hn]; exact h.pos)
  refine ⟨qb, qo, rfl, fun i hi => ?_⟩
  obtain ⟨qb2, qo2, aa, ca, ao, co, e, _, q⟩ := h.p.at i (by rw [hn]; exact hi)
  injection e with e
  injection e with e1 e2 _
  subst e1; subst e2
  exact ⟨aa, ca, ao, co, q⟩
/-- What is known of a fork's join. -/
def NJ (ps : List Pl) (s : Fs) (n i : Nat) : Prop := s.jn.getD i 0 ≠ 0 ∧ s.jn.getD i 0 < n ∧ kindP ps (s.jn.getD i 0) = 5 ∧ s.fk.getD (s.jn.getD i 0) 0 = i ∧ 0 < (outP ps (s.jn.getD i 0)).length ∧ ∃ t : Nat, ((outP ps (s.jn.getD i 0)).getD 0 zeroF).to = t ∧ t < n ∧ s.fk.getD t 0 = s.fk.getD i 0
theorem nj_of {d : Df} (h : checkD d = 0) (hb : Bal d.places d.places.length (ofS d)) {i : Nat} (hi : i < d.places.length) (hk : kindP d.places i = 4) : NJ d.places (ofS d) d.places.length i := by
  generalize ofS d = s at *
  obtain ⟨h5, hf⟩ := hb.join i hi hk
  have hz := (hb.jn i hi).mpr hk
  have hzn : s.jn.getD i 0 < d.places.length := getD_mem_or hb.ok.jnl (by omega)
  obtain ⟨ho, _⟩ := outs_ok h hzn
  rw [h5] at ho
  have ho1 : 0 < (outP d.places (s.jn.getD i 0)).length := by unfold leastK at ho; rw [if_neg (by decide), if_neg (by decide)] at ho; omega
  have hm : (outP d.places (s.jn.getD i 0)).getD 0 zeroF ∈ outP d.places (s.jn.getD i 0) := by
    generalize outP d.places (s.jn.getD i 0) = l at *
    rw [List.getD_eq_getElem?_getD, List.getElem?_eq_getElem ho1]; exact List.getElem_mem _
  obtain ⟨g1, g2⟩ := flows_in h _ hzn _ hm
  have he := hb.edge _ hzn _ hm
  have hnx : nextF d.places s (s.jn.getD i 0) = s.fk.getD i 0 := by
    unfold nextF; rw [h5, if_neg (by decide), if_pos rfl, hf]
  exact ⟨hz, hzn, h5, hf, ho1, _, (Int.toNat_of_nonneg g1).symm, g2, he.trans hnx⟩
theorem of_check {d : Df} (h : ofE d = 0) : checkD d = 0 := by
  by_cases q : checkD d = 0
  · exact q
  · unfold ofE at h; rw [if_pos q] at h; exact h
set_option maxRecDepth 100000 in
set_option maxHeartbeats 3200000 in
theorem nests_walk (d : Df) (a : Option Addr) (c n : Nat) (w : World) (w0 : DfV w (fun _ => True) d a c) (hn : d.places.length = n) :
    Calls Try.prog 4 #[.agg #[.string (ba d.id), .slice a n c]] w fun e w' => e = .returned (.bool true) ∧ Below w.heap.size w w' := by
  have H6 : Hid (∀ o, Calls Try.prog 6 #[.agg #[.string (ba d.id), .slice a n c]] (w.alloc o) fun e w' => (∃ b, e = .returned (.bool b)) ∧ Below (w.alloc o).heap.size (w.alloc o) w') := fun o => by
    have := light_any _ d a c _ (w0.kept (kept_below ((Below.refl _ _).alloc (Nat.le_refl _) o)))
    rw [hn] at this; exact this
  have H7 : Hid (∀ w, Calls Try.prog 7 #[] w fun e w' => e = .returned (.bool true) ∧ Below w.heap.size w w') := fun w => works_any w
  have H8 : Hid (∀ w2, Below w.heap.size w w2 → Calls Try.prog 8 #[.agg #[.string (ba d.id), .slice a n c]] w2 fun e w' => Below w2.heap.size w2 w' ∧ ((ofE d ≠ 0 ∧ e = .returned (.tuple #[.agg #[.slice none 0 0, .slice none 0 0, .slice none 0 0], .int .i64 (ofE d : Nat)])) ∨ (ofE d = 0 ∧ ∃ fb db jb, e = .returned (.tuple #[.agg #[.slice (some ⟨fb, 0, none⟩) n n, .slice (some ⟨db, 0, none⟩) n n, .slice (some ⟨jb, 0, none⟩) n n], .int .i64 0]) ∧ RowN w' fb (ofS d).fk ∧ RowN w' db (ofS d).dp ∧ RowN w' jb (ofS d).jn ∧ Fok n (ofS d)))) := fun w2 q => by
    have := Of_any _ d a c w2 (w0.kept (kept_below q))
    rw [hn] at this
    refine this.mono ?_
    rintro e w' ⟨h1, h2 | ⟨h2, fb, db, jb, h3, _, _, _, h4⟩⟩
    · exact ⟨h1, .inl h2⟩
    · rw [hn] at h3 h4; exact ⟨h1, .inr ⟨h2, fb, db, jb, h3, h4⟩⟩
  have HPl : Hid (PlsV w (fun _ => True) (.slice a n c) d.places) := by have := w0.places; rw [hn] at this; exact this
  have HLn : Hid (d.places.length = n) := hn
  have hcap := HPl.out.cap
  have HBal : Hid (ofE d = 0 → Bal d.places n (ofS d) ∧ (0 < n ∧ n ≤ 4096) ∧ ∀ i, i < n → kindP d.places i = 4 → NJ d.places (ofS d) n i) := fun h => by
    have hz := of_check h
    have hb := of_bal hz h
    subst hn
    exact ⟨hb, ⟨(def_facts hz).pos, (def_facts hz).len⟩, fun i hi hk => nj_of hz hb hi hk⟩
  clear w0 hn
  generalize ofS d = s at *
  generalize ofE d = oe at *
  generalize d.places = ps at *
  generalize ba d.id = ds at *
  go_enter Try.func4, Try.ntmps4
  go_wp2_with (go_at_call 6; refine (H6.out _).mono ?_; rintro e w1 ⟨⟨lb, rfl⟩, HB⟩; have HB1 : Hid (Below w.heap.size w w1 ∧ Cell2 w1 w.heap.size (.string ds) (.slice a n c)) := ⟨((Below.refl _ _).alloc (Nat.le_refl _) _).trans (HB.mono (le_alloc _ _)), (Cell2.new w _ _ 24).below HB⟩; obtain ⟨z0, z1, zf⟩ := HB1.out.2; have lz := World.block_lt_of_cell? _ _ z0; clear HB; cases lb)
  · go_wp2_with (go_at_call 7; refine (H7.out _).mono ?_; rintro e w2 ⟨rfl, HB⟩; have HB2 : Hid (Below w.heap.size w w2) := HB1.out.1.trans (HB.mono HB1.out.1.size); clear HB)
    go_ret
    exact ⟨rfl, HB2.out⟩
  · by_cases hof : oe = 0
    · obtain ⟨hb, hn4, hj⟩ := HBal.out hof
      have HBl : Hid (Bal ps n s) := hb
      have HJ : Hid (∀ i, i < n → kindP ps i = 4 → NJ ps s n i) := hj
      obtain ⟨hpos, h4096⟩ := hn4
      clear HBal hb hj
      go_wp2_with (go_at_call 8; refine (H8.out _ HB1.out.1).mono ?_; rintro e w2 ⟨q1, q⟩; obtain ⟨F, D, J, rfl, r1, r2, r3, hok⟩ := (show oe = 0 ∧ _ from q.elim (fun x => absurd hof x.1) id).2; have HN : Hid (Nt w (w2.alloc (.cells #[.slice (some ⟨F, 0, none⟩) n n, .slice (some ⟨D, 0, none⟩) n n, .slice (some ⟨J, 0, none⟩) n n] 29)) w2.heap.size F D J n a c ds ps s) := nt_new (HB1.out.1.trans (q1.mono HB1.out.1.size)) (HB1.out.2.below q1) r1 r2 r3 HPl.out hok hpos; obtain ⟨y0, y1, yf⟩ := HB1.out.2.below q1; have ly := World.block_lt_of_cell? _ _ y0; clear q q1 r1 r2 r3 hok)
      clear z0 z1 zf lz y0 y1 yf ly HB1 H6 H8 HPl
      go_loopw [5] (fun v wr => ∃ (i : Nat), i ≤ n ∧ v = .int .i64 i ∧ Hid (Nt w wr w2.heap.size F D J n a c ds ps s)) (fun v _ => n - (intOf v).toNat)
      case atStart => exact ⟨0, Nat.zero_le _, rfl, HN.out⟩
      case round =>
        clear HN
        obtain ⟨i, hi, rfl, HR⟩ := hrel
        obtain ⟨qb, qo, rfl, hpl⟩ := HR.out.pl HLn.out
        obtain ⟨d0, d1, df⟩ := HR.out.d
        have ld := World.block_lt_of_cell? _ _ d0
        by_cases hlt : i < n
        · obtain ⟨aa, ca, ao, co, hPA⟩ := hpl i hlt
          obtain ⟨p0, p1, p2, p3, p4, _⟩ := hPA
          have hkk : (ps.getD i zeroP).kind = kindP ps i := rfl
          rw [hkk] at p0
          clear hkk
          have lq := World.block_lt_of_cell? _ _ p0
          obtain ⟨s0, s1, s2, sf⟩ := HR.out.cs
          have ls := World.block_lt_of_cell? _ _ s0
          have fi := HR.out.f.c i (by rw [HR.out.ok.fk]; exact hlt)
          have di := HR.out.dp.c i (by rw [HR.out.ok.dp]; exact hlt)
          have ji := HR.out.j.c i (by rw [HR.out.ok.jn]; exact hlt)
          have lF := World.block_lt_of_cell? _ _ fi
          have lD := World.block_lt_of_cell? _ _ di
          have lJ := World.block_lt_of_cell? _ _ ji
          generalize ba (ps.getD i zeroP).name = nm at *
          generalize (ps.getD i zeroP).n = pn at *
          generalize (ps.getD i zeroP).arg.length = al at *
          generalize (ps.getD i zeroP).out.length = ol at *
          have hA := HBl.out.ch i hlt
          have hK : (kindP ps i ≠ 4 ∧ s.jn.getD i 0 = 0) ∨ kindP ps i = 4 := by
            by_cases q : kindP ps i = 4
            · exact .inr q
            · exact .inl ⟨q, Nat.eq_zero_of_not_pos fun h => q ((HBl.out.jn i hlt).mp (by omega))⟩
          have hxn : s.fk.getD i 0 < n := getD_mem_or HR.out.ok.fkl hpos
          rcases hA with ⟨hA0, hA1⟩ | ⟨hA0, hA1, hA2⟩ <;> rcases hK with ⟨hK0, hK1⟩ | hK0
          · rw [hA0] at fi
            rw [hA1] at di
            rw [hK1] at ji
            have hk2 : (kindP ps i == 4) = false := by rw [beq_eq_false_iff_ne]; exact hK0
            have hk4 : (kindP ps i != 4) = true := by rw [bne, hk2]; rfl
            have hk6 : decide (kindP ps i = 4) = false := decide_eq_false hK0
            generalize kindP ps i = kk at *
            clear hpl
            go_wp2
            go_quiet (fail)
            go_wp2
            go_quiet (fail)
            go_wp2
            go_roundw
            case rel => exact ⟨i + 1, by omega, by go_num, (HR.out.al _).dr _⟩
            case measure => simp [intOf]; omega
          · rw [hA0] at fi
            rw [hA1] at di
            obtain ⟨j1, j2, j3, j4, j5, t, j6, j7, j8⟩ := HJ.out i hlt hK0
            obtain ⟨ra, rc, rao, rco, hPZ⟩ := hpl _ j2
            have zk : wr.cell? ⟨qb, qo + s.jn.getD i 0 * 5, none⟩ = some (.int .i64 5) := by have := hPZ.c0; rw [show (ps.getD (s.jn.getD i 0) zeroP).kind = 5 from j3] at this; exact this
            have zo := hPZ.c4
            obtain ⟨gb, go, ga, gc, rfl, _, hFl⟩ := hPZ.val.out.at 0 j5
            have zcap := hPZ.val.out.cap
            have hf0 := hFl.c0
            rw [show ((ps.getD (s.jn.getD i 0) zeroP).out.getD 0 zeroF).to = t from j6] at hf0
            simp only [Nat.zero_mul, Nat.add_zero] at hf0
            have j5' : 0 < (ps.getD (s.jn.getD i 0) zeroP).out.length := j5
            have fz := HR.out.f.c (s.jn.getD i 0) (by rw [HR.out.ok.fk]; exact j2)
            rw [j4] at fz
            have ft := HR.out.f.c t (by rw [HR.out.ok.fk]; exact j7)
            rw [j8] at ft
            rw [hA0] at ft
            have lg := World.block_lt_of_cell? _ _ hf0
            rw [hK0] at p0
            have hz2 : (((s.jn.getD i 0 : Nat) : Int) == 0) = false := by rw [beq_eq_false_iff_ne]; omega
            have hz3 : 0 < s.jn.getD i 0 := by omega
            have hz4 : (((s.jn.getD i 0 : Nat) : Int) != 0) = true := by rw [bne, hz2]; rfl
            have hz5 : ¬ ((s.jn.getD i 0 : Nat) : Int) = 0 := by omega
            have hz6 : decide (((s.jn.getD i 0 : Nat) : Int) = 0) = false := decide_eq_false hz5
            clear hPZ hFl j3 j4 j5 j6 j8 hK0
            generalize (ps.getD (s.jn.getD i 0) zeroP).out.length = zl at *
            generalize s.jn.getD i 0 = z at *
            clear hpl
            go_wp2
            go_quiet (fail)
            go_wp2
            go_quiet (fail)
            go_wp2
            go_quiet (fail)
            go_wp2
            go_roundw
            case rel => exact ⟨i + 1, by omega, by go_num, (HR.out.al _).dr _⟩
            case measure => simp [intOf]; omega
          · obtain ⟨ra, rc, rao, rco, hPX⟩ := hpl _ hxn
            have xk : wr.cell? ⟨qb, qo + s.fk.getD i 0 * 5, none⟩ = some (.int .i64 4) := by have := hPX.c0; rw [show (ps.getD (s.fk.getD i 0) zeroP).kind = 4 from hA1] at this; exact this
            have dx := HR.out.dp.c (s.fk.getD i 0) (by rw [HR.out.ok.dp]; exact hxn)
            have h16 : s.dp.getD (s.fk.getD i 0) 0 ≤ 16 := getD_mem_le HR.out.ok.dpl
            rw [hA2] at di
            simp only [Int.natCast_add, Int.cast_ofNat_Int] at di
            clear hPX hA1 hA2
            generalize s.dp.getD (s.fk.getD i 0) 0 = y at *
            rw [hK1] at ji
            have hk2 : (kindP ps i == 4) = false := by rw [beq_eq_false_iff_ne]; exact hK0
            have hk4 : (kindP ps i != 4) = true := by rw [bne, hk2]; rfl
            have hk6 : decide (kindP ps i = 4) = false := decide_eq_false hK0
            generalize kindP ps i = kk at *
            have hx2 : (((s.fk.getD i 0 : Nat) : Int) == 0) = false := by rw [beq_eq_false_iff_ne]; omega
            have hx3 : 0 < s.fk.getD i 0 := by omega
            have hx4 : (((s.fk.getD i 0 : Nat) : Int) != 0) = true := by rw [bne, hx2]; rfl
            have hx5 : ¬ ((s.fk.getD i 0 : Nat) : Int) = 0 := by omega
            have hx6 : decide (((s.fk.getD i 0 : Nat) : Int) = 0) = false := decide_eq_false hx5
            clear hA0
            generalize s.fk.getD i 0 = x at *
            clear hpl
            go_wp2
            go_quiet (fail)
            go_wp2
            go_quiet (fail)
            go_wp2
            go_roundw
            case rel => exact ⟨i + 1, by omega, by go_num, (HR.out.al _).dr _⟩
            case measure => simp [intOf]; omega
          · obtain ⟨ra, rc, rao, rco, hPX⟩ := hpl _ hxn
            have xk : wr.cell? ⟨qb, qo + s.fk.getD i 0 * 5, none⟩ = some (.int .i64 4) := by have := hPX.c0; rw [show (ps.getD (s.fk.getD i 0) zeroP).kind = 4 from hA1] at this; exact this
            have dx := HR.out.dp.c (s.fk.getD i 0) (by rw [HR.out.ok.dp]; exact hxn)
            have h16 : s.dp.getD (s.fk.getD i 0) 0 ≤ 16 := getD_mem_le HR.out.ok.dpl
            rw [hA2] at di
            simp only [Int.natCast_add, Int.cast_ofNat_Int] at di
            clear hPX hA1 hA2
            generalize s.dp.getD (s.fk.getD i 0) 0 = y at *
            obtain ⟨j1, j2, j3, j4, j5, t, j6, j7, j8⟩ := HJ.out i hlt hK0
            obtain ⟨ra, rc, rao, rco, hPZ⟩ := hpl _ j2
            have zk : wr.cell? ⟨qb, qo + s.jn.getD i 0 * 5, none⟩ = some (.int .i64 5) := by have := hPZ.c0; rw [show (ps.getD (s.jn.getD i 0) zeroP).kind = 5 from j3] at this; exact this
            have zo := hPZ.c4
            obtain ⟨gb, go, ga, gc, rfl, _, hFl⟩ := hPZ.val.out.at 0 j5
            have zcap := hPZ.val.out.cap
            have hf0 := hFl.c0
            rw [show ((ps.getD (s.jn.getD i 0) zeroP).out.getD 0 zeroF).to = t from j6] at hf0
            simp only [Nat.zero_mul, Nat.add_zero] at hf0
            have j5' : 0 < (ps.getD (s.jn.getD i 0) zeroP).out.length := j5
            have fz := HR.out.f.c (s.jn.getD i 0) (by rw [HR.out.ok.fk]; exact j2)
            rw [j4] at fz
            have ft := HR.out.f.c t (by rw [HR.out.ok.fk]; exact j7)
            rw [j8] at ft
            have lg := World.block_lt_of_cell? _ _ hf0
            rw [hK0] at p0
            have hz2 : (((s.jn.getD i 0 : Nat) : Int) == 0) = false := by rw [beq_eq_false_iff_ne]; omega
            have hz3 : 0 < s.jn.getD i 0 := by omega
            have hz4 : (((s.jn.getD i 0 : Nat) : Int) != 0) = true := by rw [bne, hz2]; rfl
            have hz5 : ¬ ((s.jn.getD i 0 : Nat) : Int) = 0 := by omega
            have hz6 : decide (((s.jn.getD i 0 : Nat) : Int) = 0) = false := decide_eq_false hz5
            clear hPZ hFl j3 j4 j5 j6 j8 hK0
            generalize (ps.getD (s.jn.getD i 0) zeroP).out.length = zl at *
            generalize s.jn.getD i 0 = z at *
            have hx2 : (((s.fk.getD i 0 : Nat) : Int) == 0) = false := by rw [beq_eq_false_iff_ne]; omega
            have hx3 : 0 < s.fk.getD i 0 := by omega
            have hx4 : (((s.fk.getD i 0 : Nat) : Int) != 0) = true := by rw [bne, hx2]; rfl
            have hx5 : ¬ ((s.fk.getD i 0 : Nat) : Int) = 0 := by omega
            have hx6 : decide (((s.fk.getD i 0 : Nat) : Int) = 0) = false := decide_eq_false hx5
            clear hA0
            generalize s.fk.getD i 0 = x at *
            clear hpl
            go_wp2
            go_quiet (fail)
            go_wp2
            go_quiet (fail)
            go_wp2
            go_quiet (fail)
            go_wp2
            go_roundw
            case rel => exact ⟨i + 1, by omega, by go_num, (HR.out.al _).dr _⟩
            case measure => simp [intOf]; omega
        · go_wp2_with (go_at_call 7; refine (H7.out _).mono ?_; rintro e w5 ⟨rfl, HB⟩; have HB5 : Hid (Below w.heap.size w w5) := HR.out.b.trans (HB.mono HR.out.b.size); clear HB)
          go_ret
          exact ⟨rfl, HB5.out⟩
    · have h1 : (oe : Int) ≠ 0 := by omega
      have h2 : ((oe : Int) == 0) = false := by rw [beq_eq_false_iff_ne]; exact h1
      clear HBal
      go_wp2_with (first
        | (go_at_call 8; refine (H8.out _ HB1.out.1).mono ?_; rintro e w2 ⟨q1, q⟩; have q2 := (show oe ≠ 0 ∧ _ from q.elim id (fun x => absurd x.1 hof)).2; subst q2; have HB2 : Hid (Below w.heap.size w w2) := HB1.out.1.trans (q1.mono HB1.out.1.size); clear q q1)
        | (go_at_call 7; refine (H7.out _).mono ?_; rintro e w3 ⟨rfl, HB⟩; have HB3 : Hid (Below w.heap.size w w3) := (HB2.out.alloc HB2.out.size _).trans (HB.mono (Nat.le_trans HB2.out.size (le_alloc _ _))); clear HB))
      go_ret
      exact ⟨rfl, HB3.out⟩
end Go.Proofs.Ytlaiacjlphjmlaa
