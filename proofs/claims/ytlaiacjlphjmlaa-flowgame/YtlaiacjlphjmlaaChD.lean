/-
  The program's checkFlow, checkPlace, Check: contracts.
-/
import Derived.Test.YtlaiacjlphjmlaaChC
namespace Go.Proofs.Ytlaiacjlphjmlaa
open Go.RowKit
set_option linter.unusedVariables false

set_option maxRecDepth 100000 in
set_option maxHeartbeats 1000000 in
theorem checkFlow_any (P : Nat → Prop) (p : Pl) (aa : Option Addr) (ca : Nat) (ao : Option Addr) (co : Nat) (i n : Nat) (w : World) (hp : PlV w P p aa ca ao co) (hi : i < p.out.length) (hn : n ≤ 9223372036854775807) :
    Calls Try.prog 46 #[plA p aa ca ao co, .int .i64 i, .int .i64 n] w fun e w' => e = .returned (.int .i64 (flowM p.kind (decide (i + 1 = p.out.length)) n (p.out.getD i zeroF) : Nat)) ∧ Below w.heap.size w w' := by
  have hkr := hp.kind
  obtain ⟨hk1, hk2⟩ := hkr
  obtain ⟨hca, hla⟩ := hp.arg.cap
  obtain ⟨hco, hlo⟩ := hp.out.cap
  obtain ⟨b, o, ka, kc, rfl, hPb, hF⟩ := hp.out.at i hi
  obtain ⟨f0, f1, f2, f3⟩ := hF
  obtain ⟨hto1, hto2⟩ := f3
  obtain ⟨hkc, hkl⟩ := f2.cap
  have hbl : b < w.heap.size := World.block_lt_of_cell? w _ f0
  have HCT : Hid (∀ w2, Below w.heap.size w w2 → Calls Try.prog 57 #[.slice ka (p.out.getD i zeroF).ifs.length kc, .bool true] w2 fun e w' => e = .returned (.int .i64 (firstBad (typedM true) (p.out.getD i zeroF).ifs : Nat)) ∧ Below w2.heap.size w2 w') := fun w2 hb => checkTrees_any P _ true _ w2 (f2.kept (kept_below hb))
  have HCF : Hid (∀ w, Calls Try.prog 58 #[.int .i64 (p.out.getD i zeroF).ifs.length, .bool (decide (p.kind = 3)), .bool (decide (i + 1 = p.out.length))] w fun e w' => e = .returned (.bool (countM (p.out.getD i zeroF).ifs.length (decide (p.kind = 3)) (decide (i + 1 = p.out.length)))) ∧ w' = w) := fun w => countFits_any _ _ _ w
  have gx : (p.kind == 3) = decide (p.kind = 3) := by by_cases h : p.kind = 3 <;> simp [h]
  have gl : ((i : Int) == (p.out.length : Int) - 1) = decide (i + 1 = p.out.length) := by
    by_cases h : i + 1 = p.out.length
    · rw [decide_eq_true h, beq_iff_eq]; omega
    · rw [decide_eq_false h, beq_eq_false_iff_ne]; omega
  have gl2 : decide ((i : Int) = (p.out.length : Int) - 1) = decide (i + 1 = p.out.length) := decide_eq_decide.2 (by omega)
  have gx2 : decide ((p.kind : Int) = 3) = decide (p.kind = 3) := rfl
  have HE : Hid (flowM p.kind (decide (i + 1 = p.out.length)) n (p.out.getD i zeroF) = if (p.out.getD i zeroF).to < 1 ∨ (n : Int) ≤ (p.out.getD i zeroF).to then 8 else if countM (p.out.getD i zeroF).ifs.length (decide (p.kind = 3)) (decide (i + 1 = p.out.length)) = false then 8 else firstBad (typedM true) (p.out.getD i zeroF).ifs) := rfl
  rw [HE.out]
  show Calls Try.prog 46 #[.agg #[.int .i64 p.kind, .string (ba p.name), .int .i64 p.n, .slice aa p.arg.length ca, .slice (some ⟨b, o, none⟩) p.out.length co], .int .i64 i, .int .i64 n] w _
  clear HE hp f2 gx2
  generalize countM (p.out.getD i zeroF).ifs.length (decide (p.kind = 3)) (decide (i + 1 = p.out.length)) = cm at *
  generalize decide (p.kind = 3) = xr at *
  generalize decide (i + 1 = p.out.length) = ls at *
  generalize firstBad (typedM true) (p.out.getD i zeroF).ifs = fb at *
  generalize (p.out.getD i zeroF).ifs.length = il at *
  generalize (p.out.getD i zeroF).to = to at *
  generalize p.kind = pk at *
  generalize ba p.name = ps at *
  generalize p.n = pn at *
  generalize p.arg.length = la at *
  generalize p.out.length = lo at *
  by_cases h1 : to < 1
  · rw [if_pos (.inl h1)]
    go_enter Try.func46, Try.ntmps46
    go_wp2_with fail
    go_ret
    exact ⟨rfl, ((Below.refl _ _).alloc (Nat.le_refl _) _).alloc (le_alloc _ _) _⟩
  by_cases h2 : (n : Int) ≤ to
  · rw [if_pos (.inr h2)]
    go_enter Try.func46, Try.ntmps46
    go_wp2_with fail
    go_ret
    exact ⟨rfl, ((Below.refl _ _).alloc (Nat.le_refl _) _).alloc (le_alloc _ _) _⟩
  rw [if_neg (by rintro (h | h); exact h1 h; exact h2 h)]
  cases cm with
  | false =>
    rw [if_pos rfl]
    go_enter Try.func46, Try.ntmps46
    go_wp2_with (go_at_call 58; refine (HCF.out _).mono ?_; rintro e w3 ⟨rfl, h3⟩; have h4 := h3.symm; clear h3; subst h4)
    go_ret
    exact ⟨rfl, ((Below.refl _ _).alloc (Nat.le_refl _) _).alloc (le_alloc _ _) _⟩
  | true =>
    rw [if_neg (by decide)]
    go_enter Try.func46, Try.ntmps46
    go_wp2_with (first
      | (go_at_call 57; refine (HCT.out _ (((Below.refl _ _).alloc (Nat.le_refl _) _).alloc (le_alloc _ _) _)).mono ?_; rintro e w3 ⟨rfl, HB⟩; have HB3 : Hid (Below w.heap.size w w3) := (((Below.refl _ _).alloc (Nat.le_refl _) _).alloc (le_alloc _ _) _).trans (HB.mono (Nat.le_trans (le_alloc _ _) (le_alloc _ _))); clear HB)
      | (go_at_call 58; refine (HCF.out _).mono ?_; rintro e w3 ⟨rfl, h3⟩; have h4 := h3.symm; clear h3; subst h4))
    go_ret
    exact ⟨rfl, HB3.out⟩
set_option maxRecDepth 100000 in
set_option maxHeartbeats 1000000 in
theorem checkPlace_any (P : Nat → Prop) (p : Pl) (aa : Option Addr) (ca : Nat) (ao : Option Addr) (co : Nat) (k n : Nat) (w : World) (hp : PlV w P p aa ca ao co) (hn : n ≤ 9223372036854775807) (hk : k < n) :
    Calls Try.prog 30 #[plA p aa ca ao co, .int .i64 k, .int .i64 n] w fun e w' => e = .returned (.int .i64 (placeM p k n : Nat)) ∧ Below w.heap.size w w' := by
  obtain ⟨hca, hla⟩ := hp.arg.cap
  obtain ⟨hco, hlo⟩ := hp.out.cap
  have HCF : Hid (∀ w2, Below w.heap.size w w2 → Calls Try.prog 45 #[.agg #[.int .i64 p.kind, .string (ba p.name), .int .i64 p.n, .slice aa p.arg.length ca, .slice ao p.out.length co]] w2 fun e w' => e = .returned (.int .i64 (fieldsM p : Nat)) ∧ Below w2.heap.size w2 w') := fun w2 hb => checkFields_any P p aa ca ao co w2 (hp.kept (kept_below hb))
  have HFL : Hid (∀ i w2, i < p.out.length → Below w.heap.size w w2 → Calls Try.prog 46 #[.agg #[.int .i64 p.kind, .string (ba p.name), .int .i64 p.n, .slice aa p.arg.length ca, .slice ao p.out.length co], .int .i64 (i : Nat), .int .i64 n] w2 fun e w' => e = .returned (.int .i64 (flowM p.kind (decide (i + 1 = p.out.length)) n (p.out.getD i zeroF) : Nat)) ∧ Below w2.heap.size w2 w') := fun i w2 hi hb => checkFlow_any P p aa ca ao co i n w2 (hp.kept (kept_below hb)) hi hn
  have HE : Hid (placeM p k n = if fieldsM p ≠ 0 then fieldsM p else if decide (p.kind = 1) ≠ decide (k = 0) then 8 else firstIx (fun i => flowM p.kind (decide (i + 1 = p.out.length)) n (p.out.getD i zeroF)) 0 p.out.length) := rfl
  rw [HE.out]
  show Calls Try.prog 30 #[.agg #[.int .i64 p.kind, .string (ba p.name), .int .i64 p.n, .slice aa p.arg.length ca, .slice ao p.out.length co], .int .i64 k, .int .i64 n] w _
  have gk : (p.kind == 1) = decide (p.kind = 1) := by by_cases h : p.kind = 1 <;> simp [h]
  have g0 : ((k : Int) == 0) = decide (k = 0) := by
    by_cases h : k = 0
    · subst h; rfl
    · rw [decide_eq_false h, beq_eq_false_iff_ne]; omega
  have g0' : decide ((k : Int) = 0) = decide (k = 0) := decide_eq_decide.2 (by omega)
  clear HE hp
  generalize decide (p.kind = 1) = st at *
  generalize decide (k = 0) = k0 at *
  generalize hfm : (fun i => flowM p.kind (decide (i + 1 = p.out.length)) n (p.out.getD i zeroF)) = fm at *
  have HFL2 : Hid (∀ i w2, i < p.out.length → Below w.heap.size w w2 → Calls Try.prog 46 #[.agg #[.int .i64 p.kind, .string (ba p.name), .int .i64 p.n, .slice aa p.arg.length ca, .slice ao p.out.length co], .int .i64 (i : Nat), .int .i64 n] w2 fun e w' => e = .returned (.int .i64 (fm i : Nat)) ∧ Below w2.heap.size w2 w') := fun i w2 h1 h2 => by
    have := HFL.out i w2 h1 h2
    rw [← hfm]; exact this
  clear HFL hfm
  generalize fieldsM p = ff at *
  generalize p.kind = pk at *
  generalize ba p.name = ps at *
  generalize p.n = pn at *
  generalize p.arg.length = la at *
  generalize p.out.length = lo at *
  by_cases h1 : ff = 0
  case neg =>
    rw [if_pos h1]
    have h1' : ¬ (ff : Int) = 0 := by omega
    go_enter Try.func30, Try.ntmps30
    go_wp2_with (go_at_call 45; refine (HCF.out _ ((Below.refl _ _).alloc (Nat.le_refl _) _)).mono ?_; rintro e w1 ⟨rfl, HB⟩; have HB1 : Hid (Below w.heap.size w w1) := below_new HB; clear HB)
    go_ret
    exact ⟨rfl, HB1.out⟩
  subst h1
  rw [if_neg (by simp)]
  by_cases h2 : st = k0
  case neg =>
    rw [if_pos h2]
    have h2a : (st == k0) = false := by simpa using h2
    have h2b : (st != k0) = true := by simpa using h2
    go_enter Try.func30, Try.ntmps30
    go_wp2_with (go_at_call 45; refine (HCF.out _ ((Below.refl _ _).alloc (Nat.le_refl _) _)).mono ?_; rintro e w1 ⟨rfl, HB⟩; obtain ⟨q0, q1, q2, q3, q4, q5⟩ := (Cell5.new w (.int .i64 pk) (.string ps) (.int .i64 pn) (.slice aa la ca) (.slice ao lo co) 37).below HB; have HB1 : Hid (Below w.heap.size w w1) := below_new HB; clear HB)
    go_ret
    exact ⟨rfl, HB1.out⟩
  rw [if_neg (by simpa using h2)]
  subst h2
  go_enter Try.func30, Try.ntmps30
  go_wp2_with (go_at_call 45; refine (HCF.out _ ((Below.refl _ _).alloc (Nat.le_refl _) _)).mono ?_; rintro e w1 ⟨rfl, HB⟩; obtain ⟨q0, q1, q2, q3, q4, q5⟩ := (Cell5.new w (.int .i64 pk) (.string ps) (.int .i64 pn) (.slice aa la ca) (.slice ao lo co) 37).below HB; have HB1 : Hid (Below w.heap.size w w1 ∧ Cell5 w1 w.heap.size (.int .i64 pk) (.string ps) (.int .i64 pn) (.slice aa la ca) (.slice ao lo co)) := ⟨below_new HB, ⟨q0, q1, q2, q3, q4, q5⟩⟩; clear HB)
  clear q0 q1 q2 q3 q4 q5
  go_loopw [24] (fun v wr => ∃ (i : Nat), i ≤ lo ∧ v = .int .i64 i ∧ Hid (Below w.heap.size w wr ∧ Cell5 wr w.heap.size (.int .i64 pk) (.string ps) (.int .i64 pn) (.slice aa la ca) (.slice ao lo co) ∧ ∀ j, j < i → fm j = 0)) (fun v _ => lo - (intOf v).toNat)
  case atStart => exact ⟨0, Nat.zero_le _, rfl, HB1.out.1, HB1.out.2, fun j hj => absurd hj (by omega)⟩
  case round =>
    obtain ⟨i, hi, rfl, HR⟩ := hrel
    by_cases hlt : i < lo
    · have HC : Hid (∀ w2, Below w.heap.size w w2 → Calls Try.prog 46 #[.agg #[.int .i64 pk, .string ps, .int .i64 pn, .slice aa la ca, .slice ao lo co], .int .i64 (i : Nat), .int .i64 n] w2 fun e w' => e = .returned (.int .i64 (fm i : Nat)) ∧ Below w2.heap.size w2 w') := fun w2 hb => HFL2.out i w2 hlt hb
      have HQ : Hid (fm i = 0 → ∀ j, j < i + 1 → fm j = 0) := fun h1 j hj => by
        rcases Nat.lt_succ_iff_lt_or_eq.1 hj with h | h
        · exact HR.out.2.2 j h
        · rw [h, h1]
      have HQ2 : Hid (fm i ≠ 0 → firstIx fm 0 lo = fm i) := fun h => firstIx_at hlt HR.out.2.2 h
      obtain ⟨q0, q1, q2, q3, q4, q5⟩ := HR.out.2.1
      generalize fm i = ck at *
      by_cases hc0 : ck = 0
      · subst hc0
        go_wp2_with (go_at_call 46; refine (HC.out _ HR.out.1).mono ?_; rintro e w3 ⟨rfl, HB⟩; have HB3 : Hid (Below w.heap.size w w3 ∧ Cell5 w3 w.heap.size (.int .i64 pk) (.string ps) (.int .i64 pn) (.slice aa la ca) (.slice ao lo co)) := ⟨HR.out.1.trans (HB.mono HR.out.1.size), HR.out.2.1.below HB⟩; clear HB)
        go_roundw
        case rel => exact ⟨i + 1, by omega, by go_num, HB3.out.1, HB3.out.2, HQ.out (by trivial)⟩
        case measure => simp [intOf]; omega
      · have hc1 : ¬ (ck : Int) = 0 := by omega
        go_wp2_with (go_at_call 46; refine (HC.out _ HR.out.1).mono ?_; rintro e w3 ⟨rfl, HB⟩; have HB3 : Hid (Below w.heap.size w w3) := HR.out.1.trans (HB.mono HR.out.1.size); clear HB)
        go_ret
        exact ⟨by rw [HQ2.out hc0]; rfl, HB3.out⟩
    · have he : i = lo := by omega
      subst he
      have HE : Hid (firstIx fm 0 i = 0) := firstIx_none HR.out.2.2
      have HB3 : Hid (Below w.heap.size w wr) := HR.out.1
      clear HR
      go_wp2
      go_ret
      exact ⟨by rw [HE.out]; rfl, HB3.out⟩
set_option maxRecDepth 100000 in
set_option maxHeartbeats 1000000 in
theorem MCheck_any (P : Nat → Prop) (d : Df) (a : Option Addr) (c : Nat) (w : World) (hd : DfV w P d a c) :
    Calls Try.prog 18 #[dfA d a c] w fun e w' => e = .returned (.int .i64 (checkD d : Nat)) ∧ Below w.heap.size w w' := by
  obtain ⟨hc, hl⟩ := hd.places.cap
  have HN : Hid (∀ w, Calls Try.prog 29 #[.string (ba d.id)] w fun e w' => e = .returned (.bool (nameOk d.id)) ∧ w' = w) := fun w => by rw [← nm_ok]; exact name_any (ba d.id) w hd.id
  have HP : Hid (∀ i w2, i < d.places.length → Below w.heap.size w w2 → ∃ b o aa ca ao co, a = some ⟨b, o, none⟩ ∧ PlAt w2 P b (o + i * 5) (d.places.getD i zeroP) aa ca ao co) := fun i w2 hi hb => by
    obtain ⟨b, o, aa, ca, ao, co, h1, h2, h3⟩ := hd.places.at i hi
    exact ⟨b, o, aa, ca, ao, co, h1, h3.kept h2 (kept_below hb)⟩
  have HE : Hid (checkD d = if nameOk d.id = false then 1 else if 4096 < d.places.length then 6 else if d.places.length = 0 then 8 else firstIx (fun i => placeM (d.places.getD i zeroP) i d.places.length) 0 d.places.length) := rfl
  rw [HE.out]
  show Calls Try.prog 18 #[.agg #[.string (ba d.id), .slice a d.places.length c]] w _
  clear HE hd
  generalize hfm : (fun i => placeM (d.places.getD i zeroP) i d.places.length) = fm at *
  have HM : Hid (∀ i, fm i = placeM (d.places.getD i zeroP) i d.places.length) := fun i => by rw [← hfm]
  clear hfm
  generalize nameOk d.id = nk at *
  generalize ba d.id = ds at *
  generalize d.places = pl at *
  cases nk with
  | false =>
    rw [if_pos rfl]
    go_enter Try.func18, Try.ntmps18
    go_wp2_with (go_at_call 29; refine (HN.out _).mono ?_; rintro e w3 ⟨rfl, h3⟩; have h4 := h3.symm; clear h3; subst h4)
    go_ret
    exact ⟨rfl, (Below.refl _ _).alloc (Nat.le_refl _) _⟩
  | true =>
    rw [if_neg (by decide)]
    by_cases h1 : 4096 < pl.length
    · rw [if_pos h1]
      go_enter Try.func18, Try.ntmps18
      go_wp2_with (go_at_call 29; refine (HN.out _).mono ?_; rintro e w3 ⟨rfl, h3⟩; have h4 := h3.symm; clear h3; subst h4)
      go_ret
      exact ⟨rfl, (Below.refl _ _).alloc (Nat.le_refl _) _⟩
    rw [if_neg h1]
    by_cases h2 : pl.length = 0
    · rw [if_pos h2]
      have h2' : ((pl.length : Int) == 0) = true := by rw [beq_iff_eq]; omega
      go_enter Try.func18, Try.ntmps18
      go_wp2_with (go_at_call 29; refine (HN.out _).mono ?_; rintro e w3 ⟨rfl, h3⟩; have h4 := h3.symm; clear h3; subst h4)
      go_ret
      exact ⟨rfl, (Below.refl _ _).alloc (Nat.le_refl _) _⟩
    rw [if_neg h2]
    have h2' : ((pl.length : Int) == 0) = false := by rw [beq_eq_false_iff_ne]; omega
    have hmax : pl.length ≤ 4096 := by omega
    have HMx : Hid (pl.length ≤ 9223372036854775807) := hl
    go_enter Try.func18, Try.ntmps18
    go_wp2_with (go_at_call 29; refine (HN.out _).mono ?_; rintro e w3 ⟨rfl, h3⟩; have h4 := h3.symm; clear h3; subst h4)
    go_loopw [24] (fun v wr => ∃ (i : Nat), i ≤ pl.length ∧ v = .int .i64 i ∧ Hid (Below w.heap.size w wr ∧ Cell2 wr w.heap.size (.string ds) (.slice a pl.length c) ∧ ∀ j, j < i → fm j = 0)) (fun v _ => pl.length - (intOf v).toNat)
    case atStart => exact ⟨0, Nat.zero_le _, rfl, (Below.refl _ _).alloc (Nat.le_refl _) _, Cell2.new w _ _ 24, fun j hj => absurd hj (by omega)⟩
    case round =>
      obtain ⟨i, hi, rfl, HR⟩ := hrel
      by_cases hlt : i < pl.length
      · obtain ⟨b, o, aa, ca, ao, co, rfl, hPA⟩ := HP.out i wr hlt HR.out.1
        have HV : Hid (PlV wr P (pl.getD i zeroP) aa ca ao co) := hPA.val
        obtain ⟨p0, p1, p2, p3, p4, _⟩ := hPA
        have hbl : b < wr.heap.size := World.block_lt_of_cell? wr _ p0
        have HC : Hid (∀ w2, Below wr.heap.size wr w2 → Calls Try.prog 30 #[.agg #[.int .i64 (pl.getD i zeroP).kind, .string (ba (pl.getD i zeroP).name), .int .i64 (pl.getD i zeroP).n, .slice aa (pl.getD i zeroP).arg.length ca, .slice ao (pl.getD i zeroP).out.length co], .int .i64 (i : Nat), .int .i64 pl.length] w2 fun e w' => e = .returned (.int .i64 (fm i : Nat)) ∧ Below w2.heap.size w2 w') := fun w2 hb => by
          rw [HM.out]
          exact checkPlace_any P _ aa ca ao co i _ w2 (HV.out.kept (kept_below hb)) HMx.out hlt
        have HQ : Hid (fm i = 0 → ∀ j, j < i + 1 → fm j = 0) := fun h1 j hj => by
          rcases Nat.lt_succ_iff_lt_or_eq.1 hj with h | h
          · exact HR.out.2.2 j h
          · rw [h, h1]
        have HQ2 : Hid (fm i ≠ 0 → firstIx fm 0 pl.length = fm i) := fun h => firstIx_at hlt HR.out.2.2 h
        obtain ⟨q0, q1, q2⟩ := HR.out.2.1
        have hwl : w.heap.size < wr.heap.size := HR.out.2.1.lt
        clear HM HV
        generalize fm i = ck at *
        generalize (pl.getD i zeroP).kind = yk at *
        generalize ba (pl.getD i zeroP).name = ys at *
        generalize (pl.getD i zeroP).n = yn at *
        generalize (pl.getD i zeroP).arg.length = ya at *
        generalize (pl.getD i zeroP).out.length = yo at *
        by_cases hc0 : ck = 0
        · subst hc0
          go_wp2_with (go_at_call 30; refine (HC.out _ ((Below.refl _ _).alloc (Nat.le_refl _) _)).mono ?_; rintro e w3 ⟨rfl, HB⟩; have HB3 : Hid (Below w.heap.size w w3 ∧ Cell2 w3 w.heap.size (.string ds) (.slice (some ⟨b, o, none⟩) pl.length c)) := ⟨HR.out.1.trans ((below_new HB).mono HR.out.1.size), HR.out.2.1.below (below_new HB)⟩; clear HB)
          go_roundw
          case rel => exact ⟨i + 1, by omega, by go_num, HB3.out.1, HB3.out.2, HQ.out (by trivial)⟩
          case measure => simp [intOf]; omega
        · have hc1 : ¬ (ck : Int) = 0 := by omega
          go_wp2_with (go_at_call 30; refine (HC.out _ ((Below.refl _ _).alloc (Nat.le_refl _) _)).mono ?_; rintro e w3 ⟨rfl, HB⟩; have HB3 : Hid (Below w.heap.size w w3) := HR.out.1.trans ((below_new HB).mono HR.out.1.size); clear HB)
          go_ret
          exact ⟨by rw [HQ2.out hc0]; rfl, HB3.out⟩
      · have he : i = pl.length := by omega
        subst he
        have HE : Hid (firstIx fm 0 pl.length = 0) := firstIx_none HR.out.2.2
        have HB3 : Hid (Below w.heap.size w wr) := HR.out.1
        clear HR
        go_wp2
        go_ret
        exact ⟨by rw [HE.out]; rfl, HB3.out⟩
end Go.Proofs.Ytlaiacjlphjmlaa
