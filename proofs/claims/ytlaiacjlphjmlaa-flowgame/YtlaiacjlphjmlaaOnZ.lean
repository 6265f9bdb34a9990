/-
  The document's fields: the contract.
-/
import Derived.Test.YtlaiacjlphjmlaaDcB
import Derived.Test.YtlaiacjlphjmlaaDcC
import Derived.Test.YtlaiacjlphjmlaaDcD
import Derived.Test.YtlaiacjlphjmlaaDcA
import Derived.Deep.RegionHeld3
import Derived.Test.YtlaiacjlphjmlaaDfZ
namespace Go.Proofs.Ytlaiacjlphjmlaa
section
open Go.RowKit
set_option linter.unusedVariables false

set_option maxRecDepth 100000 in
set_option maxHeartbeats 4000000 in
theorem dfields_any (P : Nat → Prop) (p : Pl) (aa : Option Addr) (ca : Nat) (ao : Option Addr) (co : Nat) (w : World) (hp : PlV w P p aa ca ao co) :
    Calls Try.prog 36 #[plA p aa ca ao co] w fun e w' => e = .returned (.int .i64 (fieldsM p : Nat)) ∧ Below w.heap.size w w' := by
  obtain ⟨hk1, hk2⟩ := hp.kind
  obtain ⟨hr1, hr2⟩ := hp.n
  obtain ⟨hca, hla⟩ := hp.arg.cap
  obtain ⟨hco, hlo⟩ := hp.out.cap
  have H64 : Hid (∀ w, Calls Try.prog 47 #[.int .i64 p.kind] w fun e w' => e = .returned (.bool (namedK p.kind)) ∧ w' = w) := dnamed_any p.kind
  have H65 : Hid (∀ w, Calls Try.prog 48 #[.int .i64 p.kind] w fun e w' => e = .returned (.bool (nbK p.kind)) ∧ w' = w) := dnumbered_any p.kind
  have H66 : Hid (∀ w, Calls Try.prog 49 #[.int .i64 p.kind] w fun e w' => e = .returned (.bool (asK p.kind)) ∧ w' = w) := dasks_any p.kind
  have H67 : Hid (∀ w, Calls Try.prog 50 #[.int .i64 p.kind] w fun e w' => e = .returned (.tuple #[.int .i64 (leastK p.kind), .int .i64 (mostK p.kind)]) ∧ w' = w) := dways_any p.kind
  have H31 : Hid (∀ w, Calls Try.prog 35 #[.string (ba p.name)] w fun e w' => e = .returned (.bool (nameOk p.name)) ∧ w' = w) := fun w => by rw [← nm_ok]; exact rname_any (ba p.name) w hp.name
  have hle : leastK p.kind ≤ 2 := by unfold leastK; repeat' split
                                     all_goals omega
  have hmo : mostK p.kind ≤ 16 := by unfold mostK; repeat' split
                                     all_goals omega
  have htr : triesK p.kind ≤ 9 := by unfold triesK; split <;> omega
  have hnb1 : nbK p.kind = true → triesK p.kind = 9 := fun h => if_pos (of_decide_eq_true h)
  have hnb2 : nbK p.kind = false → triesK p.kind = 0 := fun h => if_neg (of_decide_eq_false h)
  have hnb3 : triesK p.kind < p.n → ¬ 9 < p.n → 0 < p.n ∧ nbK p.kind = false := fun h1 h2 => by
    cases hb : nbK p.kind with
    | true => have := hnb1 hb; omega
    | false => have := hnb2 hb; exact ⟨by omega, rfl⟩
  have har1 : asK p.kind = true → argsK p.kind = 1 := fun h => if_pos (of_decide_eq_true h)
  have har2 : asK p.kind = false → argsK p.kind = 0 := fun h => if_neg (of_decide_eq_false h)
  have HF0 : Hid (p.arg.length = 0 → firstBad (typedM false) p.arg = 0) := fun h => firstBad_none _ _ fun j hj => absurd hj (by omega)
  have HF1 : Hid (p.arg.length = 1 → ∃ b o ka kc yk yn ys yl, aa = some ⟨b, o, none⟩ ∧ b < w.heap.size ∧ w.cell? ⟨b, o, none⟩ = some (.int .i64 yk) ∧ w.cell? ⟨b, o + 1, none⟩ = some (.int .i64 yn) ∧ w.cell? ⟨b, o + 2, none⟩ = some (.string ys) ∧ w.cell? ⟨b, o + 3, none⟩ = some (.slice ka yl kc) ∧ ∀ o, Calls Try.prog 51 #[.agg #[.int .i64 yk, .int .i64 yn, .string ys, .slice ka yl kc], .bool false] (w.alloc o) fun e w' => e = .returned (.int .i64 (firstBad (typedM false) p.arg : Nat)) ∧ Below w.heap.size w w') := fun h => by
    obtain ⟨a', c', e, _, _, hk⟩ := hp.arg.form
    simp only [Value.slice.injEq] at e
    obtain ⟨b, o, ka, kc, q⟩ := hk 0 (by omega)
    have q0 := q.c0
    have q1 := q.c1
    have q2 := q.c2
    have q3 := q.c3
    simp only [Nat.zero_mul, Nat.add_zero] at q0 q1 q2 q3
    refine ⟨b, o, ka, kc, _, _, _, _, e.1.trans q.ad, World.block_lt_of_cell? w _ q0, q0, q1, q2, q3, fun x => ?_⟩
    rw [firstBad_one h]
    exact (dtyped_any P false _ _ _ _ _ _ _ (q.tre.alloc x)).mono fun e w' hh => ⟨hh.1, below_new hh.2⟩
  have HE : Hid (fieldsM p = if p.kind < 1 ∨ 9 < p.kind then 1 else if nameFitsM p.kind p.name = false then 1 else if p.n < 0 ∨ triesK p.kind < p.n then 2
      else if p.arg.length ≠ argsK p.kind then 1 else if p.out.length < leastK p.kind ∨ mostK p.kind < p.out.length then 8 else firstBad (typedM false) p.arg) := rfl
  rw [HE.out]
  have HNM : Hid (nameFitsM p.kind p.name = if namedK p.kind = true then nameOk p.name && (decide (p.kind ≠ 9) || (decide (p.name ≠ yesB) && decide (p.name ≠ noB))) else decide (p.name = [])) := rfl
  clear HE hp
  show Calls Try.prog 36 #[.agg #[.int .i64 p.kind, .string (ba p.name), .int .i64 p.n, .slice aa p.arg.length ca, .slice ao p.out.length co]] w _
  by_cases h1 : p.kind < 1
  · rw [if_pos (.inl h1)]
    clear HNM HF1 HF0 hnb1 hnb2 hnb3 har1 har2
    generalize p.kind = pk at *
    generalize ba p.name = ps at *
    go_enter Try.func36, Try.ntmps36
    go_wp2_with (first
      | (go_at_call 51; refine (H68.out _).mono ?_; rintro e w3 ⟨rfl, HB⟩; have HB3 : Hid (Below w.heap.size w w3) := HB; clear HB)
      | (go_at_call 50; refine (H67.out _).mono ?_; rintro e w3 ⟨rfl, h3⟩; have h4q := h3.symm; clear h3; subst h4q)
      | (go_at_call 49; refine (H66.out _).mono ?_; rintro e w3 ⟨rfl, h3⟩; have h4q := h3.symm; clear h3; subst h4q)
      | (go_at_call 48; refine (H65.out _).mono ?_; rintro e w3 ⟨rfl, h3⟩; have h4q := h3.symm; clear h3; subst h4q)
      | (go_at_call 35; refine (H31.out _).mono ?_; rintro e w3 ⟨rfl, h3⟩; have h4q := h3.symm; clear h3; subst h4q)
      | (go_at_call 47; refine (H64.out _).mono ?_; rintro e w3 ⟨rfl, h3⟩; have h4q := h3.symm; clear h3; subst h4q))
    go_ret
    exact ⟨rfl, (Below.refl _ _).alloc (Nat.le_refl _) _⟩
  by_cases h2 : 9 < p.kind
  · rw [if_pos (.inr h2)]
    clear HNM HF1 HF0 hnb1 hnb2 hnb3 har1 har2
    generalize p.kind = pk at *
    generalize ba p.name = ps at *
    go_enter Try.func36, Try.ntmps36
    go_wp2_with (first
      | (go_at_call 51; refine (H68.out _).mono ?_; rintro e w3 ⟨rfl, HB⟩; have HB3 : Hid (Below w.heap.size w w3) := HB; clear HB)
      | (go_at_call 50; refine (H67.out _).mono ?_; rintro e w3 ⟨rfl, h3⟩; have h4q := h3.symm; clear h3; subst h4q)
      | (go_at_call 49; refine (H66.out _).mono ?_; rintro e w3 ⟨rfl, h3⟩; have h4q := h3.symm; clear h3; subst h4q)
      | (go_at_call 48; refine (H65.out _).mono ?_; rintro e w3 ⟨rfl, h3⟩; have h4q := h3.symm; clear h3; subst h4q)
      | (go_at_call 35; refine (H31.out _).mono ?_; rintro e w3 ⟨rfl, h3⟩; have h4q := h3.symm; clear h3; subst h4q)
      | (go_at_call 47; refine (H64.out _).mono ?_; rintro e w3 ⟨rfl, h3⟩; have h4q := h3.symm; clear h3; subst h4q))
    go_ret
    exact ⟨rfl, (Below.refl _ _).alloc (Nat.le_refl _) _⟩
  rw [if_neg (by omega)]
  cases hnmd : namedK p.kind with
  | true =>
    rw [hnmd] at H64
    have hnm := HNM.out
    rw [if_pos hnmd] at hnm
    cases hok : nameOk p.name with
    | false =>
      rw [hok] at H31 hnm
      rw [if_pos (by rw [hnm]; rfl)]
      clear HNM HF1 HF0 hnb1 hnb2 hnb3 har1 har2 hnm hnmd hok
      generalize p.kind = pk at *
      generalize ba p.name = ps at *
      go_enter Try.func36, Try.ntmps36
      go_wp2_with (first
        | (go_at_call 51; refine (H68.out _).mono ?_; rintro e w3 ⟨rfl, HB⟩; have HB3 : Hid (Below w.heap.size w w3) := HB; clear HB)
        | (go_at_call 50; refine (H67.out _).mono ?_; rintro e w3 ⟨rfl, h3⟩; have h4q := h3.symm; clear h3; subst h4q)
        | (go_at_call 49; refine (H66.out _).mono ?_; rintro e w3 ⟨rfl, h3⟩; have h4q := h3.symm; clear h3; subst h4q)
        | (go_at_call 48; refine (H65.out _).mono ?_; rintro e w3 ⟨rfl, h3⟩; have h4q := h3.symm; clear h3; subst h4q)
        | (go_at_call 35; refine (H31.out _).mono ?_; rintro e w3 ⟨rfl, h3⟩; have h4q := h3.symm; clear h3; subst h4q)
        | (go_at_call 47; refine (H64.out _).mono ?_; rintro e w3 ⟨rfl, h3⟩; have h4q := h3.symm; clear h3; subst h4q))
      go_ret
      exact ⟨rfl, (Below.refl _ _).alloc (Nat.le_refl _) _⟩
    | true =>
      rw [hok] at H31 hnm
      by_cases h9 : p.kind = 9
      · have g9 : (p.kind == 9) = true := by simpa using h9
        by_cases hy : p.name = yesB
        · have gy : ((ba p.name).toList == [121, 101, 115]) = true := ba_eq hy
          rw [if_pos (by rw [hnm]; simp [h9, hy])]
          clear HNM HF1 HF0 hnb1 hnb2 hnb3 har1 har2 hnm hnmd hok hy h9
          generalize p.kind = pk at *
          generalize ba p.name = ps at *
          go_enter Try.func36, Try.ntmps36
          go_wp2_with (first
            | (go_at_call 51; refine (H68.out _).mono ?_; rintro e w3 ⟨rfl, HB⟩; have HB3 : Hid (Below w.heap.size w w3) := HB; clear HB)
            | (go_at_call 50; refine (H67.out _).mono ?_; rintro e w3 ⟨rfl, h3⟩; have h4q := h3.symm; clear h3; subst h4q)
            | (go_at_call 49; refine (H66.out _).mono ?_; rintro e w3 ⟨rfl, h3⟩; have h4q := h3.symm; clear h3; subst h4q)
            | (go_at_call 48; refine (H65.out _).mono ?_; rintro e w3 ⟨rfl, h3⟩; have h4q := h3.symm; clear h3; subst h4q)
            | (go_at_call 35; refine (H31.out _).mono ?_; rintro e w3 ⟨rfl, h3⟩; have h4q := h3.symm; clear h3; subst h4q)
            | (go_at_call 47; refine (H64.out _).mono ?_; rintro e w3 ⟨rfl, h3⟩; have h4q := h3.symm; clear h3; subst h4q))
          go_ret
          exact ⟨rfl, (Below.refl _ _).alloc (Nat.le_refl _) _⟩
        have gy : ((ba p.name).toList == [121, 101, 115]) = false := ba_ne hy
        by_cases hn : p.name = noB
        · have gn : ((ba p.name).toList == [110, 111]) = true := ba_eq hn
          rw [if_pos (by rw [hnm]; simp [h9, hn])]
          clear HNM HF1 HF0 hnb1 hnb2 hnb3 har1 har2 hnm hnmd hok hn hy h9
          generalize p.kind = pk at *
          generalize ba p.name = ps at *
          go_enter Try.func36, Try.ntmps36
          go_wp2_with (first
            | (go_at_call 51; refine (H68.out _).mono ?_; rintro e w3 ⟨rfl, HB⟩; have HB3 : Hid (Below w.heap.size w w3) := HB; clear HB)
            | (go_at_call 50; refine (H67.out _).mono ?_; rintro e w3 ⟨rfl, h3⟩; have h4q := h3.symm; clear h3; subst h4q)
            | (go_at_call 49; refine (H66.out _).mono ?_; rintro e w3 ⟨rfl, h3⟩; have h4q := h3.symm; clear h3; subst h4q)
            | (go_at_call 48; refine (H65.out _).mono ?_; rintro e w3 ⟨rfl, h3⟩; have h4q := h3.symm; clear h3; subst h4q)
            | (go_at_call 35; refine (H31.out _).mono ?_; rintro e w3 ⟨rfl, h3⟩; have h4q := h3.symm; clear h3; subst h4q)
            | (go_at_call 47; refine (H64.out _).mono ?_; rintro e w3 ⟨rfl, h3⟩; have h4q := h3.symm; clear h3; subst h4q))
          go_ret
          exact ⟨rfl, (Below.refl _ _).alloc (Nat.le_refl _) _⟩
        have gn : ((ba p.name).toList == [110, 111]) = false := ba_ne hn
        rw [if_neg (by rw [hnm]; simp [h9, hy, hn])]
        exact dfields_n9 _ _ _ aa _ ca ao _ co _ _ _ _ _ _ _ w (by omega) (by omega) hr1 hr2 hca hla hco hlo hle hmo htr hnb1 hnb2 hnb3 har1 har2 H64 H31 H65 H66 H67 HF0 HF1 g9 gy gn
      · have g9 : (p.kind == 9) = false := by simpa using h9
        rw [if_neg (by rw [hnm]; simp [h9])]
        exact dfields_n _ _ _ aa _ ca ao _ co _ _ _ _ _ _ _ w (by omega) (by omega) hr1 hr2 hca hla hco hlo hle hmo htr hnb1 hnb2 hnb3 har1 har2 H64 H31 H65 H66 H67 HF0 HF1 g9
  | false =>
    rw [hnmd] at H64
    have hnm := HNM.out
    rw [if_neg (by rw [hnmd]; decide)] at hnm
    by_cases he : p.name = []
    · have ge : ((ba p.name).toList == []) = true := ba_eq he
      rw [if_neg (by rw [hnm]; simp [he])]
      exact dfields_u _ _ _ aa _ ca ao _ co _ _ _ _ _ _ _ w (by omega) (by omega) hr1 hr2 hca hla hco hlo hle hmo htr hnb1 hnb2 hnb3 har1 har2 H64 H65 H66 H67 HF0 HF1 ge
    · have ge : ((ba p.name).toList == []) = false := ba_ne he
      rw [if_pos (by rw [hnm]; simp [he])]
      clear HNM HF1 HF0 hnb1 hnb2 hnb3 har1 har2 hnm hnmd he
      generalize p.kind = pk at *
      generalize ba p.name = ps at *
      go_enter Try.func36, Try.ntmps36
      go_wp2_with (first
        | (go_at_call 51; refine (H68.out _).mono ?_; rintro e w3 ⟨rfl, HB⟩; have HB3 : Hid (Below w.heap.size w w3) := HB; clear HB)
        | (go_at_call 50; refine (H67.out _).mono ?_; rintro e w3 ⟨rfl, h3⟩; have h4q := h3.symm; clear h3; subst h4q)
        | (go_at_call 49; refine (H66.out _).mono ?_; rintro e w3 ⟨rfl, h3⟩; have h4q := h3.symm; clear h3; subst h4q)
        | (go_at_call 48; refine (H65.out _).mono ?_; rintro e w3 ⟨rfl, h3⟩; have h4q := h3.symm; clear h3; subst h4q)
        | (go_at_call 35; refine (H31.out _).mono ?_; rintro e w3 ⟨rfl, h3⟩; have h4q := h3.symm; clear h3; subst h4q)
        | (go_at_call 47; refine (H64.out _).mono ?_; rintro e w3 ⟨rfl, h3⟩; have h4q := h3.symm; clear h3; subst h4q))
      go_ret
      exact ⟨rfl, (Below.refl _ _).alloc (Nat.le_refl _) _⟩
end
section
open Go.RowKit
set_option linter.unusedVariables false

set_option maxRecDepth 100000 in
set_option maxHeartbeats 4000000 in
theorem dflows_any (P : Nat → Prop) (p : Pl) (aa : Option Addr) (ca : Nat) (ao : Option Addr) (co : Nat) (n : Nat) (w : World) (hp : PlV w P p aa ca ao co) (hn : n ≤ 9223372036854775807) :
    Calls Try.prog 37 #[plA p aa ca ao co, .int .i64 n] w fun e w' => e = .returned (.int .i64 (flowsM p n : Nat)) ∧ Below w.heap.size w w' := by
  obtain ⟨hca, hla⟩ := hp.arg.cap
  obtain ⟨hco, hlo⟩ := hp.out.cap
  obtain ⟨hkr1, hkr2⟩ := hp.kind
  have HO : Hid (∀ i wr, i < p.out.length → Below w.heap.size w wr → ∃ b o ka kc, ao = some ⟨b, o, none⟩ ∧ FlAt wr P b (o + i * 2) (p.out.getD i zeroF) ka kc) := fun i wr hi hb => by
    obtain ⟨b, o, ka, kc, h1, h2, h3⟩ := hp.out.at i hi
    exact ⟨b, o, ka, kc, h1, h3.kept h2 (kept_below hb)⟩
  show Calls Try.prog 37 #[.agg #[.int .i64 p.kind, .string (ba p.name), .int .i64 p.n, .slice aa p.arg.length ca, .slice ao p.out.length co], .int .i64 n] w fun e w' => e = .returned (.int .i64 (firstIx (fun i => flowM p.kind (decide (i + 1 = p.out.length)) n (p.out.getD i zeroF)) 0 p.out.length : Nat)) ∧ Below w.heap.size w w'
  clear hp
  generalize hfm : (fun i => flowM p.kind (decide (i + 1 = p.out.length)) n (p.out.getD i zeroF)) = fm at *
  have HM : Hid (∀ i, fm i = if (p.out.getD i zeroF).to < 1 ∨ (n : Int) ≤ (p.out.getD i zeroF).to then 8 else if countM (p.out.getD i zeroF).ifs.length (decide (p.kind = 3)) (decide (i + 1 = p.out.length)) = false then 8 else firstBad (typedM true) (p.out.getD i zeroF).ifs) := fun i => by rw [← hfm]; rfl
  clear hfm
  generalize p.kind = pk at *
  generalize ba p.name = ps at *
  generalize p.n = pn at *
  generalize p.arg.length = la at *
  generalize p.out = pou at *
  go_enter Try.func37, Try.ntmps37
  go_wp2
  go_loopw [5] (fun v wr => ∃ (i : Nat), i ≤ pou.length ∧ v = .int .i64 i ∧ Hid (Below w.heap.size w wr ∧ Cell5 wr w.heap.size (.int .i64 pk) (.string ps) (.int .i64 pn) (.slice aa la ca) (.slice ao pou.length co) ∧ ∀ j, j < i → fm j = 0)) (fun v _ => pou.length - (intOf v).toNat)
  case atStart => exact ⟨0, Nat.zero_le _, rfl, (Below.refl _ _).alloc (Nat.le_refl _) _, Cell5.new w _ _ _ _ _ 37, fun j hj => absurd hj (by omega)⟩
  case round =>
    obtain ⟨i, hi, rfl, HR⟩ := hrel
    by_cases hlt : i < pou.length
    case neg =>
      have he : i = pou.length := by omega
      subst he
      have HE : Hid (firstIx fm 0 pou.length = 0) := firstIx_none HR.out.2.2
      have HB3 : Hid (Below w.heap.size w wr) := HR.out.1
      obtain ⟨q0, q1, q2, q3, q4, q5⟩ := HR.out.2.1
      clear HR
      go_wp2
      go_ret
      exact ⟨by rw [HE.out]; rfl, HB3.out⟩
    obtain ⟨b, o, ka, kc, rfl, hF⟩ := HO.out i wr hlt HR.out.1
    obtain ⟨f0, f1, f2, hto⟩ := hF
    obtain ⟨hto1, hto2⟩ := hto
    obtain ⟨hkc, hkl⟩ := f2.cap
    have hbl : b < wr.heap.size := World.block_lt_of_cell? wr _ f0
    have hwl : w.heap.size < wr.heap.size := HR.out.2.1.lt
    obtain ⟨q0, q1, q2, q3, q4, q5⟩ := HR.out.2.1
    have HQ : Hid (fm i = 0 → ∀ j, j < i + 1 → fm j = 0) := fun h1 j hj => by
      rcases Nat.lt_succ_iff_lt_or_eq.1 hj with h | h
      · exact HR.out.2.2 j h
      · rw [h, h1]
    have HQ2 : Hid (fm i ≠ 0 → firstIx fm 0 pou.length = fm i) := fun h => firstIx_at hlt HR.out.2.2 h
    have HMi := HM.out i
    have HF0 : Hid ((pou.getD i zeroF).ifs.length = 0 → firstBad (typedM true) (pou.getD i zeroF).ifs = 0) := fun h => firstBad_none _ _ fun j hj => absurd hj (by omega)
    have HF1 : Hid ((pou.getD i zeroF).ifs.length = 1 → ∃ b o xa xc yk yn ys yl, ka = some ⟨b, o, none⟩ ∧ b < wr.heap.size ∧ wr.cell? ⟨b, o, none⟩ = some (.int .i64 yk) ∧ wr.cell? ⟨b, o + 1, none⟩ = some (.int .i64 yn) ∧ wr.cell? ⟨b, o + 2, none⟩ = some (.string ys) ∧ wr.cell? ⟨b, o + 3, none⟩ = some (.slice xa yl xc) ∧ ∀ x, Calls Try.prog 51 #[.agg #[.int .i64 yk, .int .i64 yn, .string ys, .slice xa yl xc], .bool true] (wr.alloc x) fun e w' => e = .returned (.int .i64 (firstBad (typedM true) (pou.getD i zeroF).ifs : Nat)) ∧ Below wr.heap.size wr w') := fun h => by
      obtain ⟨a', c', e, _, _, hk⟩ := f2.form
      simp only [Value.slice.injEq] at e
      obtain ⟨b, o, ka, kc, q⟩ := hk 0 (by omega)
      have q0 := q.c0
      have q1 := q.c1
      have q2 := q.c2
      have q3 := q.c3
      simp only [Nat.zero_mul, Nat.add_zero] at q0 q1 q2 q3
      refine ⟨b, o, ka, kc, _, _, _, _, e.1.trans q.ad, World.block_lt_of_cell? wr _ q0, q0, q1, q2, q3, fun x => ?_⟩
      rw [firstBad_one h]
      exact (dtyped_any P true _ _ _ _ _ _ _ (q.tre.alloc x)).mono fun e w' hh => ⟨hh.1, below_new hh.2⟩
    clear HM HO f2
    generalize fm i = ck at *
    generalize firstBad (typedM true) (pou.getD i zeroF).ifs = fb at *
    generalize (pou.getD i zeroF).ifs.length = fl at *
    generalize (pou.getD i zeroF).to = ft at *
    by_cases h1 : ft < 1
    · have h8 : ck = 8 := by rw [HMi, if_pos (.inl h1)]
      clear HMi
      go_wp2
      go_ret
      exact ⟨by rw [HQ2.out (by rw [h8]; decide), h8]; rfl, HR.out.1.alloc HR.out.1.size _⟩
    by_cases h2 : (n : Int) ≤ ft
    · have h8 : ck = 8 := by rw [HMi, if_pos (.inr h2)]
      clear HMi
      go_wp2
      go_ret
      exact ⟨by rw [HQ2.out (by rw [h8]; decide), h8]; rfl, HR.out.1.alloc HR.out.1.size _⟩
    rw [if_neg (by rintro (h | h); exact h1 h; exact h2 h)] at HMi
    by_cases h3 : pk = 3
    case neg =>
      have g3 : (pk == 3) = false := by simpa using h3
      have g3b : (pk != 3) = true := by simpa using h3
      rw [decide_eq_false h3] at HMi
      by_cases h4 : fl = 0
      · have h8 : ck = 0 := by rw [HMi, h4, if_neg (by unfold countM; rw [if_pos rfl]; decide)]; exact HF0.out h4
        clear HMi
        go_wp2
        go_roundw
        case rel => exact ⟨i + 1, by omega, by go_num, HR.out.1.alloc HR.out.1.size _, HR.out.2.1.below ((Below.refl _ _).alloc (Nat.le_refl _) _), HQ.out h8⟩
        case measure => simp [intOf]; omega
      · have h8 : ck = 8 := by rw [HMi, if_pos (by unfold countM; rw [if_pos rfl]; exact decide_eq_false h4)]
        have h4b : 0 < fl := by omega
        clear HMi
        go_wp2
        go_ret
        exact ⟨by rw [HQ2.out (by rw [h8]; decide), h8]; rfl, HR.out.1.alloc HR.out.1.size _⟩
    subst h3
    rw [decide_eq_true rfl] at HMi
    by_cases h4 : 1 < fl
    · have h8 : ck = 8 := by
        rw [HMi, if_pos]
        unfold countM
        rw [if_neg (by decide)]
        split <;> exact decide_eq_false (by omega)
      clear HMi
      go_wp2
      go_ret
      exact ⟨by rw [HQ2.out (by rw [h8]; decide), h8]; rfl, HR.out.1.alloc HR.out.1.size _⟩
    by_cases h5 : fl = 0
    · subst h5
      by_cases h6 : i + 1 = pou.length
      · have h8 : ck = 0 := by rw [HMi, decide_eq_true h6, if_neg (by decide)]; exact HF0.out rfl
        clear HMi
        go_wp2
        go_roundw
        case rel => exact ⟨i + 1, by omega, by go_num, HR.out.1.alloc HR.out.1.size _, HR.out.2.1.below ((Below.refl _ _).alloc (Nat.le_refl _) _), HQ.out h8⟩
        case measure => simp [intOf]; omega
      · have h8 : ck = 8 := by rw [HMi, decide_eq_false h6, if_pos (by decide)]
        have h6b : i + 1 < pou.length := by omega
        clear HMi
        go_wp2
        go_ret
        exact ⟨by rw [HQ2.out (by rw [h8]; decide), h8]; rfl, HR.out.1.alloc HR.out.1.size _⟩
    have h7 : fl = 1 := by omega
    subst h7
    have hck : ck = fb := by
      rw [HMi, if_neg]
      unfold countM
      rw [if_neg (by decide)]
      split <;> decide
    subst hck
    obtain ⟨b2, o2, xa, xc, yk, yn, ys, yl, rfl, hbl2, k0, k1, k2, k3, h68⟩ := HF1.out (by trivial)
    have H68 : Hid (∀ x, Calls Try.prog 51 #[.agg #[.int .i64 yk, .int .i64 yn, .string ys, .slice xa yl xc], .bool true] (wr.alloc x) fun e w' => e = .returned (.int .i64 (ck : Nat)) ∧ Below wr.heap.size wr w') := h68
    clear h68 HF1 HF0 HMi
    by_cases hc0 : ck = 0
    · subst hc0
      go_wp2_with (go_at_call 51; refine (H68.out _).mono ?_; rintro e w3 ⟨rfl, HB⟩; have HB3 : Hid (Below w.heap.size w w3 ∧ Cell5 w3 w.heap.size (.int .i64 3) (.string ps) (.int .i64 pn) (.slice aa la ca) (.slice (some ⟨b, o, none⟩) pou.length co)) := ⟨HR.out.1.trans (HB.mono HR.out.1.size), HR.out.2.1.below HB⟩; clear HB)
      go_roundw
      case rel => exact ⟨i + 1, by omega, by go_num, HB3.out.1, HB3.out.2, HQ.out (by trivial)⟩
      case measure => simp [intOf]; omega
    · have hc1 : ¬ (ck : Int) = 0 := by omega
      go_wp2_with (go_at_call 51; refine (H68.out _).mono ?_; rintro e w3 ⟨rfl, HB⟩; have HB3 : Hid (Below w.heap.size w w3) := HR.out.1.trans (HB.mono HR.out.1.size); clear HB)
      go_ret
      exact ⟨by rw [HQ2.out hc0]; rfl, HB3.out⟩
end
section
open Go.RowKit
set_option linter.unusedVariables false

set_option maxRecDepth 100000 in
set_option maxHeartbeats 4000000 in
theorem RDCheck_any (P : Nat → Prop) (d : Df) (a : Option Addr) (c : Nat) (w : World) (hd : DfV w P d a c) :
    Calls Try.prog 21 #[dfA d a c] w fun e w' => e = .returned (.int .i64 (checkD d : Nat)) ∧ Below w.heap.size w w' := by
  obtain ⟨hc, hl⟩ := hd.places.cap
  have HN : Hid (∀ w, Calls Try.prog 35 #[.string (ba d.id)] w fun e w' => e = .returned (.bool (nameOk d.id)) ∧ w' = w) := fun w => by rw [← nm_ok]; exact rname_any (ba d.id) w hd.id
  have HP : Hid (∀ i w2, i < d.places.length → Below w.heap.size w w2 → ∃ b o aa ca ao co, a = some ⟨b, o, none⟩ ∧ PlAt w2 P b (o + i * 5) (d.places.getD i zeroP) aa ca ao co) := fun i w2 hi hb => by
    obtain ⟨b, o, aa, ca, ao, co, h1, h2, h3⟩ := hd.places.at i hi
    exact ⟨b, o, aa, ca, ao, co, h1, h3.kept h2 (kept_below hb)⟩
  have HE : Hid (checkD d = if nameOk d.id = false then 1 else if 4096 < d.places.length then 6 else if d.places.length = 0 then 8 else firstIx (fun i => placeM (d.places.getD i zeroP) i d.places.length) 0 d.places.length) := rfl
  rw [HE.out]
  show Calls Try.prog 21 #[.agg #[.string (ba d.id), .slice a d.places.length c]] w _
  clear HE hd
  generalize hfm : (fun i => placeM (d.places.getD i zeroP) i d.places.length) = fm at *
  have HM : Hid (∀ i, fm i = if fieldsM (d.places.getD i zeroP) ≠ 0 then fieldsM (d.places.getD i zeroP) else if decide ((d.places.getD i zeroP).kind = 1) ≠ decide (i = 0) then 8 else flowsM (d.places.getD i zeroP) d.places.length) := fun i => by rw [← hfm]; rfl
  clear hfm
  generalize nameOk d.id = nk at *
  generalize ba d.id = ds at *
  generalize d.places = pl at *
  cases nk with
  | false =>
    rw [if_pos rfl]
    go_enter Try.func21, Try.ntmps21
    go_wp2_with (go_at_call 35; refine (HN.out _).mono ?_; rintro e w3 ⟨rfl, h3⟩; have h4 := h3.symm; clear h3; subst h4)
    go_ret
    exact ⟨rfl, (Below.refl _ _).alloc (Nat.le_refl _) _⟩
  | true =>
    rw [if_neg (by decide)]
    by_cases h1 : 4096 < pl.length
    · rw [if_pos h1]
      go_enter Try.func21, Try.ntmps21
      go_wp2_with (go_at_call 35; refine (HN.out _).mono ?_; rintro e w3 ⟨rfl, h3⟩; have h4 := h3.symm; clear h3; subst h4)
      go_ret
      exact ⟨rfl, (Below.refl _ _).alloc (Nat.le_refl _) _⟩
    rw [if_neg h1]
    by_cases h2 : pl.length = 0
    · rw [if_pos h2]
      have h2' : ((pl.length : Int) == 0) = true := by rw [beq_iff_eq]; omega
      go_enter Try.func21, Try.ntmps21
      go_wp2_with (go_at_call 35; refine (HN.out _).mono ?_; rintro e w3 ⟨rfl, h3⟩; have h4 := h3.symm; clear h3; subst h4)
      go_ret
      exact ⟨rfl, (Below.refl _ _).alloc (Nat.le_refl _) _⟩
    rw [if_neg h2]
    have h2' : ((pl.length : Int) == 0) = false := by rw [beq_eq_false_iff_ne]; omega
    have hmax : pl.length ≤ 4096 := by omega
    have HMx : Hid (pl.length ≤ 9223372036854775807) := hl
    go_enter Try.func21, Try.ntmps21
    go_wp2_with (go_at_call 35; refine (HN.out _).mono ?_; rintro e w3 ⟨rfl, h3⟩; have h4 := h3.symm; clear h3; subst h4)
    go_loopw [3] (fun v wr => ∃ (i : Nat), i ≤ pl.length ∧ v = .int .i64 i ∧ Hid (Below w.heap.size w wr ∧ Cell2 wr w.heap.size (.string ds) (.slice a pl.length c) ∧ ∀ j, j < i → fm j = 0)) (fun v _ => pl.length - (intOf v).toNat)
    case atStart => exact ⟨0, Nat.zero_le _, rfl, (Below.refl _ _).alloc (Nat.le_refl _) _, Cell2.new w _ _ 24, fun j hj => absurd hj (by omega)⟩
    case round =>
      obtain ⟨i, hi, rfl, HR⟩ := hrel
      by_cases hlt : i < pl.length
      case neg =>
        have he : i = pl.length := by omega
        subst he
        have HE : Hid (firstIx fm 0 pl.length = 0) := firstIx_none HR.out.2.2
        have HB3 : Hid (Below w.heap.size w wr) := HR.out.1
        obtain ⟨q0, q1, q2⟩ := HR.out.2.1
        clear HR
        go_wp2
        go_ret
        exact ⟨by rw [HE.out]; rfl, HB3.out⟩
      obtain ⟨b, o, aa, ca, ao, co, rfl, hPA⟩ := HP.out i wr hlt HR.out.1
      have HV : Hid (PlV wr P (pl.getD i zeroP) aa ca ao co) := hPA.val
      obtain ⟨p0, p1, p2, p3, p4, _⟩ := hPA
      have hbl : b < wr.heap.size := World.block_lt_of_cell? wr _ p0
      have H32 : Hid (∀ w2, Below wr.heap.size wr w2 → Calls Try.prog 36 #[.agg #[.int .i64 (pl.getD i zeroP).kind, .string (ba (pl.getD i zeroP).name), .int .i64 (pl.getD i zeroP).n, .slice aa (pl.getD i zeroP).arg.length ca, .slice ao (pl.getD i zeroP).out.length co]] w2 fun e w' => e = .returned (.int .i64 (fieldsM (pl.getD i zeroP) : Nat)) ∧ Below w2.heap.size w2 w') := fun w2 hb => dfields_any P _ aa ca ao co w2 (HV.out.kept (kept_below hb))
      have H33 : Hid (∀ w2, Below wr.heap.size wr w2 → Calls Try.prog 37 #[.agg #[.int .i64 (pl.getD i zeroP).kind, .string (ba (pl.getD i zeroP).name), .int .i64 (pl.getD i zeroP).n, .slice aa (pl.getD i zeroP).arg.length ca, .slice ao (pl.getD i zeroP).out.length co], .int .i64 pl.length] w2 fun e w' => e = .returned (.int .i64 (flowsM (pl.getD i zeroP) pl.length : Nat)) ∧ Below w2.heap.size w2 w') := fun w2 hb => dflows_any P _ aa ca ao co _ w2 (HV.out.kept (kept_below hb)) HMx.out
      have HQ : Hid (fm i = 0 → ∀ j, j < i + 1 → fm j = 0) := fun h1 j hj => by
        rcases Nat.lt_succ_iff_lt_or_eq.1 hj with h | h
        · exact HR.out.2.2 j h
        · rw [h, h1]
      have HQ2 : Hid (fm i ≠ 0 → firstIx fm 0 pl.length = fm i) := fun h => firstIx_at hlt HR.out.2.2 h
      have HMi := HM.out i
      obtain ⟨q0, q1, q2⟩ := HR.out.2.1
      have hwl : w.heap.size < wr.heap.size := HR.out.2.1.lt
      clear HM HV HP
      generalize fm i = ck at *
      generalize fieldsM (pl.getD i zeroP) = ff at *
      generalize flowsM (pl.getD i zeroP) pl.length = fl at *
      generalize (pl.getD i zeroP).kind = yk at *
      generalize ba (pl.getD i zeroP).name = ys at *
      generalize (pl.getD i zeroP).n = yn at *
      generalize (pl.getD i zeroP).arg.length = ya at *
      generalize (pl.getD i zeroP).out.length = yo at *
      have HX : Hid (∀ w', Below wr.heap.size wr w' → w'.cell? ⟨w.heap.size, 1, none⟩ = some (.slice (some ⟨b, o, none⟩) pl.length c) ∧ w'.cell? ⟨b, o + i * 5, none⟩ = some (.int .i64 yk) ∧ w'.cell? ⟨b, o + i * 5 + 1, none⟩ = some (.string ys) ∧ w'.cell? ⟨b, o + i * 5 + 2, none⟩ = some (.int .i64 yn) ∧ w'.cell? ⟨b, o + i * 5 + 3, none⟩ = some (.slice aa ya ca) ∧ w'.cell? ⟨b, o + i * 5 + 4, none⟩ = some (.slice ao yo co)) := fun w' hB => by
        have hc : ∀ g o v, wr.cell? ⟨g, o, none⟩ = some v → w'.cell? ⟨g, o, none⟩ = some v := fun g o v h => (hB.cell (p := ⟨g, o, none⟩) (World.block_lt_of_cell? _ _ h)).trans h
        exact ⟨hc _ _ _ q1, hc _ _ _ p0, hc _ _ _ p1, hc _ _ _ p2, hc _ _ _ p3, hc _ _ _ p4⟩
      by_cases hf : ff = 0
      case neg =>
        have h8 : ck = ff := by rw [HMi, if_pos hf]
        have hf1 : ¬ (ff : Int) = 0 := by omega
        clear HMi
        go_wp2_with (go_at_call 36; refine (H32.out _ (Below.refl _ _)).mono ?_; rintro e w3 ⟨rfl, HB⟩; have HB3 : Hid (Below w.heap.size w w3 ∧ Cell2 w3 w.heap.size (.string ds) (.slice (some ⟨b, o, none⟩) pl.length c) ∧ Below wr.heap.size wr w3) := ⟨HR.out.1.trans (HB.mono HR.out.1.size), HR.out.2.1.below HB, HB⟩; obtain ⟨z0, z1, z2, z3, z4, z5⟩ := HX.out _ HB; clear HB)
        go_ret
        exact ⟨by rw [HQ2.out (by rw [h8]; exact hf), h8]; rfl, HB3.out.1⟩
      subst hf
      rw [if_neg (by simp)] at HMi
      by_cases hk : yk = 1
      · subst hk
        rw [decide_eq_true rfl] at HMi
        by_cases h0 : i = 0
        · have h8 : ck = fl := by rw [HMi, decide_eq_true h0, if_neg (by decide)]
          subst h0
          simp only [Nat.zero_mul, Nat.add_zero] at p0 p1 p2 p3 p4
          have HX0 : Hid (∀ w', Below wr.heap.size wr w' → w'.cell? ⟨w.heap.size, 1, none⟩ = some (.slice (some ⟨b, o, none⟩) pl.length c) ∧ w'.cell? ⟨b, o, none⟩ = some (.int .i64 1) ∧ w'.cell? ⟨b, o + 1, none⟩ = some (.string ys) ∧ w'.cell? ⟨b, o + 2, none⟩ = some (.int .i64 yn) ∧ w'.cell? ⟨b, o + 3, none⟩ = some (.slice aa ya ca) ∧ w'.cell? ⟨b, o + 4, none⟩ = some (.slice ao yo co)) := fun w' hB => by have := HX.out w' hB; simpa using this
          clear HX
          subst h8
          by_cases hc0 : ck = 0
          · subst hc0
            clear HMi
            go_wp2_with (go_at_call 36; refine (H32.out _ (Below.refl _ _)).mono ?_; rintro e w3 ⟨rfl, HB⟩; have HB3 : Hid (Below w.heap.size w w3 ∧ Cell2 w3 w.heap.size (.string ds) (.slice (some ⟨b, o, none⟩) pl.length c) ∧ Below wr.heap.size wr w3) := ⟨HR.out.1.trans (HB.mono HR.out.1.size), HR.out.2.1.below HB, HB⟩; obtain ⟨z0, z1, z2, z3, z4, z5⟩ := HX0.out _ HB; clear HB)
            go_region_held3 (fun w' => w'.cell? ⟨w.heap.size, 1, none⟩ = some (.slice (some ⟨b, o, none⟩) pl.length c) ∧ w'.cell? ⟨b, o, none⟩ = some (.int .i64 1) ∧ w'.cell? ⟨b, o + 1, none⟩ = some (.string ys) ∧ w'.cell? ⟨b, o + 2, none⟩ = some (.int .i64 yn) ∧ w'.cell? ⟨b, o + 3, none⟩ = some (.slice aa ya ca) ∧ w'.cell? ⟨b, o + 4, none⟩ = some (.slice ao yo co)) (go_keep) (first
              | (go_at_call 37; refine (H33.out _ (Below.drew HB3.out.2.2)).mono ?_; rintro e w4 ⟨rfl, HB⟩; have HB4 : Hid (Below w.heap.size w w4 ∧ Cell2 w4 w.heap.size (.string ds) (.slice (some ⟨b, o, none⟩) pl.length c)) := ⟨(Below.drew HB3.out.1).trans (HB.mono HB3.out.1.size), (HB3.out.2.1.below (Below.drew (Below.refl _ _))).below HB⟩; obtain ⟨u0, u1, u2, u3, u4, u5⟩ := HX0.out _ ((Below.drew HB3.out.2.2).trans (HB.mono HB3.out.2.2.size)); clear HB))
            go_wp2_with fail
            go_roundw
            case rel => exact ⟨0 + 1, by omega, by go_num, HB4.out.1, HB4.out.2, HQ.out (by trivial)⟩
            case measure => simp [intOf]; omega
          · have hc1 : ¬ (ck : Int) = 0 := by omega
            clear HMi
            go_wp2_with (go_at_call 36; refine (H32.out _ (Below.refl _ _)).mono ?_; rintro e w3 ⟨rfl, HB⟩; have HB3 : Hid (Below w.heap.size w w3 ∧ Cell2 w3 w.heap.size (.string ds) (.slice (some ⟨b, o, none⟩) pl.length c) ∧ Below wr.heap.size wr w3) := ⟨HR.out.1.trans (HB.mono HR.out.1.size), HR.out.2.1.below HB, HB⟩; obtain ⟨z0, z1, z2, z3, z4, z5⟩ := HX0.out _ HB; clear HB)
            go_region_held3 (fun w' => w'.cell? ⟨w.heap.size, 1, none⟩ = some (.slice (some ⟨b, o, none⟩) pl.length c) ∧ w'.cell? ⟨b, o, none⟩ = some (.int .i64 1) ∧ w'.cell? ⟨b, o + 1, none⟩ = some (.string ys) ∧ w'.cell? ⟨b, o + 2, none⟩ = some (.int .i64 yn) ∧ w'.cell? ⟨b, o + 3, none⟩ = some (.slice aa ya ca) ∧ w'.cell? ⟨b, o + 4, none⟩ = some (.slice ao yo co)) (go_keep) (first
              | (go_at_call 37; refine (H33.out _ (Below.drew HB3.out.2.2)).mono ?_; rintro e w4 ⟨rfl, HB⟩; have HB4 : Hid (Below w.heap.size w w4 ∧ Cell2 w4 w.heap.size (.string ds) (.slice (some ⟨b, o, none⟩) pl.length c)) := ⟨(Below.drew HB3.out.1).trans (HB.mono HB3.out.1.size), (HB3.out.2.1.below (Below.drew (Below.refl _ _))).below HB⟩; obtain ⟨u0, u1, u2, u3, u4, u5⟩ := HX0.out _ ((Below.drew HB3.out.2.2).trans (HB.mono HB3.out.2.2.size)); clear HB))
            go_wp2_with fail
            go_ret
            exact ⟨by rw [HQ2.out hc0]; rfl, HB4.out.1⟩
        · have g0 : ((i : Int) == 0) = false := by rw [beq_eq_false_iff_ne]; omega
          have h0b : 0 < i := by omega
          have h8 : ck = 8 := by rw [HMi, decide_eq_false h0, if_pos (by decide)]
          clear HMi
          go_wp2_with (go_at_call 36; refine (H32.out _ (Below.refl _ _)).mono ?_; rintro e w3 ⟨rfl, HB⟩; have HB3 : Hid (Below w.heap.size w w3 ∧ Cell2 w3 w.heap.size (.string ds) (.slice (some ⟨b, o, none⟩) pl.length c) ∧ Below wr.heap.size wr w3) := ⟨HR.out.1.trans (HB.mono HR.out.1.size), HR.out.2.1.below HB, HB⟩; obtain ⟨z0, z1, z2, z3, z4, z5⟩ := HX.out _ HB; clear HB)
          go_ret
          exact ⟨by rw [HQ2.out (by rw [h8]; decide), h8]; rfl, HB3.out.1⟩
      · have gk : (yk == 1) = false := by simpa using hk
        rw [decide_eq_false hk] at HMi
        by_cases h0 : i = 0
        · have g0 : ((i : Int) == 0) = true := by rw [beq_iff_eq]; omega
          have h8 : ck = 8 := by rw [HMi, decide_eq_true h0, if_pos (by decide)]
          have hi0 : ¬ (0 : Int) < (i : Int) := by omega
          clear h0
          clear HMi
          go_wp2_with (go_at_call 36; refine (H32.out _ (Below.refl _ _)).mono ?_; rintro e w3 ⟨rfl, HB⟩; have HB3 : Hid (Below w.heap.size w w3 ∧ Cell2 w3 w.heap.size (.string ds) (.slice (some ⟨b, o, none⟩) pl.length c) ∧ Below wr.heap.size wr w3) := ⟨HR.out.1.trans (HB.mono HR.out.1.size), HR.out.2.1.below HB, HB⟩; obtain ⟨z0, z1, z2, z3, z4, z5⟩ := HX.out _ HB; clear HB)
          go_ret
          exact ⟨by rw [HQ2.out (by rw [h8]; decide), h8]; rfl, HB3.out.1⟩
        · have g0 : ((i : Int) == 0) = false := by rw [beq_eq_false_iff_ne]; omega
          have h0b : 0 < i := by omega
          have h8 : ck = fl := by rw [HMi, decide_eq_false h0, if_neg (by decide)]
          subst h8
          by_cases hc0 : ck = 0
          · subst hc0
            clear HMi
            go_wp2_with (go_at_call 36; refine (H32.out _ (Below.refl _ _)).mono ?_; rintro e w3 ⟨rfl, HB⟩; have HB3 : Hid (Below w.heap.size w w3 ∧ Cell2 w3 w.heap.size (.string ds) (.slice (some ⟨b, o, none⟩) pl.length c) ∧ Below wr.heap.size wr w3) := ⟨HR.out.1.trans (HB.mono HR.out.1.size), HR.out.2.1.below HB, HB⟩; obtain ⟨z0, z1, z2, z3, z4, z5⟩ := HX.out _ HB; clear HB)
            go_region_held3 (fun w' => w'.cell? ⟨w.heap.size, 1, none⟩ = some (.slice (some ⟨b, o, none⟩) pl.length c) ∧ w'.cell? ⟨b, o + i * 5, none⟩ = some (.int .i64 yk) ∧ w'.cell? ⟨b, o + i * 5 + 1, none⟩ = some (.string ys) ∧ w'.cell? ⟨b, o + i * 5 + 2, none⟩ = some (.int .i64 yn) ∧ w'.cell? ⟨b, o + i * 5 + 3, none⟩ = some (.slice aa ya ca) ∧ w'.cell? ⟨b, o + i * 5 + 4, none⟩ = some (.slice ao yo co)) (go_keep) (first
              | (go_at_call 37; refine (H33.out _ (Below.drew HB3.out.2.2)).mono ?_; rintro e w4 ⟨rfl, HB⟩; have HB4 : Hid (Below w.heap.size w w4 ∧ Cell2 w4 w.heap.size (.string ds) (.slice (some ⟨b, o, none⟩) pl.length c)) := ⟨(Below.drew HB3.out.1).trans (HB.mono HB3.out.1.size), (HB3.out.2.1.below (Below.drew (Below.refl _ _))).below HB⟩; obtain ⟨u0, u1, u2, u3, u4, u5⟩ := HX.out _ ((Below.drew HB3.out.2.2).trans (HB.mono HB3.out.2.2.size)); clear HB))
            go_wp2_with fail
            go_roundw
            case rel => exact ⟨i + 1, by omega, by go_num, HB4.out.1, HB4.out.2, HQ.out (by trivial)⟩
            case measure => simp [intOf]; omega
          · have hc1 : ¬ (ck : Int) = 0 := by omega
            clear HMi
            go_wp2_with (go_at_call 36; refine (H32.out _ (Below.refl _ _)).mono ?_; rintro e w3 ⟨rfl, HB⟩; have HB3 : Hid (Below w.heap.size w w3 ∧ Cell2 w3 w.heap.size (.string ds) (.slice (some ⟨b, o, none⟩) pl.length c) ∧ Below wr.heap.size wr w3) := ⟨HR.out.1.trans (HB.mono HR.out.1.size), HR.out.2.1.below HB, HB⟩; obtain ⟨z0, z1, z2, z3, z4, z5⟩ := HX.out _ HB; clear HB)
            go_region_held3 (fun w' => w'.cell? ⟨w.heap.size, 1, none⟩ = some (.slice (some ⟨b, o, none⟩) pl.length c) ∧ w'.cell? ⟨b, o + i * 5, none⟩ = some (.int .i64 yk) ∧ w'.cell? ⟨b, o + i * 5 + 1, none⟩ = some (.string ys) ∧ w'.cell? ⟨b, o + i * 5 + 2, none⟩ = some (.int .i64 yn) ∧ w'.cell? ⟨b, o + i * 5 + 3, none⟩ = some (.slice aa ya ca) ∧ w'.cell? ⟨b, o + i * 5 + 4, none⟩ = some (.slice ao yo co)) (go_keep) (first
              | (go_at_call 37; refine (H33.out _ (Below.drew HB3.out.2.2)).mono ?_; rintro e w4 ⟨rfl, HB⟩; have HB4 : Hid (Below w.heap.size w w4 ∧ Cell2 w4 w.heap.size (.string ds) (.slice (some ⟨b, o, none⟩) pl.length c)) := ⟨(Below.drew HB3.out.1).trans (HB.mono HB3.out.1.size), (HB3.out.2.1.below (Below.drew (Below.refl _ _))).below HB⟩; obtain ⟨u0, u1, u2, u3, u4, u5⟩ := HX.out _ ((Below.drew HB3.out.2.2).trans (HB.mono HB3.out.2.2.size)); clear HB))
            go_wp2_with fail
            go_ret
            exact ⟨by rw [HQ2.out hc0]; rfl, HB4.out.1⟩
end
section
open Go.RowKit
set_option linter.unusedVariables false

/-- What stands behind Put. -/
structure On2 (w w2 : World) (d : Df) (q : Nat) (ra : Option Addr) (rc : Nat) (v b' : Value) (l : BB) : Prop where
  bel : Below w.heap.size w w2
  df : DfV w2 (fun _ => True) d ra rc
  v : V.ReadsV w2 v l
  b : V.ReadsV w2 b' l
  cell : Cell2 w2 q (.string (ba d.id)) (.slice ra d.places.length rc)
theorem On2.below {w w2 w3 : World} {d : Df} {q : Nat} {ra : Option Addr} {rc : Nat} {v b' : Value} {l : BB} (h : On2 w w2 d q ra rc v b' l) (hb : Below w2.heap.size w2 w3) : On2 w w3 d q ra rc v b' l :=
  ⟨h.bel.trans (hb.mono h.bel.size), h.df.kept (kept_below hb), h.v.below hb, h.b.below hb, h.cell.below hb⟩
end
end Go.Proofs.Ytlaiacjlphjmlaa
