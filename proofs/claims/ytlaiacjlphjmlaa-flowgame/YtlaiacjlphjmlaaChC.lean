/-
  The program's checkFields, checkFlow, checkPlace, Check: contracts.
-/
import Derived.Test.YtlaiacjlphjmlaaChZ
namespace Go.Proofs.Ytlaiacjlphjmlaa
open Go.RowKit
set_option linter.unusedVariables false

theorem ExsV.cap {w : World} {P : Nat → Prop} {a : Option Addr} {n c : Nat} {l : List Tr} (h : ExsV w P (.slice a n c) l) : n ≤ c ∧ n ≤ 9223372036854775807 := by
  obtain ⟨a', c', e, h1, h2, _⟩ := h.form
  simp only [Value.slice.injEq] at e
  omega
theorem FlsV.cap {w : World} {P : Nat → Prop} {a : Option Addr} {n c : Nat} {l : List Fl} (h : FlsV w P (.slice a n c) l) : n ≤ c ∧ n ≤ 9223372036854775807 := by
  obtain ⟨a', c', e, h1, h2, _⟩ := h
  simp only [Value.slice.injEq] at e
  omega
theorem PlsV.cap {w : World} {P : Nat → Prop} {a : Option Addr} {n c : Nat} {l : List Pl} (h : PlsV w P (.slice a n c) l) : n ≤ c ∧ n ≤ 9223372036854775807 := by
  obtain ⟨a', c', e, h1, h2, _⟩ := h
  simp only [Value.slice.injEq] at e
  omega
theorem FlsV.at {w : World} {P : Nat → Prop} {a : Option Addr} {n c : Nat} {l : List Fl} (h : FlsV w P (.slice a n c) l) : ∀ i, i < l.length → ∃ b o ka kc, a = some ⟨b, o, none⟩ ∧ P b ∧ FlAt w P b (o + i * 2) (l.getD i zeroF) ka kc := by
  obtain ⟨a', c', e, h1, h2, h3⟩ := h
  simp only [Value.slice.injEq] at e
  rw [e.1]; exact h3
theorem PlsV.at {w : World} {P : Nat → Prop} {a : Option Addr} {n c : Nat} {l : List Pl} (h : PlsV w P (.slice a n c) l) : ∀ i, i < l.length → ∃ b o aa ca ao co, a = some ⟨b, o, none⟩ ∧ P b ∧ PlAt w P b (o + i * 5) (l.getD i zeroP) aa ca ao co := by
  obtain ⟨a', c', e, h1, h2, h3⟩ := h
  simp only [Value.slice.injEq] at e
  rw [e.1]; exact h3
set_option maxRecDepth 100000 in
set_option maxHeartbeats 1000000 in
theorem checkFields_any (P : Nat → Prop) (p : Pl) (aa : Option Addr) (ca : Nat) (ao : Option Addr) (co : Nat) (w : World) (hp : PlV w P p aa ca ao co) :
    Calls Try.prog 45 #[plA p aa ca ao co] w fun e w' => e = .returned (.int .i64 (fieldsM p : Nat)) ∧ Below w.heap.size w w' := by
  have hkr := hp.kind
  have hnr := hp.n
  obtain ⟨hk1, hk2⟩ := hkr
  obtain ⟨hn1, hn2⟩ := hnr
  obtain ⟨hca, hla⟩ := hp.arg.cap
  obtain ⟨hco, hlo⟩ := hp.out.cap
  have HNF : Hid (∀ w, Calls Try.prog 56 #[.agg #[.int .i64 p.kind, .string (ba p.name), .int .i64 p.n, .slice aa p.arg.length ca, .slice ao p.out.length co], .bool (namedK p.kind)] w fun e w' => e = .returned (.bool (nameFitsM p.kind p.name)) ∧ Below w.heap.size w w') := fun w => by rw [← nameFits_eq]; exact nameFits_any _ _ _ _ _ _ _ _ _ _ w hp.name
  have HCT : Hid (∀ w2, Below w.heap.size w w2 → Calls Try.prog 57 #[.slice aa p.arg.length ca, .bool false] w2 fun e w' => e = .returned (.int .i64 (firstBad (typedM false) p.arg : Nat)) ∧ Below w2.heap.size w2 w') := fun w2 hb => checkTrees_any P p.arg false _ w2 (hp.arg.kept (kept_below hb))
  have HE : Hid (fieldsM p = if p.kind < 1 ∨ 9 < p.kind then 1 else if nameFitsM p.kind p.name = false then 1 else if p.n < 0 ∨ triesK p.kind < p.n then 2
      else if p.arg.length ≠ argsK p.kind then 1 else if p.out.length < leastK p.kind ∨ mostK p.kind < p.out.length then 8 else firstBad (typedM false) p.arg) := rfl
  rw [HE.out]
  clear HE hp
  show Calls Try.prog 45 #[.agg #[.int .i64 p.kind, .string (ba p.name), .int .i64 p.n, .slice aa p.arg.length ca, .slice ao p.out.length co]] w _
  by_cases h1 : p.kind < 1 ∨ 9 < p.kind
  · rw [if_pos h1]
    have HKH : Hid (∀ w, Calls Try.prog 55 #[.int .i64 p.kind] w fun e w' => e = .returned (.tuple #[.agg #[.bool false, .int .i64 0, .int .i64 0, .int .i64 0, .int .i64 0], .bool false]) ∧ Below w.heap.size w w') := fun w => kindHas_no p.kind h1 w
    clear h1 HNF HCT
    generalize p.kind = pk at *
    generalize ba p.name = ps at *
    generalize p.n = pn at *
    generalize p.arg.length = la at *
    generalize p.out.length = lo at *
    go_enter Try.func45, Try.ntmps45
    go_wp2_with (go_at_call 55; refine (HKH.out _).mono ?_; rintro e w1 ⟨rfl, HB⟩; obtain ⟨q0, q1, q2, q3, q4, q5⟩ := (Cell5.new w (.int .i64 pk) (.string ps) (.int .i64 pn) (.slice aa la ca) (.slice ao lo co) 37).below HB; have HB1 : Hid (Below w.heap.size w w1 ∧ Cell5 w1 w.heap.size (.int .i64 pk) (.string ps) (.int .i64 pn) (.slice aa la ca) (.slice ao lo co)) := ⟨below_new HB, ⟨q0, q1, q2, q3, q4, q5⟩⟩; have hlt1 : w.heap.size < w1.heap.size := HB1.out.2.lt; clear HB)
    go_ret
    exact ⟨rfl, HB1.out.1.alloc HB1.out.1.size _⟩
  rw [if_neg h1]
  have HKH : Hid (∀ w, Calls Try.prog 55 #[.int .i64 p.kind] w fun e w' => e = .returned (.tuple #[.agg #[.bool (namedK p.kind), .int .i64 (triesK p.kind), .int .i64 (argsK p.kind), .int .i64 (leastK p.kind), .int .i64 (mostK p.kind)], .bool true]) ∧ Below w.heap.size w w') := fun w => kindHas_any p.kind (by omega) (by omega) w
  have ht : 0 ≤ triesK p.kind ∧ triesK p.kind ≤ 9 := by unfold triesK; split <;> omega
  have hm : mostK p.kind ≤ 16 := by unfold mostK; repeat' split
                                    all_goals omega
  have hl : leastK p.kind ≤ 2 := by unfold leastK; repeat' split
                                    all_goals omega
  have ha : argsK p.kind ≤ 1 := by unfold argsK; split <;> omega
  clear h1
  generalize nameFitsM p.kind p.name = nf at *
  generalize namedK p.kind = nmd at *
  generalize triesK p.kind = tr at *
  generalize argsK p.kind = ar at *
  generalize leastK p.kind = le at *
  generalize mostK p.kind = mo at *
  generalize firstBad (typedM false) p.arg = fb at *
  generalize p.kind = pk at *
  generalize ba p.name = ps at *
  generalize p.n = pn at *
  generalize p.arg.length = la at *
  generalize p.out.length = lo at *
  cases nf with
  | false =>
    rw [if_pos rfl]
    go_enter Try.func45, Try.ntmps45
    go_wp2_with (first
      | (go_at_call 57; have := HB2; refine (HCT.out _ HB2.out).mono ?_; rintro e w3 ⟨rfl, HB⟩; have HB3 : Hid (Below w.heap.size w w3) := HB2.out.trans (HB.mono HB2.out.size); clear HB HB2)
      | (go_at_call 56; have := HB1; refine (HNF.out _).mono ?_; rintro e w2 ⟨rfl, HB⟩; obtain ⟨q0, q1, q2, q3, q4, q5⟩ := (HB1.out.2.below ((Below.refl _ _).alloc (Nat.le_refl _) (.cells #[.bool nmd, .int .i64 tr, .int .i64 ar, .int .i64 le, .int .i64 mo] 96))).below HB; obtain ⟨r0, r1, r2, r3, r4, r5⟩ := (Cell5.new w1 (.bool nmd) (.int .i64 tr) (.int .i64 ar) (.int .i64 le) (.int .i64 mo) 96).below HB; have HB2 : Hid (Below w.heap.size w w2) := HB1.out.1.trans ((below_new HB).mono HB1.out.1.size); clear HB HB1)
      | (go_at_call 55; refine (HKH.out _).mono ?_; rintro e w1 ⟨rfl, HB⟩; obtain ⟨q0, q1, q2, q3, q4, q5⟩ := (Cell5.new w (.int .i64 pk) (.string ps) (.int .i64 pn) (.slice aa la ca) (.slice ao lo co) 37).below HB; have HB1 : Hid (Below w.heap.size w w1 ∧ Cell5 w1 w.heap.size (.int .i64 pk) (.string ps) (.int .i64 pn) (.slice aa la ca) (.slice ao lo co)) := ⟨below_new HB, ⟨q0, q1, q2, q3, q4, q5⟩⟩; have hlt1 : w.heap.size < w1.heap.size := HB1.out.2.lt; clear HB))
    go_ret
    exact ⟨rfl, HB2.out⟩
  | true =>
    rw [if_neg (by decide)]
    by_cases h2 : pn < 0
    · rw [if_pos (.inl h2)]
      go_enter Try.func45, Try.ntmps45
      go_wp2_with (first
        | (go_at_call 57; have := HB2; refine (HCT.out _ HB2.out).mono ?_; rintro e w3 ⟨rfl, HB⟩; have HB3 : Hid (Below w.heap.size w w3) := HB2.out.trans (HB.mono HB2.out.size); clear HB HB2)
        | (go_at_call 56; have := HB1; refine (HNF.out _).mono ?_; rintro e w2 ⟨rfl, HB⟩; obtain ⟨q0, q1, q2, q3, q4, q5⟩ := (HB1.out.2.below ((Below.refl _ _).alloc (Nat.le_refl _) (.cells #[.bool nmd, .int .i64 tr, .int .i64 ar, .int .i64 le, .int .i64 mo] 96))).below HB; obtain ⟨r0, r1, r2, r3, r4, r5⟩ := (Cell5.new w1 (.bool nmd) (.int .i64 tr) (.int .i64 ar) (.int .i64 le) (.int .i64 mo) 96).below HB; have HB2 : Hid (Below w.heap.size w w2) := HB1.out.1.trans ((below_new HB).mono HB1.out.1.size); clear HB HB1)
        | (go_at_call 55; refine (HKH.out _).mono ?_; rintro e w1 ⟨rfl, HB⟩; obtain ⟨q0, q1, q2, q3, q4, q5⟩ := (Cell5.new w (.int .i64 pk) (.string ps) (.int .i64 pn) (.slice aa la ca) (.slice ao lo co) 37).below HB; have HB1 : Hid (Below w.heap.size w w1 ∧ Cell5 w1 w.heap.size (.int .i64 pk) (.string ps) (.int .i64 pn) (.slice aa la ca) (.slice ao lo co)) := ⟨below_new HB, ⟨q0, q1, q2, q3, q4, q5⟩⟩; have hlt1 : w.heap.size < w1.heap.size := HB1.out.2.lt; clear HB))
      go_ret
      exact ⟨rfl, HB2.out⟩
    by_cases h3 : tr < pn
    · rw [if_pos (.inr h3)]
      go_enter Try.func45, Try.ntmps45
      go_wp2_with (first
        | (go_at_call 57; have := HB2; refine (HCT.out _ HB2.out).mono ?_; rintro e w3 ⟨rfl, HB⟩; have HB3 : Hid (Below w.heap.size w w3) := HB2.out.trans (HB.mono HB2.out.size); clear HB HB2)
        | (go_at_call 56; have := HB1; refine (HNF.out _).mono ?_; rintro e w2 ⟨rfl, HB⟩; obtain ⟨q0, q1, q2, q3, q4, q5⟩ := (HB1.out.2.below ((Below.refl _ _).alloc (Nat.le_refl _) (.cells #[.bool nmd, .int .i64 tr, .int .i64 ar, .int .i64 le, .int .i64 mo] 96))).below HB; obtain ⟨r0, r1, r2, r3, r4, r5⟩ := (Cell5.new w1 (.bool nmd) (.int .i64 tr) (.int .i64 ar) (.int .i64 le) (.int .i64 mo) 96).below HB; have HB2 : Hid (Below w.heap.size w w2) := HB1.out.1.trans ((below_new HB).mono HB1.out.1.size); clear HB HB1)
        | (go_at_call 55; refine (HKH.out _).mono ?_; rintro e w1 ⟨rfl, HB⟩; obtain ⟨q0, q1, q2, q3, q4, q5⟩ := (Cell5.new w (.int .i64 pk) (.string ps) (.int .i64 pn) (.slice aa la ca) (.slice ao lo co) 37).below HB; have HB1 : Hid (Below w.heap.size w w1 ∧ Cell5 w1 w.heap.size (.int .i64 pk) (.string ps) (.int .i64 pn) (.slice aa la ca) (.slice ao lo co)) := ⟨below_new HB, ⟨q0, q1, q2, q3, q4, q5⟩⟩; have hlt1 : w.heap.size < w1.heap.size := HB1.out.2.lt; clear HB))
      go_ret
      exact ⟨rfl, HB2.out⟩
    rw [if_neg (by rintro (h | h); exact h2 h; exact h3 h)]
    by_cases h4 : la = ar
    case neg =>
      rw [if_pos h4]
      have h4' : ¬ (la : Int) = ar := by omega
      go_enter Try.func45, Try.ntmps45
      go_wp2_with (first
        | (go_at_call 57; have := HB2; refine (HCT.out _ HB2.out).mono ?_; rintro e w3 ⟨rfl, HB⟩; have HB3 : Hid (Below w.heap.size w w3) := HB2.out.trans (HB.mono HB2.out.size); clear HB HB2)
        | (go_at_call 56; have := HB1; refine (HNF.out _).mono ?_; rintro e w2 ⟨rfl, HB⟩; obtain ⟨q0, q1, q2, q3, q4, q5⟩ := (HB1.out.2.below ((Below.refl _ _).alloc (Nat.le_refl _) (.cells #[.bool nmd, .int .i64 tr, .int .i64 ar, .int .i64 le, .int .i64 mo] 96))).below HB; obtain ⟨r0, r1, r2, r3, r4, r5⟩ := (Cell5.new w1 (.bool nmd) (.int .i64 tr) (.int .i64 ar) (.int .i64 le) (.int .i64 mo) 96).below HB; have HB2 : Hid (Below w.heap.size w w2) := HB1.out.1.trans ((below_new HB).mono HB1.out.1.size); clear HB HB1)
        | (go_at_call 55; refine (HKH.out _).mono ?_; rintro e w1 ⟨rfl, HB⟩; obtain ⟨q0, q1, q2, q3, q4, q5⟩ := (Cell5.new w (.int .i64 pk) (.string ps) (.int .i64 pn) (.slice aa la ca) (.slice ao lo co) 37).below HB; have HB1 : Hid (Below w.heap.size w w1 ∧ Cell5 w1 w.heap.size (.int .i64 pk) (.string ps) (.int .i64 pn) (.slice aa la ca) (.slice ao lo co)) := ⟨below_new HB, ⟨q0, q1, q2, q3, q4, q5⟩⟩; have hlt1 : w.heap.size < w1.heap.size := HB1.out.2.lt; clear HB))
      go_ret
      exact ⟨rfl, HB2.out⟩
    rw [if_neg (by simpa using h4)]
    subst h4
    by_cases h5 : lo < le
    · rw [if_pos (.inl h5)]
      go_enter Try.func45, Try.ntmps45
      go_wp2_with (first
        | (go_at_call 57; have := HB2; refine (HCT.out _ HB2.out).mono ?_; rintro e w3 ⟨rfl, HB⟩; have HB3 : Hid (Below w.heap.size w w3) := HB2.out.trans (HB.mono HB2.out.size); clear HB HB2)
        | (go_at_call 56; have := HB1; refine (HNF.out _).mono ?_; rintro e w2 ⟨rfl, HB⟩; obtain ⟨q0, q1, q2, q3, q4, q5⟩ := (HB1.out.2.below ((Below.refl _ _).alloc (Nat.le_refl _) (.cells #[.bool nmd, .int .i64 tr, .int .i64 la, .int .i64 le, .int .i64 mo] 96))).below HB; obtain ⟨r0, r1, r2, r3, r4, r5⟩ := (Cell5.new w1 (.bool nmd) (.int .i64 tr) (.int .i64 la) (.int .i64 le) (.int .i64 mo) 96).below HB; have HB2 : Hid (Below w.heap.size w w2) := HB1.out.1.trans ((below_new HB).mono HB1.out.1.size); clear HB HB1)
        | (go_at_call 55; refine (HKH.out _).mono ?_; rintro e w1 ⟨rfl, HB⟩; obtain ⟨q0, q1, q2, q3, q4, q5⟩ := (Cell5.new w (.int .i64 pk) (.string ps) (.int .i64 pn) (.slice aa la ca) (.slice ao lo co) 37).below HB; have HB1 : Hid (Below w.heap.size w w1 ∧ Cell5 w1 w.heap.size (.int .i64 pk) (.string ps) (.int .i64 pn) (.slice aa la ca) (.slice ao lo co)) := ⟨below_new HB, ⟨q0, q1, q2, q3, q4, q5⟩⟩; have hlt1 : w.heap.size < w1.heap.size := HB1.out.2.lt; clear HB))
      go_ret
      exact ⟨rfl, HB2.out⟩
    by_cases h6 : mo < lo
    · rw [if_pos (.inr h6)]
      go_enter Try.func45, Try.ntmps45
      go_wp2_with (first
        | (go_at_call 57; have := HB2; refine (HCT.out _ HB2.out).mono ?_; rintro e w3 ⟨rfl, HB⟩; have HB3 : Hid (Below w.heap.size w w3) := HB2.out.trans (HB.mono HB2.out.size); clear HB HB2)
        | (go_at_call 56; have := HB1; refine (HNF.out _).mono ?_; rintro e w2 ⟨rfl, HB⟩; obtain ⟨q0, q1, q2, q3, q4, q5⟩ := (HB1.out.2.below ((Below.refl _ _).alloc (Nat.le_refl _) (.cells #[.bool nmd, .int .i64 tr, .int .i64 la, .int .i64 le, .int .i64 mo] 96))).below HB; obtain ⟨r0, r1, r2, r3, r4, r5⟩ := (Cell5.new w1 (.bool nmd) (.int .i64 tr) (.int .i64 la) (.int .i64 le) (.int .i64 mo) 96).below HB; have HB2 : Hid (Below w.heap.size w w2) := HB1.out.1.trans ((below_new HB).mono HB1.out.1.size); clear HB HB1)
        | (go_at_call 55; refine (HKH.out _).mono ?_; rintro e w1 ⟨rfl, HB⟩; obtain ⟨q0, q1, q2, q3, q4, q5⟩ := (Cell5.new w (.int .i64 pk) (.string ps) (.int .i64 pn) (.slice aa la ca) (.slice ao lo co) 37).below HB; have HB1 : Hid (Below w.heap.size w w1 ∧ Cell5 w1 w.heap.size (.int .i64 pk) (.string ps) (.int .i64 pn) (.slice aa la ca) (.slice ao lo co)) := ⟨below_new HB, ⟨q0, q1, q2, q3, q4, q5⟩⟩; have hlt1 : w.heap.size < w1.heap.size := HB1.out.2.lt; clear HB))
      go_ret
      exact ⟨rfl, HB2.out⟩
    rw [if_neg (by rintro (h | h); exact h5 h; exact h6 h)]
    go_enter Try.func45, Try.ntmps45
    go_wp2_with (first
      | (go_at_call 57; have := HB2; refine (HCT.out _ HB2.out).mono ?_; rintro e w3 ⟨rfl, HB⟩; have HB3 : Hid (Below w.heap.size w w3) := HB2.out.trans (HB.mono HB2.out.size); clear HB HB2)
      | (go_at_call 56; have := HB1; refine (HNF.out _).mono ?_; rintro e w2 ⟨rfl, HB⟩; obtain ⟨q0, q1, q2, q3, q4, q5⟩ := (HB1.out.2.below ((Below.refl _ _).alloc (Nat.le_refl _) (.cells #[.bool nmd, .int .i64 tr, .int .i64 la, .int .i64 le, .int .i64 mo] 96))).below HB; obtain ⟨r0, r1, r2, r3, r4, r5⟩ := (Cell5.new w1 (.bool nmd) (.int .i64 tr) (.int .i64 la) (.int .i64 le) (.int .i64 mo) 96).below HB; have HB2 : Hid (Below w.heap.size w w2) := HB1.out.1.trans ((below_new HB).mono HB1.out.1.size); clear HB HB1)
      | (go_at_call 55; refine (HKH.out _).mono ?_; rintro e w1 ⟨rfl, HB⟩; obtain ⟨q0, q1, q2, q3, q4, q5⟩ := (Cell5.new w (.int .i64 pk) (.string ps) (.int .i64 pn) (.slice aa la ca) (.slice ao lo co) 37).below HB; have HB1 : Hid (Below w.heap.size w w1 ∧ Cell5 w1 w.heap.size (.int .i64 pk) (.string ps) (.int .i64 pn) (.slice aa la ca) (.slice ao lo co)) := ⟨below_new HB, ⟨q0, q1, q2, q3, q4, q5⟩⟩; have hlt1 : w.heap.size < w1.heap.size := HB1.out.2.lt; clear HB))
    go_ret
    exact ⟨rfl, HB3.out⟩
end Go.Proofs.Ytlaiacjlphjmlaa
