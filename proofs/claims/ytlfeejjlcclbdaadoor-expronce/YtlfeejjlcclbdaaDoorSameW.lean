/-
  ExprSame, ExprBack: the walks.
-/
import Derived.Test.YtlfeejjlcclbdaaDoorWorks
import Derived.Test.YtlfeejjlcclbdaaDoorWeigh
import Derived.Test.YtlfeejjlcclbdaaDoorRSame
namespace Go.Proofs.YtlfeejjlcclbdaaDoor
open Go.RowKit
set_option linter.unusedVariables false

set_option maxRecDepth 100000 in
set_option maxHeartbeats 1000000 in
theorem same_walk (t1 t2 : Tr) (k1 n1 : Int) (s1 : ByteArray) (a1 : Option Addr) (l1 c1 : Nat) (k2 n2 : Int) (s2 : ByteArray) (a2 : Option Addr) (l2 c2 : Nat) (w : World) (P Q : Nat → Prop)
    (HT1 : Hid (Tre w P (.agg #[.int .i64 k1, .int .i64 n1, .string s1, .slice a1 l1 c1]) t1)) (HT2 : Hid (Tre w Q (.agg #[.int .i64 k2, .int .i64 n2, .string s2, .slice a2 l2 c2]) t2)) (HD : Hid (Ready w)) :
    Calls Tryd.prog 4 #[.agg #[.int .i64 k1, .int .i64 n1, .string s1, .slice a1 l1 c1], .agg #[.int .i64 k2, .int .i64 n2, .string s2, .slice a2 l2 c2]] w fun e w' => e = .returned (.bool true) ∧ Below w.heap.size w w' := by
  obtain ⟨ans, hans⟩ : ∃ b : Bool, (b = true ↔ t1 = t2) := by
    by_cases h : t1 = t2
    · exact ⟨true, fun _ => h, fun _ => rfl⟩
    · exact ⟨false, fun e => absurd e (by decide), fun e => absurd e h⟩
  have hof : ∀ e, SameP t1 t2 e → e = .returned (.bool ans) := fun e h => by
    cases ans with
    | true => exact h.of_yes (hans.1 rfl)
    | false => exact h.of_no fun e => absurd (hans.2 e) (by decide)
  have C13 : Hid (∀ w, Tre w P (.agg #[.int .i64 k1, .int .i64 n1, .string s1, .slice a1 l1 c1]) t1 → Tre w Q (.agg #[.int .i64 k2, .int .i64 n2, .string s2, .slice a2 l2 c2]) t2 → Calls Tryd.prog 13 #[.agg #[.int .i64 k1, .int .i64 n1, .string s1, .slice a1 l1 c1], .agg #[.int .i64 k2, .int .i64 n2, .string s2, .slice a2 l2 c2]] w fun e w' => e = .returned (.bool ans) ∧ Below w.heap.size w w') := fun w h1 h2 => (same_any t1 P Q t2 _ _ w h1 h2).mono fun e w' h => ⟨hof e h.1, h.2⟩
  have C11 : Hid (∀ w, Tre w P (.agg #[.int .i64 k1, .int .i64 n1, .string s1, .slice a1 l1 c1]) t1 → Tre w Q (.agg #[.int .i64 k2, .int .i64 n2, .string s2, .slice a2 l2 c2]) t2 → Calls Tryd.prog 11 #[.agg #[.int .i64 k1, .int .i64 n1, .string s1, .slice a1 l1 c1], .agg #[.int .i64 k2, .int .i64 n2, .string s2, .slice a2 l2 c2]] w fun e w' => e = .returned (.bool ans) ∧ Below w.heap.size w w') := fun w h1 h2 => (rsame_any t1 P Q t2 _ _ w h1 h2).mono fun e w' h => ⟨hof e h.1, h.2⟩
  have C13x : Hid (∀ w, Tre w P (.agg #[.int .i64 k1, .int .i64 n1, .string s1, .slice a1 l1 c1]) t1 → Calls Tryd.prog 13 #[.agg #[.int .i64 k1, .int .i64 n1, .string s1, .slice a1 l1 c1], .agg #[.int .i64 k1, .int .i64 n1, .string s1, .slice a1 l1 c1]] w fun e w' => e = .returned (.bool true) ∧ Below w.heap.size w w') := fun w h1 => (same_any t1 P P t1 _ _ w h1 h1).mono fun e w' h => ⟨h.1.of_yes rfl, h.2⟩
  have C8 : Hid (∀ w, Ready w → Calls Tryd.prog 8 #[] w fun e w' => e = .returned (.bool true) ∧ Below w.heap.size w w') := fun w h => works_any w h
  have L1 : Hid (∀ w, Tre w P (.agg #[.int .i64 k1, .int .i64 n1, .string s1, .slice a1 l1 c1]) t1 → Calls Tryd.prog 12 #[.agg #[.int .i64 k1, .int .i64 n1, .string s1, .slice a1 l1 c1]] w (Truth w)) := fun w h => light_any P t1 _ _ _ _ _ _ w h
  have L2 : Hid (∀ w, Tre w Q (.agg #[.int .i64 k2, .int .i64 n2, .string s2, .slice a2 l2 c2]) t2 → Calls Tryd.prog 12 #[.agg #[.int .i64 k2, .int .i64 n2, .string s2, .slice a2 l2 c2]] w (Truth w)) := fun w h => light_any Q t2 _ _ _ _ _ _ w h
  clear hof hans
  have HX : Hid (∀ w', Below ((w.alloc (.cells #[.int .i64 k1, .int .i64 n1, .string s1, .slice a1 l1 c1] 25)).alloc (.cells #[.int .i64 k2, .int .i64 n2, .string s2, .slice a2 l2 c2] 25)).heap.size ((w.alloc (.cells #[.int .i64 k1, .int .i64 n1, .string s1, .slice a1 l1 c1] 25)).alloc (.cells #[.int .i64 k2, .int .i64 n2, .string s2, .slice a2 l2 c2] 25)) w' →
      Tre w' P (.agg #[.int .i64 k1, .int .i64 n1, .string s1, .slice a1 l1 c1]) t1 ∧ Tre w' Q (.agg #[.int .i64 k2, .int .i64 n2, .string s2, .slice a2 l2 c2]) t2 ∧ Ready w' ∧ Cell4 w' w.heap.size (.int .i64 k1) (.int .i64 n1) (.string s1) (.slice a1 l1 c1) ∧ Cell4 w' (w.heap.size + 1) (.int .i64 k2) (.int .i64 n2) (.string s2) (.slice a2 l2 c2) ∧ Below w.heap.size w w') := fun w' hB => by
    refine ⟨((HT1.out.alloc _).alloc _).below hB, ((HT2.out.alloc _).alloc _).below hB, ((HD.out.alloc _).alloc _).below hB, ((Cell4.new w _ _ _ _ 25).alloc _).below hB, ?_, (((Below.refl _ _).alloc (Nat.le_refl _) _).alloc (le_alloc _ _) _).trans (hB.mono (Nat.le_trans (le_alloc _ _) (le_alloc _ _)))⟩
    have := Cell4.new (w.alloc (.cells #[.int .i64 k1, .int .i64 n1, .string s1, .slice a1 l1 c1] 25)) (.int .i64 k2) (.int .i64 n2) (.string s2) (.slice a2 l2 c2) 25
    rw [size_alloc] at this
    exact this.below hB
  go_enter Tryd.func4, Tryd.ntmps4
  go_wp2_with fail
  generalize (w.alloc (.cells #[.int .i64 k1, .int .i64 n1, .string s1, .slice a1 l1 c1] 25)).alloc (.cells #[.int .i64 k2, .int .i64 n2, .string s2, .slice a2 l2 c2] 25) = w0 at *
  have HS : Hid (Below w0.heap.size w0 w0) := Below.refl _ _
  go_wp2_with (first
    | (go_at_call 12; refine (L1.out _ (HX.out _ HS.out).1).mono ?_; rintro e w1 ⟨bb, rfl, HB⟩; have HS2 : Hid (Below w0.heap.size w0 w1) := HS.out.trans (HB.mono HS.out.size); obtain ⟨_, _, _, ⟨p0, p1, p2, p3, p4⟩, ⟨q0, q1, q2, q3, q4⟩, _⟩ := HX.out _ HS2.out; clear HB)
    | (go_at_call 12; refine (L2.out _ (HX.out _ HS2.out).2.1).mono ?_; rintro e w2 ⟨bc, rfl, HB⟩; have HS3 : Hid (Below w0.heap.size w0 w2) := HS2.out.trans (HB.mono HS2.out.size); obtain ⟨_, _, _, ⟨p0, p1, p2, p3, p4⟩, ⟨q0, q1, q2, q3, q4⟩, _⟩ := HX.out _ HS3.out; clear HB))
  · go_wp2_with (go_at_call 8; have := HS3; refine (C8.out _ (HX.out _ HS3.out).2.2.1).mono ?_; rintro e w9 ⟨rfl, HB⟩; have HF : Hid (Below w0.heap.size w0 w9) := HS3.out.trans (HB.mono HS3.out.size); clear HB HS3)
    go_ret
    exact ⟨rfl, (HX.out _ HF.out).2.2.2.2.2⟩
  · have HX8 : Hid (∀ w', Below w0.heap.size w0 w' → w'.cell? ⟨w.heap.size, 0, none⟩ = some (.int .i64 k1) ∧ w'.cell? ⟨w.heap.size, 1, none⟩ = some (.int .i64 n1) ∧ w'.cell? ⟨w.heap.size, 2, none⟩ = some (.string s1) ∧ w'.cell? ⟨w.heap.size, 3, none⟩ = some (.slice a1 l1 c1) ∧ w'.cell? ⟨w.heap.size + 1, 0, none⟩ = some (.int .i64 k2) ∧ w'.cell? ⟨w.heap.size + 1, 1, none⟩ = some (.int .i64 n2) ∧ w'.cell? ⟨w.heap.size + 1, 2, none⟩ = some (.string s2) ∧ w'.cell? ⟨w.heap.size + 1, 3, none⟩ = some (.slice a2 l2 c2)) := fun w' h => by
      obtain ⟨_, _, _, ⟨p0, p1, p2, p3, p4⟩, ⟨q0, q1, q2, q3, q4⟩, _⟩ := HX.out _ h
      exact ⟨p0, p1, p2, p3, q0, q1, q2, q3⟩
    have HS : Hid (Below w0.heap.size w0 w2.drew) := Below.drew HS3.out
    have D13 : Hid True := trivial
    clear HS2 HS3 L1 L2
    go_region_held3 (fun w' => w'.cell? ⟨w.heap.size, 0, none⟩ = some (.int .i64 k1) ∧ w'.cell? ⟨w.heap.size, 1, none⟩ = some (.int .i64 n1) ∧ w'.cell? ⟨w.heap.size, 2, none⟩ = some (.string s1) ∧ w'.cell? ⟨w.heap.size, 3, none⟩ = some (.slice a1 l1 c1) ∧ w'.cell? ⟨w.heap.size + 1, 0, none⟩ = some (.int .i64 k2) ∧ w'.cell? ⟨w.heap.size + 1, 1, none⟩ = some (.int .i64 n2) ∧ w'.cell? ⟨w.heap.size + 1, 2, none⟩ = some (.string s2) ∧ w'.cell? ⟨w.heap.size + 1, 3, none⟩ = some (.slice a2 l2 c2)) (go_keep) (first
      | (go_at_call 13; have := D13; refine (C13.out _ (HX.out _ HS.out).1 (HX.out _ HS.out).2.1).mono ?_; rintro e w9 ⟨rfl, HB⟩; clear D13 C13; have HS : Hid (Below w0.heap.size w0 w9) := HS.out.trans (HB.mono HS.out.size); obtain ⟨_, _, _, ⟨p0, p1, p2, p3, p4⟩, ⟨q0, q1, q2, q3, q4⟩, _⟩ := HX.out _ HS.out; clear HB)
      | (go_at_call 11; refine (C11.out _ (HX.out _ HS.out).1 (HX.out _ HS.out).2.1).mono ?_; rintro e w9 ⟨rfl, HB⟩; have HS : Hid (Below w0.heap.size w0 w9) := HS.out.trans (HB.mono HS.out.size); obtain ⟨_, _, _, ⟨p0, p1, p2, p3, p4⟩, ⟨q0, q1, q2, q3, q4⟩, _⟩ := HX.out _ HS.out; clear HB)
      | (go_at_call 13; refine (C13x.out _ (HX.out _ HS.out).1).mono ?_; rintro e w9 ⟨rfl, HB⟩; have HS : Hid (Below w0.heap.size w0 w9) := HS.out.trans (HB.mono HS.out.size); obtain ⟨_, _, _, ⟨p0, p1, p2, p3, p4⟩, ⟨q0, q1, q2, q3, q4⟩, _⟩ := HX.out _ HS.out; clear HB)
      | (go_at_call 8; refine (C8.out _ (HX.out _ HS.out).2.2.1).mono ?_; rintro e w9 ⟨rfl, HB⟩; have HS : Hid (Below w0.heap.size w0 w9) := HS.out.trans (HB.mono HS.out.size); obtain ⟨_, _, _, ⟨p0, p1, p2, p3, p4⟩, ⟨q0, q1, q2, q3, q4⟩, _⟩ := HX.out _ HS.out; clear HB))
    all_goals go_wp2
    all_goals go_ret
    all_goals exact ⟨rfl, (HX.out _ HS.out).2.2.2.2.2⟩
  · go_wp2_with (go_at_call 8; have := HS2; refine (C8.out _ (HX.out _ HS2.out).2.2.1).mono ?_; rintro e w9 ⟨rfl, HB⟩; have HF : Hid (Below w0.heap.size w0 w9) := HS2.out.trans (HB.mono HS2.out.size); clear HB HS2)
    go_ret
    exact ⟨rfl, (HX.out _ HF.out).2.2.2.2.2⟩

theorem printR_zero {t : Tr} {s : Bs} (h : PrintR t s 0) : checkM 16 t = 0 ∧ s = textT t ∧ (parseM (ba s)).err = 0 ∧ (parseM (ba s)).t = t := by
  rcases h with ⟨h1, _, h2⟩ | ⟨_, _, _, h2⟩ | ⟨h1, h2, h3, rfl, _⟩
  · exact absurd h2.symm h1
  · exact absurd h2 (by decide)
  · exact ⟨h1, rfl, h2, h3⟩
theorem printR_pos {t : Tr} {s : Bs} {x : Nat} (h : PrintR t s x) (hx : x ≠ 0) : s = [] := by
  rcases h with ⟨_, h2, _⟩ | ⟨_, _, h2, _⟩ | ⟨_, _, _, _, h2⟩
  · exact h2
  · exact h2
  · exact absurd h2 hx

set_option maxRecDepth 100000 in
set_option maxHeartbeats 1000000 in
theorem back_walk (t : Tr) (k1 n1 : Int) (s1 : ByteArray) (a1 : Option Addr) (l1 c1 : Nat) (w : World) (P : Nat → Prop)
    (HT1 : Hid (Tre w P (.agg #[.int .i64 k1, .int .i64 n1, .string s1, .slice a1 l1 c1]) t)) (HD : Hid (Ready w)) :
    Calls Tryd.prog 5 #[.agg #[.int .i64 k1, .int .i64 n1, .string s1, .slice a1 l1 c1]] w fun e w' => e = .returned (.bool true) ∧ Below w.heap.size w w' := by
  obtain ⟨sx, x, HPR⟩ : ∃ sx x, Hid (PrintR t sx x) := by
    by_cases h1 : checkM 16 t = 0
    · by_cases h2 : (parseM (ba (textT t))).err = 0 ∧ (parseM (ba (textT t))).t = t
      · exact ⟨_, _, .inr (.inr ⟨h1, h2.1, h2.2, rfl, rfl⟩)⟩
      · exact ⟨_, _, .inr (.inl ⟨h1, by rcases Classical.em ((parseM (ba (textT t))).err = 0) with h | h; exact .inr fun e => h2 ⟨h, e⟩; exact .inl h, rfl, rfl⟩)⟩
    · exact ⟨_, _, .inl ⟨h1, rfl, rfl⟩⟩
  have huniq : ∀ s' x', PrintR t s' x' → s' = sx ∧ x' = x := fun s' x' h => by
    rcases HPR.out with ⟨a1, a2, a3⟩ | ⟨a1, a2, a3, a4⟩ | ⟨a1, a2, a3, a4, a5⟩ <;> rcases h with ⟨b1, b2, b3⟩ | ⟨b1, b2, b3, b4⟩ | ⟨b1, b2, b3, b4, b5⟩
    · exact ⟨b2.trans a2.symm, b3.trans a3.symm⟩
    · exact absurd b1 a1
    · exact absurd b1 a1
    · exact absurd a1 b1
    · exact ⟨b3.trans a3.symm, b4.trans a4.symm⟩
    · rcases a2 with h | h
      · exact absurd b2 h
      · exact absurd b3 h
    · exact absurd a1 b1
    · rcases b2 with h | h
      · exact absurd a2 h
      · exact absurd a3 h
    · exact ⟨b4.trans a4.symm, b5.trans a5.symm⟩
  have C14 : Hid (∀ w, Ready w → Tre w P (.agg #[.int .i64 k1, .int .i64 n1, .string s1, .slice a1 l1 c1]) t → Calls Tryd.prog 14 #[.agg #[.int .i64 k1, .int .i64 n1, .string s1, .slice a1 l1 c1]] w fun e w' => e = .returned (.tuple #[.string (ba sx), .int .i64 x]) ∧ Below w.heap.size w w') := fun w hr hT => (print_any P t _ w hT hr).mono fun e w' h => by
    obtain ⟨⟨s', x', he, hp⟩, hB⟩ := h
    obtain ⟨rfl, rfl⟩ := huniq _ _ hp
    exact ⟨he, hB⟩
  have C8 : Hid (∀ w, Ready w → Calls Tryd.prog 8 #[] w fun e w' => e = .returned (.bool true) ∧ Below w.heap.size w w') := fun w h => works_any w h
  have L1 : Hid (∀ w, Tre w P (.agg #[.int .i64 k1, .int .i64 n1, .string s1, .slice a1 l1 c1]) t → Calls Tryd.prog 12 #[.agg #[.int .i64 k1, .int .i64 n1, .string s1, .slice a1 l1 c1]] w (Truth w)) := fun w h => light_any P t _ _ _ _ _ _ w h
  clear huniq
  have HX : Hid (∀ w', Below (w.alloc (.cells #[.int .i64 k1, .int .i64 n1, .string s1, .slice a1 l1 c1] 25)).heap.size (w.alloc (.cells #[.int .i64 k1, .int .i64 n1, .string s1, .slice a1 l1 c1] 25)) w' →
      Tre w' P (.agg #[.int .i64 k1, .int .i64 n1, .string s1, .slice a1 l1 c1]) t ∧ Ready w' ∧ Cell4 w' w.heap.size (.int .i64 k1) (.int .i64 n1) (.string s1) (.slice a1 l1 c1) ∧ Below w.heap.size w w') := fun w' hB =>
    ⟨(HT1.out.alloc _).below hB, (HD.out.alloc _).below hB, (Cell4.new w _ _ _ _ 25).below hB, ((Below.refl _ _).alloc (Nat.le_refl _) _).trans (hB.mono (le_alloc _ _))⟩
  by_cases hx : x = 0
  · subst hx
    obtain ⟨h1, h2, h3, h4⟩ := printR_zero HPR.out
    have hlen : (ba sx).size ≤ 9223372036854775807 := by
      have := text_len 16 t _ HT1.out h1
      rw [ba_size, h2]; omega
    have C9 : Hid (∀ w, Ready w → Calls Tryd.prog 9 #[.string (ba sx)] w fun e w' => (∃ k n s a l c qp, e = .returned (.tuple #[.agg #[.int .i64 k, .int .i64 n, .string s, .slice a l c], .agg #[.int .i64 0, .int .i64 (qp : Nat)]]) ∧ Tre w' (fun g => w.heap.size ≤ g) (.agg #[.int .i64 k, .int .i64 n, .string s, .slice a l c]) t) ∧ Below w.heap.size w w') := fun w h => (parse_any (ba sx) hlen w h.held).mono fun e w' hp => by
      obtain ⟨⟨k, n, s, a, l, c, he, hT⟩, hB⟩ := hp
      rw [h3] at he
      rw [h4] at hT
      exact ⟨⟨k, n, s, a, l, c, _, he, hT⟩, hB⟩
    have C11 : Hid (∀ k n s a l c w Q, Tre w P (.agg #[.int .i64 k1, .int .i64 n1, .string s1, .slice a1 l1 c1]) t → Tre w Q (.agg #[.int .i64 k, .int .i64 n, .string s, .slice a l c]) t → Calls Tryd.prog 11 #[.agg #[.int .i64 k1, .int .i64 n1, .string s1, .slice a1 l1 c1], .agg #[.int .i64 k, .int .i64 n, .string s, .slice a l c]] w fun e w' => e = .returned (.bool true) ∧ Below w.heap.size w w') := fun k n s a l c w Q h1 h2 => (rsame_any t P Q t _ _ w h1 h2).mono fun e w' h => ⟨h.1.of_yes rfl, h.2⟩
    clear HPR h1 h2 h3 h4 hlen
    generalize ba sx = ss at *
    go_enter Tryd.func5, Tryd.ntmps5
    go_wp2_with fail
    generalize w.alloc (.cells #[.int .i64 k1, .int .i64 n1, .string s1, .slice a1 l1 c1] 25) = w0 at *
    have HS : Hid (Below w0.heap.size w0 w0) := Below.refl _ _
    go_wp2_with (go_at_call 12; refine (L1.out _ (HX.out _ HS.out).1).mono ?_; rintro e w1 ⟨bb, rfl, HB⟩; have HS2 : Hid (Below w0.heap.size w0 w1) := HS.out.trans (HB.mono HS.out.size); obtain ⟨_, _, ⟨p0, p1, p2, p3, p4⟩, _⟩ := HX.out _ HS2.out; clear HB)
    · go_wp2_with (go_at_call 8; have := HS2; refine (C8.out _ (HX.out _ HS2.out).2.1).mono ?_; rintro e w9 ⟨rfl, HB⟩; have HF : Hid (Below w0.heap.size w0 w9) := HS2.out.trans (HB.mono HS2.out.size); clear HB HS2)
      go_ret
      exact ⟨rfl, (HX.out _ HF.out).2.2.2⟩
    · go_wp2_with (first
        | (go_at_call 8; have := D4; refine (C8.out _ (HX.out _ D4.out).2.1).mono ?_; rintro e w6 ⟨rfl, HB⟩; have HF : Hid (Below w0.heap.size w0 w6) := D4.out.trans (HB.mono D4.out.size); clear HB D4)
        | (go_at_call 11; have := D3; refine (C11.out _ _ _ _ _ _ _ _ (((HX.out _ D3.out.1).1.alloc _).alloc _) ((D3.out.2.alloc _).alloc _)).mono ?_; rintro e w5 ⟨rfl, HB⟩; have D4 : Hid (Below w0.heap.size w0 w5) := ((D3.out.1.alloc D3.out.1.size _).alloc (Nat.le_trans D3.out.1.size (le_alloc _ _)) _).trans (HB.mono (Nat.le_trans D3.out.1.size (Nat.le_trans (le_alloc _ _) (le_alloc _ _)))); clear HB D3)
        | (go_at_call 9; have := D2; refine (C9.out _ (HX.out _ D2.out).2.1).mono ?_; rintro e w4 ⟨⟨tk, tn, ts, ta, tl, tc, qp, rfl, hT⟩, HB⟩; have D3 : Hid (Below w0.heap.size w0 w4 ∧ Tre w4 (fun g => w3.heap.size ≤ g) (.agg #[.int .i64 tk, .int .i64 tn, .string ts, .slice ta tl tc]) t) := ⟨D2.out.trans (HB.mono D2.out.size), hT⟩; obtain ⟨_, _, ⟨r0, r1, r2, r3, r4⟩, _⟩ := HX.out _ D3.out.1; have hlt : w.heap.size < w4.heap.size := (HX.out _ D3.out.1).2.2.1.lt; clear HB hT D2)
        | (go_at_call 14; refine (C14.out _ (HX.out _ HS2.out).2.1 (HX.out _ HS2.out).1).mono ?_; rintro e w3 ⟨rfl, HB⟩; have D2 : Hid (Below w0.heap.size w0 w3) := HS2.out.trans (HB.mono HS2.out.size); clear HB))
      go_ret
      exact ⟨rfl, (HX.out _ HF.out).2.2.2⟩
  · have hs := printR_pos HPR.out hx
    subst hs
    have hx2 : ((x : Int) != 0) = true := by simp; omega
    have C14' : Hid (∀ w, Ready w → Tre w P (.agg #[.int .i64 k1, .int .i64 n1, .string s1, .slice a1 l1 c1]) t → Calls Tryd.prog 14 #[.agg #[.int .i64 k1, .int .i64 n1, .string s1, .slice a1 l1 c1]] w fun e w' => e = .returned (.tuple #[.string ⟨#[]⟩, .int .i64 x]) ∧ Below w.heap.size w w') := C14.out
    clear HPR C14
    go_enter Tryd.func5, Tryd.ntmps5
    go_wp2_with fail
    generalize w.alloc (.cells #[.int .i64 k1, .int .i64 n1, .string s1, .slice a1 l1 c1] 25) = w0 at *
    have HS : Hid (Below w0.heap.size w0 w0) := Below.refl _ _
    go_wp2_with (go_at_call 12; refine (L1.out _ (HX.out _ HS.out).1).mono ?_; rintro e w1 ⟨bb, rfl, HB⟩; have HS2 : Hid (Below w0.heap.size w0 w1) := HS.out.trans (HB.mono HS.out.size); obtain ⟨_, _, ⟨p0, p1, p2, p3, p4⟩, _⟩ := HX.out _ HS2.out; clear HB)
    · go_wp2_with (go_at_call 8; have := HS2; refine (C8.out _ (HX.out _ HS2.out).2.1).mono ?_; rintro e w9 ⟨rfl, HB⟩; have HF : Hid (Below w0.heap.size w0 w9) := HS2.out.trans (HB.mono HS2.out.size); clear HB HS2)
      go_ret
      exact ⟨rfl, (HX.out _ HF.out).2.2.2⟩
    · go_wp2_with (first
        | (go_at_call 8; have := D2; refine (C8.out _ (HX.out _ D2.out).2.1).mono ?_; rintro e w6 ⟨rfl, HB⟩; have HF : Hid (Below w0.heap.size w0 w6) := D2.out.trans (HB.mono D2.out.size); clear HB D2)
        | (go_at_call 14; refine (C14'.out _ (HX.out _ HS2.out).2.1 (HX.out _ HS2.out).1).mono ?_; rintro e w3 ⟨rfl, HB⟩; have D2 : Hid (Below w0.heap.size w0 w3) := HS2.out.trans (HB.mono HS2.out.size); clear HB))
      go_ret
      exact ⟨rfl, (HX.out _ HF.out).2.2.2⟩
end Go.Proofs.YtlfeejjlcclbdaaDoor
