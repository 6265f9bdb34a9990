/-
  Layer 14: the walks of QuorumCounts, QuorumReaches.
-/
import Derived.Test.YthjbnhdikoljdaaWrk
import Derived.Test.YthjbnhdikoljdaaRrc
namespace Go.Proofs.Ythjbnhdikoljdaa
open Go.RowKit
set_option linter.unusedVariables false

set_option maxRecDepth 100000 in
set_option maxHeartbeats 800000 in
theorem counts_walk (n : Int) (l : List Bool) (a : Option Addr) (c : Nat) (m : List Bool) (a2 : Option Addr) (c2 : Nat) (t : List Int) (a3 : Option Addr) (c3 : Nat) (w : World) (hn : InR n) (hl : BlV w a c l) (hm : BlV w a2 c2 m) (ht : IlV w a3 c3 t) : Calls Try.prog 3 #[.int .i64 n, .slice a l.length c, .slice a2 m.length c2, .slice a3 t.length c3] w fun e w' => e = .returned (.bool true) ∧ Below w.heap.size w w' := by
  have h1 := hl.cap1
  have h2 := hl.cap2
  have h3 := hm.cap1
  have h4 := hm.cap2
  have h5 := ht.cap1
  have h6 := ht.cap2
  have HN : Hid (InR n) := hn
  have HL : Hid (Calls Try.prog 11 #[.slice a l.length c] w fun e w' => e = .returned (.bool (wonM l)) ∧ w' = w) := Won_any l a c w hl
  have HL2 : Hid (Calls Try.prog 12 #[.slice a l.length c] w fun e w' => e = .returned (.bool (wonM l)) ∧ w' = w) := RWon_any l a c w hl
  have HT : Hid (∀ wx, Below w.heap.size w wx → Calls Try.prog 15 #[.slice a l.length c, .slice a2 m.length c2] wx fun e w' => e = .returned (.bool (bothM l m)) ∧ w' = wx) := fun wx hb => Both_any l m a a2 c c2 wx (hl.below hb) (hm.below hb)
  have HT2 : Hid (∀ wx, Below w.heap.size w wx → Calls Try.prog 16 #[.slice a l.length c, .slice a2 m.length c2] wx fun e w' => e = .returned (.bool (bothM l m)) ∧ w' = wx) := fun wx hb => RBoth_any l m a a2 c c2 wx (hl.below hb) (hm.below hb)
  have HR : Hid (t.length ≤ 300 → Calls Try.prog 13 #[.slice a3 t.length c3] w fun e w' => ∃ x, e = .returned (.int .i64 x) ∧ Hid (Rch t x) ∧ InR x ∧ Below w.heap.size w w') := fun h => Reached_any t a3 c3 w ht (by omega)
  have HR2 : Hid (t.length ≤ 300 → ∀ wx x, Below w.heap.size w wx → Rch t x → Calls Try.prog 14 #[.slice a3 t.length c3] wx fun e w' => e = .returned (.int .i64 x) ∧ Below wx.heap.size wx w') := fun h wx x hb hx => RReached_any t a3 c3 x wx (ht.below hb) hx (by omega)
  clear hn hl hm ht
  generalize wonM l = x at *
  generalize bothM l m = r at *
  generalize hE : enM n = E at *
  have HE : Hid (enM n = E) := hE
  clear hE
  generalize l.length = n1 at *
  generalize m.length = n2 at *
  generalize t.length = n3 at *
  by_cases k1 : 500 < n1
  · go_enter Try.func3, Try.ntmps3
    go_wp2_with (go_at_call 8; refine (works_any _).mono ?_; rintro e w2 ⟨rfl, HB⟩)
    go_ret
    exact ⟨rfl, HB⟩
  · by_cases k2 : 500 < n2
    · go_enter Try.func3, Try.ntmps3
      go_wp2_with (go_at_call 8; refine (works_any _).mono ?_; rintro e w2 ⟨rfl, HB⟩)
      go_ret
      exact ⟨rfl, HB⟩
    · by_cases k3 : 300 < n3
      · go_enter Try.func3, Try.ntmps3
        go_wp2_with (go_at_call 8; refine (works_any _).mono ?_; rintro e w2 ⟨rfl, HB⟩)
        go_ret
        exact ⟨rfl, HB⟩
      · go_enter Try.func3, Try.ntmps3
        go_wp2_with (first
          | (go_at_call 9; refine (Enough_any _ _ HN.out).mono ?_; rintro e w1 ⟨rfl, h9⟩; have h10 := h9.symm; clear h9; subst h10; rw [HE.out])
          | (go_at_call 10; refine (REnough_any _ _ HN.out).mono ?_; rintro e w1 ⟨rfl, h9⟩; have h10 := h9.symm; clear h9; subst h10; rw [HE.out])
          | (go_at_call 11; refine HL.out.mono ?_; rintro e w1 ⟨rfl, h9⟩; have h10 := h9.symm; clear h9; subst h10)
          | (go_at_call 12; refine HL2.out.mono ?_; rintro e w1 ⟨rfl, h9⟩; have h10 := h9.symm; clear h9; subst h10)
          | (go_at_call 13; refine (HR.out (by omega)).mono ?_; rintro e w1 ⟨y, rfl, HY, _, HB⟩; have HB1 : Hid (Below w.heap.size w w1) := HB; clear HB)
          | (go_at_call 14; refine (HR2.out (by omega) _ _ HB1.out HY.out).mono ?_; rintro e w2 ⟨rfl, HB⟩; have HB2 : Hid (Below w.heap.size w w2) := trail HB1.out HB; clear HB)
          | (go_at_call 15; refine (HT.out _ HB2.out).mono ?_; rintro e w1 ⟨rfl, h9⟩; have h10 := h9.symm; clear h9; subst h10)
          | (go_at_call 16; refine (HT2.out _ HB2.out).mono ?_; rintro e w1 ⟨rfl, h9⟩; have h10 := h9.symm; clear h9; subst h10)
          | (go_at_call 8; refine (works_any _).mono ?_; rintro e w3 ⟨rfl, HB⟩))
        go_ret
        exact ⟨rfl, trail HB2.out HB⟩
theorem rch_here {t : List Int} {x : Int} {i M : Nat} (h : Rch t x) (h0 : 0 < t.length) (hi : t.length ≤ i) (hM : enM ((t.length : Nat) : Int) = (M : Nat)) : M ≤ cge x (t.take i) ∧ cgt x (t.take i) < M ∧ x ∈ t.take i := by
  obtain ⟨q1, q2, q3⟩ := h.2 h0
  rw [List.take_of_length_le hi]
  rw [enM_pos (by omega)] at hM
  exact ⟨by omega, by omega, q1⟩
theorem mem_yes {t : List Int} {x : Int} {k : Nat} (hk : k < t.length) (h : t.getD k 0 = x) : decide (x ∈ t.take (k + 1)) = true := by
  rw [List.getD_eq_getElem?_getD, List.getElem?_eq_getElem hk] at h
  rw [List.take_succ_eq_append_getElem hk]
  simp at h
  simp [h]
theorem mem_no {t : List Int} {x : Int} {k : Nat} (hk : k < t.length) (h : ¬ t.getD k 0 = x) : decide (x ∈ t.take (k + 1)) = decide (x ∈ t.take k) := by
  rw [List.getD_eq_getElem?_getD, List.getElem?_eq_getElem hk] at h
  rw [List.take_succ_eq_append_getElem hk]
  simp at h
  simp only [List.mem_append, List.mem_singleton, decide_eq_decide]
  constructor
  · rintro (q | q)
    · exact q
    · exact absurd q.symm h
  · exact .inl
set_option maxRecDepth 100000 in
set_option maxHeartbeats 800000 in
theorem reaches_walk (t : List Int) (a : Option Addr) (c : Nat) (w : World) (ht : IlV w a c t) : Calls Try.prog 5 #[.slice a t.length c] w fun e w' => e = .returned (.bool true) ∧ Below w.heap.size w w' := by
  have h5 := ht.cap1
  have h6 := ht.cap2
  by_cases k0 : t.length = 0
  · clear ht
    generalize t.length = n at *
    subst k0
    go_enter Try.func5, Try.ntmps5
    go_wp2_with (go_at_call 8; refine (works_any _).mono ?_; rintro e w2 ⟨rfl, HB⟩)
    go_ret
    exact ⟨rfl, HB⟩
  · by_cases k1 : 300 < t.length
    · clear ht
      have k2 : (((t.length : Nat) : Int) == 0) = false := by rw [beq_eq_false_iff_ne]; omega
      generalize t.length = n at *
      go_enter Try.func5, Try.ntmps5
      go_wp2_with (go_at_call 8; refine (works_any _).mono ?_; rintro e w2 ⟨rfl, HB⟩)
      go_ret
      exact ⟨rfl, HB⟩
    · have k2 : (((t.length : Nat) : Int) == 0) = false := by rw [beq_eq_false_iff_ne]; omega
      have HR : Hid (Calls Try.prog 13 #[.slice a t.length c] w fun e w' => ∃ x, e = .returned (.int .i64 x) ∧ Hid (Rch t x) ∧ InR x ∧ Below w.heap.size w w') := Reached_any t a c w ht (by omega)
      have HC : Hid (∀ wx i, Below w.heap.size w wx → i < t.length → ∃ b o, a = some ⟨b, o, none⟩ ∧ wx.cell? ⟨b, o + i, none⟩ = some (.int .i64 (t.getD i 0)) ∧ InR (t.getD i 0)) := fun wx i hb hi => by
        obtain ⟨b, o, q1, q2, _⟩ := (ht.below hb).at_ hi
        exact ⟨b, o, q1, q2, ht.inr i hi⟩
      have HI : Hid (InR (t.length : Nat)) := ⟨by omega, by omega⟩
      obtain ⟨M, hM⟩ : ∃ M : Nat, enM ((t.length : Nat) : Int) = (M : Nat) := ⟨t.length / 2 + 1, by rw [enM_pos (by omega)]; omega⟩
      have HM : Hid (enM ((t.length : Nat) : Int) = (M : Nat)) := hM
      have HE : Hid (∀ x i, Rch t x → t.length ≤ i → M ≤ cge x (t.take i) ∧ cgt x (t.take i) < M ∧ x ∈ t.take i) := fun x i q1 q2 => rch_here q1 (by omega) q2 hM
      have HG : Hid (∀ x i, i < t.length → x < t.getD i 0 → cge x (t.take (i + 1)) = cge x (t.take i) + 1 ∧ cgt x (t.take (i + 1)) = cgt x (t.take i) + 1 ∧ decide (x ∈ t.take (i + 1)) = decide (x ∈ t.take i)) := fun x i q1 q2 => ⟨cge_yes q1 (by omega), cgt_yes q1 q2, mem_no q1 (by omega)⟩
      have HQ : Hid (∀ x i, i < t.length → x = t.getD i 0 → cge x (t.take (i + 1)) = cge x (t.take i) + 1 ∧ cgt x (t.take (i + 1)) = cgt x (t.take i) ∧ decide (x ∈ t.take (i + 1)) = true) := fun x i q1 q2 => ⟨cge_yes q1 (by omega), cgt_no q1 (by omega), mem_yes q1 (by omega)⟩
      have HS : Hid (∀ x i, i < t.length → t.getD i 0 < x → cge x (t.take (i + 1)) = cge x (t.take i) ∧ cgt x (t.take (i + 1)) = cgt x (t.take i) ∧ decide (x ∈ t.take (i + 1)) = decide (x ∈ t.take i)) := fun x i q1 q2 => ⟨cge_no q1 (by omega), cgt_no q1 (by omega), mem_no q1 (by omega)⟩
      clear ht hM
      generalize hnn : t.length = n at *
      clear hnn
      go_enter Try.func5, Try.ntmps5
      go_wp2_with (go_at_call 13; refine HR.out.mono ?_; rintro e w1 ⟨y, rfl, HY, HYR, HB⟩; have HB1 : Hid (Below w.heap.size w w1) := HB; clear HB)
      go_loop [4, 5, 6, 7] (fun x1 x2 x3 x4 => ∃ (i p q : Nat) (o : Bool), i ≤ n ∧ x1 = .int .i64 (p : Nat) ∧ x2 = .int .i64 (q : Nat) ∧ x3 = .bool o ∧ x4 = .int .i64 i ∧ p ≤ i ∧ q ≤ i ∧ Hid (p = cge y (t.take i) ∧ q = cgt y (t.take i) ∧ o = decide (y ∈ t.take i))) (fun _ _ _ z => n - (intOf z).toNat)
      case atStart => exact ⟨0, 0, 0, false, Nat.zero_le _, rfl, rfl, rfl, rfl, Nat.le_refl _, Nat.le_refl _, by simp [cge], by simp [cgt], by simp⟩
      case round =>
        obtain ⟨i, p, q, o, hi, rfl, rfl, rfl, rfl, hp, hq, HK⟩ := hrel
        obtain ⟨y1, y2⟩ := HYR
        by_cases hlt : i < n
        · obtain ⟨b, f, rfl, z1, z2, z3⟩ := HC.out w1 i HB1.out hlt
          by_cases c1 : y < t.getD i 0
          · have HZ : Hid (p + 1 = cge y (t.take (i + 1)) ∧ q + 1 = cgt y (t.take (i + 1)) ∧ o = decide (y ∈ t.take (i + 1))) := by
              obtain ⟨g1, g2, g3⟩ := HG.out y i hlt c1
              obtain ⟨r1, r2, r3⟩ := HK.out
              exact ⟨by rw [g1, ← r1], by rw [g2, ← r2], by rw [g3, ← r3]⟩
            have c3 : (t.getD i 0 == y) = false := by rw [beq_eq_false_iff_ne]; omega
            clear HR HC HM HE HG HQ HS HK
            generalize t.getD i 0 = v at *
            cases o
            all_goals
              go_wp2
              go_round
              case rel => exact ⟨i + 1, p + 1, q + 1, _, by omega, by go_num, by go_num, rfl, by go_num, by omega, by omega, HZ⟩
              case measure => simp [intOf]; omega
          · by_cases c2 : y = t.getD i 0
            · have HZ : Hid (p + 1 = cge y (t.take (i + 1)) ∧ q = cgt y (t.take (i + 1)) ∧ true = decide (y ∈ t.take (i + 1))) := by
                obtain ⟨g1, g2, g3⟩ := HQ.out y i hlt c2
                obtain ⟨r1, r2, r3⟩ := HK.out
                exact ⟨by rw [g1, ← r1], by rw [g2, ← r2], by rw [g3]⟩
              rw [← c2] at z1
              clear HR HC HM HE HG HQ HS HK z2 z3 c1 c2
              cases o
              all_goals
                go_wp2
                go_round
                case rel => exact ⟨i + 1, p + 1, q, true, by omega, by go_num, by go_num, rfl, by go_num, by omega, by omega, HZ⟩
                case measure => simp [intOf]; omega
            · have HZ : Hid (p = cge y (t.take (i + 1)) ∧ q = cgt y (t.take (i + 1)) ∧ o = decide (y ∈ t.take (i + 1))) := by
                obtain ⟨g1, g2, g3⟩ := HS.out y i hlt (by omega)
                obtain ⟨r1, r2, r3⟩ := HK.out
                exact ⟨by rw [g1, ← r1], by rw [g2, ← r2], by rw [g3, ← r3]⟩
              have c3 : (t.getD i 0 == y) = false := by rw [beq_eq_false_iff_ne]; omega
              have c4 : ¬ y ≤ t.getD i 0 := by omega
              clear HR HC HM HE HG HQ HS HK c2
              generalize t.getD i 0 = v at *
              cases o
              all_goals
                go_wp2
                go_round
                case rel => exact ⟨i + 1, p, q, _, by omega, by go_num, by go_num, rfl, by go_num, by omega, by omega, HZ⟩
                case measure => simp [intOf]; omega
        · obtain ⟨g1, g2, g3⟩ := HE.out y i HY.out (by omega)
          obtain ⟨r1, r2, r3⟩ := HK.out
          have k5 : M ≤ p := by omega
          have k6 : q < M := by omega
          have k7 : o = true := by rw [r3]; exact decide_eq_true g3
          clear HR HC HE HG HQ HS HK g1 g2 g3 r1 r2 r3
          subst k7
          go_wp2_with (first
            | (go_at_call 9; refine (Enough_any _ _ HI.out).mono ?_; rintro e w2 ⟨rfl, h9⟩; have h10 := h9.symm; clear h9; subst h10; rw [HM.out])
            | (go_at_call 8; refine (works_any _).mono ?_; rintro e w3 ⟨rfl, HB⟩))
          go_ret
          exact ⟨rfl, trail HB1.out HB⟩
end Go.Proofs.Ythjbnhdikoljdaa
