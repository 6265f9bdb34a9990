/-
  Are two trees the same: the program's.
-/
import Derived.Test.YtjafjheffbbkmaaRSame
namespace Go.Proofs.Ytjafjheffbbkmaa
open Go.RowKit
set_option linter.unusedVariables false

set_option maxRecDepth 100000 in
set_option maxHeartbeats 1000000 in
theorem same_step (t : Tr) (ih : ∀ k ∈ t.kids, Tells 55 k) : Tells 55 t := by
  intro P Q t2 v1 v2 w h1 h2
  obtain ⟨k1, n1, m1, ks1⟩ := t
  obtain ⟨k2, n2, m2, ks2⟩ := t2
  obtain ⟨a1, c1, rfl, hc1, _, _, _, hl1, hk1⟩ := h1.opened
  obtain ⟨a2, c2, rfl, hc2, _, _, _, hl2, hk2⟩ := h2.opened
  have HK1 : Hid (∀ i, i < ks1.length → ∃ b o ka kc, KidAt w P a1 i (ks1.getD i zeroT) b o ka kc) := hk1
  have HK2 : Hid (∀ i, i < ks2.length → ∃ b o ka kc, KidAt w Q a2 i (ks2.getD i zeroT) b o ka kc) := hk2
  have HI : Hid (∀ k ∈ ks1, Tells 55 k) := ih
  clear hk1 hk2 ih h1 h2
  simp only at hc1 hl1 hc2 hl2
  show Calls Try.prog 55 #[.agg #[.int .i64 k1, .int .i64 n1, .string (ba m1), .slice a1 ks1.length c1], .agg #[.int .i64 k2, .int .i64 n2, .string (ba m2), .slice a2 ks2.length c2]] w _
  by_cases e1 : k1 = k2
  · by_cases e2 : n1 = n2
    · by_cases e3 : m1 = m2
      · by_cases e4 : ks1.length = ks2.length
        · subst e1; subst e2; subst e3
          rw [← e4]
          rw [← e4] at HK2 hl2
          have HE : Hid ((∀ j, j < ks1.length → ks1.getD j zeroT = ks2.getD j zeroT) → (⟨k1, n1, m1, ks1⟩ : Tr) = ⟨k1, n1, m1, ks2⟩) := fun h => by rw [kids_eq e4 h]
          have HN : Hid (∀ j, ¬ ks1.getD j zeroT = ks2.getD j zeroT → ¬ (⟨k1, n1, m1, ks1⟩ : Tr) = ⟨k1, n1, m1, ks2⟩) := fun j h e => h (by rw [Tr.mk.injEq] at e; rw [e.2.2.2])
          generalize ba m1 = s1 at *
          clear e4
          go_enter Try.func55, Try.ntmps55
          go_wp2_with fail
          have HB0 : Hid (Below w.heap.size w ((w.alloc (.cells #[.int .i64 k1, .int .i64 n1, .string s1, .slice a1 ks1.length c1] 31)).alloc (.cells #[.int .i64 k1, .int .i64 n1, .string s1, .slice a2 ks1.length c2] 31)) ∧ Cell4 ((w.alloc (.cells #[.int .i64 k1, .int .i64 n1, .string s1, .slice a1 ks1.length c1] 31)).alloc (.cells #[.int .i64 k1, .int .i64 n1, .string s1, .slice a2 ks1.length c2] 31)) (w.heap.size + 1) (.int .i64 k1) (.int .i64 n1) (.string s1) (.slice a2 ks1.length c2)) := by
            refine ⟨((Below.refl _ _).alloc (Nat.le_refl _) _).alloc (le_alloc _ _) _, ?_⟩
            rw [← size_alloc w (.cells #[.int .i64 k1, .int .i64 n1, .string s1, .slice a1 ks1.length c1] 31)]
            exact Cell4.new _ _ _ _ _ 31
          generalize (w.alloc (.cells #[.int .i64 k1, .int .i64 n1, .string s1, .slice a1 ks1.length c1] 31)).alloc (.cells #[.int .i64 k1, .int .i64 n1, .string s1, .slice a2 ks1.length c2] 31) = w1 at *
          go_loopw [38] (fun v wr => ∃ (i : Nat), i ≤ ks1.length ∧ v = .int .i64 i ∧ Hid (Below w1.heap.size w1 wr ∧ ∀ j, j < i → ks1.getD j zeroT = ks2.getD j zeroT)) (fun v _ => ks1.length - (intOf v).toNat)
          case atStart => exact ⟨0, Nat.zero_le _, rfl, Below.refl _ _, fun j hj => absurd hj (by omega)⟩
          case round =>
            obtain ⟨i, hi, rfl, HR⟩ := hrel
            by_cases hlt : i < ks1.length
            · obtain ⟨b, o, ka, kc, hKA⟩ := HK1.out i hlt
              obtain ⟨b', o', ka', kc', hKB⟩ := HK2.out i hlt
              have HKA : Hid (KidAt wr P a1 i (ks1.getD i zeroT) b o ka kc) := (hKA.below HB0.out.1).below HR.out.1
              have HKB : Hid (KidAt wr Q a2 i (ks2.getD i zeroT) b' o' ka' kc') := (hKB.below HB0.out.1).below HR.out.1
              clear hKA hKB
              obtain ⟨rfl, x0, x1, x2, x3, _⟩ := HKA.out
              obtain ⟨rfl, y0, y1, y2, y3, _⟩ := HKB.out
              have hbl : b < wr.heap.size := World.block_lt_of_cell? wr _ x0
              have hbl' : b' < wr.heap.size := World.block_lt_of_cell? wr _ y0
              obtain ⟨q0, q1, q2, q3, q4⟩ := HB0.out.2.below HR.out.1
              have hbq : w.heap.size + 1 < wr.heap.size := World.block_lt_of_cell? wr _ q0
              have HC : Hid (∀ w, Tre w P (.agg #[.int .i64 (ks1.getD i zeroT).kind, .int .i64 (ks1.getD i zeroT).n, .string (ba (ks1.getD i zeroT).name), .slice ka (ks1.getD i zeroT).kids.length kc]) (ks1.getD i zeroT) → Tre w Q (.agg #[.int .i64 (ks2.getD i zeroT).kind, .int .i64 (ks2.getD i zeroT).n, .string (ba (ks2.getD i zeroT).name), .slice ka' (ks2.getD i zeroT).kids.length kc']) (ks2.getD i zeroT) →
                  Calls Try.prog 55 #[.agg #[.int .i64 (ks1.getD i zeroT).kind, .int .i64 (ks1.getD i zeroT).n, .string (ba (ks1.getD i zeroT).name), .slice ka (ks1.getD i zeroT).kids.length kc], .agg #[.int .i64 (ks2.getD i zeroT).kind, .int .i64 (ks2.getD i zeroT).n, .string (ba (ks2.getD i zeroT).name), .slice ka' (ks2.getD i zeroT).kids.length kc']] w fun e w' => SameP (ks1.getD i zeroT) (ks2.getD i zeroT) e ∧ Below w.heap.size w w') := fun w h1 h2 => HI.out _ (getD_mem hlt) P Q _ _ _ w h1 h2
              have HT1 := HKA.out.tre
              have HT2 := HKB.out.tre
              have HTA : Hid (Tre wr P (.agg #[.int .i64 (ks1.getD i zeroT).kind, .int .i64 (ks1.getD i zeroT).n, .string (ba (ks1.getD i zeroT).name), .slice ka (ks1.getD i zeroT).kids.length kc]) (ks1.getD i zeroT)) := HT1
              have HTB : Hid (Tre wr Q (.agg #[.int .i64 (ks2.getD i zeroT).kind, .int .i64 (ks2.getD i zeroT).n, .string (ba (ks2.getD i zeroT).name), .slice ka' (ks2.getD i zeroT).kids.length kc']) (ks2.getD i zeroT)) := HT2
              clear HT1 HT2 HKA HKB
              have HQ : Hid (ks1.getD i zeroT = ks2.getD i zeroT → ∀ j, j < i + 1 → ks1.getD j zeroT = ks2.getD j zeroT) := fun h j hj => by
                rcases Nat.lt_succ_iff_lt_or_eq.1 hj with h1 | h1
                · exact HR.out.2 j h1
                · rw [h1, h]
              have HNo : Hid (¬ ks1.getD i zeroT = ks2.getD i zeroT → ¬ (⟨k1, n1, m1, ks1⟩ : Tr) = ⟨k1, n1, m1, ks2⟩) := HN.out i
              have HBr : Hid (Below w1.heap.size w1 wr) := HR.out.1
              clear HR HN
              generalize (ks1.getD i zeroT).kind = xk at *
              generalize (ks1.getD i zeroT).n = xn at *
              generalize ba (ks1.getD i zeroT).name = xs at *
              generalize (ks1.getD i zeroT).kids.length = xl at *
              generalize ks1.getD i zeroT = x at *
              generalize (ks2.getD i zeroT).kind = yk at *
              generalize (ks2.getD i zeroT).n = yn at *
              generalize ba (ks2.getD i zeroT).name = ys at *
              generalize (ks2.getD i zeroT).kids.length = yl at *
              generalize ks2.getD i zeroT = y at *
              have HX : Hid (∀ w', Below (wr.alloc (.cells #[.int .i64 xk, .int .i64 xn, .string xs, .slice ka xl kc] 31)).heap.size (wr.alloc (.cells #[.int .i64 xk, .int .i64 xn, .string xs, .slice ka xl kc] 31)).drew w' → w'.cell? ⟨wr.heap.size, 0, none⟩ = some (.int .i64 xk) ∧ w'.cell? ⟨wr.heap.size, 1, none⟩ = some (.int .i64 xn) ∧ w'.cell? ⟨wr.heap.size, 2, none⟩ = some (.string xs) ∧ w'.cell? ⟨wr.heap.size, 3, none⟩ = some (.slice ka xl kc) ∧ w'.cell? ⟨w.heap.size + 1, 3, none⟩ = some (.slice (some ⟨b', o', none⟩) ks1.length c2) ∧ w'.cell? ⟨b', o' + i * 4, none⟩ = some (.int .i64 yk) ∧ w'.cell? ⟨b', o' + i * 4 + 1, none⟩ = some (.int .i64 yn) ∧ w'.cell? ⟨b', o' + i * 4 + 2, none⟩ = some (.string ys) ∧ w'.cell? ⟨b', o' + i * 4 + 3, none⟩ = some (.slice ka' yl kc')) := fun w' hB => by
                have c4 := Cell4.new wr (.int .i64 xk) (.int .i64 xn) (.string xs) (.slice ka xl kc) 31
                have hc : ∀ g o v, (wr.alloc (.cells #[.int .i64 xk, .int .i64 xn, .string xs, .slice ka xl kc] 31)).cell? ⟨g, o, none⟩ = some v → w'.cell? ⟨g, o, none⟩ = some v := fun g o v h => (hB.cell (p := ⟨g, o, none⟩) (World.block_lt_of_cell? _ _ h)).trans h
                have ha : ∀ g o v, wr.cell? ⟨g, o, none⟩ = some v → (wr.alloc (.cells #[.int .i64 xk, .int .i64 xn, .string xs, .slice ka xl kc] 31)).cell? ⟨g, o, none⟩ = some v := fun g o v h => ((Fr.refl (g + 1) wr).alloc _).cell (by omega) h
                exact ⟨hc _ _ _ c4.c0, hc _ _ _ c4.c1, hc _ _ _ c4.c2, hc _ _ _ c4.c3, hc _ _ _ (ha _ _ _ q3), hc _ _ _ (ha _ _ _ y0), hc _ _ _ (ha _ _ _ y1), hc _ _ _ (ha _ _ _ y2), hc _ _ _ (ha _ _ _ y3)⟩
              by_cases hxy : x = y
              · have HC2 : Hid (∀ w, Tre w P (.agg #[.int .i64 xk, .int .i64 xn, .string xs, .slice ka xl kc]) x → Tre w Q (.agg #[.int .i64 yk, .int .i64 yn, .string ys, .slice ka' yl kc']) y → Calls Try.prog 55 #[.agg #[.int .i64 xk, .int .i64 xn, .string xs, .slice ka xl kc], .agg #[.int .i64 yk, .int .i64 yn, .string ys, .slice ka' yl kc']] w fun e w' => e = .returned (.bool true) ∧ Below w.heap.size w w') := fun w h1 h2 => (HC.out w h1 h2).mono fun e w' h => ⟨h.1.of_yes hxy, h.2⟩
                have HQ2 : Hid (∀ j, j < i + 1 → ks1.getD j zeroT = ks2.getD j zeroT) := HQ.out hxy
                clear HC HQ HNo hxy
                go_wp2_with fail
                go_region_held3 (fun w' => w'.cell? ⟨wr.heap.size, 0, none⟩ = some (.int .i64 xk) ∧ w'.cell? ⟨wr.heap.size, 1, none⟩ = some (.int .i64 xn) ∧ w'.cell? ⟨wr.heap.size, 2, none⟩ = some (.string xs) ∧ w'.cell? ⟨wr.heap.size, 3, none⟩ = some (.slice ka xl kc) ∧ w'.cell? ⟨w.heap.size + 1, 3, none⟩ = some (.slice (some ⟨b', o', none⟩) ks1.length c2) ∧ w'.cell? ⟨b', o' + i * 4, none⟩ = some (.int .i64 yk) ∧ w'.cell? ⟨b', o' + i * 4 + 1, none⟩ = some (.int .i64 yn) ∧ w'.cell? ⟨b', o' + i * 4 + 2, none⟩ = some (.string ys) ∧ w'.cell? ⟨b', o' + i * 4 + 3, none⟩ = some (.slice ka' yl kc')) (go_keep) (first
                  | (go_at_call 55; refine (HC2.out _ ((HTA.out.alloc _).drawn) ((HTB.out.alloc _).drawn)).mono ?_; rintro e w4 ⟨rfl, HB⟩; have HB3 : Hid (Below w1.heap.size w1 w4) := (Below.drew (HBr.out.alloc HBr.out.size _)).trans (HB.mono (Nat.le_trans HBr.out.size (le_alloc _ _))); obtain ⟨z0, z1, z2, z3, z4, z5, z6, z7, z8⟩ := HX.out _ HB; clear HB))
                go_wp2_with fail
                go_roundw
                case rel => exact ⟨i + 1, by omega, by go_num, HB3.out, HQ2.out⟩
                case measure => simp [intOf]; omega
              · have HC2 : Hid (∀ w, Tre w P (.agg #[.int .i64 xk, .int .i64 xn, .string xs, .slice ka xl kc]) x → Tre w Q (.agg #[.int .i64 yk, .int .i64 yn, .string ys, .slice ka' yl kc']) y → Calls Try.prog 55 #[.agg #[.int .i64 xk, .int .i64 xn, .string xs, .slice ka xl kc], .agg #[.int .i64 yk, .int .i64 yn, .string ys, .slice ka' yl kc']] w fun e w' => e = .returned (.bool false) ∧ Below w.heap.size w w') := fun w h1 h2 => (HC.out w h1 h2).mono fun e w' h => ⟨h.1.of_no hxy, h.2⟩
                have HQ2 : Hid (SameP ⟨k1, n1, m1, ks1⟩ ⟨k1, n1, m1, ks2⟩ (.returned (.bool false))) := SameP.no (HNo.out hxy)
                clear HC HQ HNo hxy
                go_wp2_with fail
                go_region_held3 (fun w' => w'.cell? ⟨wr.heap.size, 0, none⟩ = some (.int .i64 xk) ∧ w'.cell? ⟨wr.heap.size, 1, none⟩ = some (.int .i64 xn) ∧ w'.cell? ⟨wr.heap.size, 2, none⟩ = some (.string xs) ∧ w'.cell? ⟨wr.heap.size, 3, none⟩ = some (.slice ka xl kc) ∧ w'.cell? ⟨w.heap.size + 1, 3, none⟩ = some (.slice (some ⟨b', o', none⟩) ks1.length c2) ∧ w'.cell? ⟨b', o' + i * 4, none⟩ = some (.int .i64 yk) ∧ w'.cell? ⟨b', o' + i * 4 + 1, none⟩ = some (.int .i64 yn) ∧ w'.cell? ⟨b', o' + i * 4 + 2, none⟩ = some (.string ys) ∧ w'.cell? ⟨b', o' + i * 4 + 3, none⟩ = some (.slice ka' yl kc')) (go_keep) (first
                  | (go_at_call 55; refine (HC2.out _ ((HTA.out.alloc _).drawn) ((HTB.out.alloc _).drawn)).mono ?_; rintro e w4 ⟨rfl, HB⟩; have HB3 : Hid (Below w1.heap.size w1 w4) := (Below.drew (HBr.out.alloc HBr.out.size _)).trans (HB.mono (Nat.le_trans HBr.out.size (le_alloc _ _))); obtain ⟨z0, z1, z2, z3, z4, z5, z6, z7, z8⟩ := HX.out _ HB; clear HB))
                go_wp2_with fail
                go_ret
                exact ⟨HQ2.out, HB0.out.1.trans (HB3.out.mono HB0.out.1.size)⟩
            · have he : i = ks1.length := by omega
              subst he
              have HE2 : Hid (SameP ⟨k1, n1, m1, ks1⟩ ⟨k1, n1, m1, ks2⟩ (.returned (.bool true))) := SameP.yes (HE.out HR.out.2)
              have HB3 : Hid (Below w.heap.size w wr) := HB0.out.1.trans (HR.out.1.mono HB0.out.1.size)
              clear HR HE HN
              go_wp2_with fail
              go_ret
              exact ⟨HE2.out, HB3.out⟩
        · have HE : Hid (¬ (⟨k1, n1, m1, ks1⟩ : Tr) = ⟨k2, n2, m2, ks2⟩) := fun h => e4 (by rw [Tr.mk.injEq] at h; rw [h.2.2.2])
          have g4 : ((ks1.length : Int) == (ks2.length : Int)) = false := by simp; omega
          subst e1; subst e2; subst e3
          generalize ba m1 = s1 at *
          clear HK1 HK2 HI e4
          generalize ks1.length = l1 at *
          generalize ks2.length = l2 at *
          go_enter Try.func55, Try.ntmps55
          go_wp2_with fail
          go_ret
          exact ⟨SameP.no HE.out, ((Below.refl _ _).alloc (Nat.le_refl _) _).alloc (le_alloc _ _) _⟩
      · have HE : Hid (¬ (⟨k1, n1, m1, ks1⟩ : Tr) = ⟨k2, n2, m2, ks2⟩) := fun h => e3 (by rw [Tr.mk.injEq] at h; exact h.2.2.1)
        have g3 : ((ba m1).toList == (ba m2).toList) = false := toList_ne e3
        subst e1; subst e2
        clear HK1 HK2 HI e3
        generalize ba m1 = s1 at *
        generalize ba m2 = s2 at *
        generalize ks1.length = l1 at *
        generalize ks2.length = l2 at *
        go_enter Try.func55, Try.ntmps55
        go_wp2_with fail
        go_ret
        exact ⟨SameP.no HE.out, ((Below.refl _ _).alloc (Nat.le_refl _) _).alloc (le_alloc _ _) _⟩
    · have HE : Hid (¬ (⟨k1, n1, m1, ks1⟩ : Tr) = ⟨k2, n2, m2, ks2⟩) := fun h => e2 (by rw [Tr.mk.injEq] at h; exact h.2.1)
      subst e1
      clear HK1 HK2 HI
      generalize ba m1 = s1 at *
      generalize ba m2 = s2 at *
      generalize ks1.length = l1 at *
      generalize ks2.length = l2 at *
      have g2 : (n1 == n2) = false := by simpa using e2
      go_enter Try.func55, Try.ntmps55
      go_wp2_with fail
      go_ret
      exact ⟨SameP.no HE.out, ((Below.refl _ _).alloc (Nat.le_refl _) _).alloc (le_alloc _ _) _⟩
  · have HE : Hid (¬ (⟨k1, n1, m1, ks1⟩ : Tr) = ⟨k2, n2, m2, ks2⟩) := fun h => e1 (by rw [Tr.mk.injEq] at h; exact h.1)
    clear HK1 HK2 HI
    generalize ba m1 = s1 at *
    generalize ba m2 = s2 at *
    generalize ks1.length = l1 at *
    generalize ks2.length = l2 at *
    have g1 : (k1 == k2) = false := by simpa using e1
    go_enter Try.func55, Try.ntmps55
    go_wp2_with fail
    go_ret
    exact ⟨SameP.no HE.out, ((Below.refl _ _).alloc (Nat.le_refl _) _).alloc (le_alloc _ _) _⟩
theorem same_any (t : Tr) : Tells 55 t := Tr.ind same_step t
end Go.Proofs.Ytjafjheffbbkmaa
