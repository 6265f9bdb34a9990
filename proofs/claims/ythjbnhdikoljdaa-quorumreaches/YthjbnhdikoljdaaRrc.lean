/-
  Layer 14: the document's Reached.
-/
import Derived.Test.YthjbnhdikoljdaaSma
namespace Go.Proofs.Ythjbnhdikoljdaa
open Go.RowKit
set_option linter.unusedVariables false

set_option maxRecDepth 100000 in
set_option maxHeartbeats 800000 in
theorem RReached_any (l : List Int) (a : Option Addr) (c : Nat) (x : Int) (w : World) (hl : IlV w a c l) (hx : Rch l x) (h3 : l.length ≤ 1000000) : Calls Try.prog 14 #[.slice a l.length c] w fun e w' => e = .returned (.int .i64 x) ∧ Below w.heap.size w w' := by
  have hc1 := hl.cap1
  have hc2 := hl.cap2
  have HC : Hid (∀ wx i, Below w.heap.size w wx → i < l.length → ∃ b o, a = some ⟨b, o, none⟩ ∧ wx.cell? ⟨b, o + i, none⟩ = some (.int .i64 (l.getD i 0)) ∧ InR (l.getD i 0)) := fun wx i hb hi => by
    obtain ⟨b, o, q1, q2, _⟩ := (hl.below hb).at_ hi
    exact ⟨b, o, q1, q2, hl.inr i hi⟩
  have HI : Hid (InR (l.length : Nat)) := ⟨by omega, by omega⟩
  have HX : Hid (∀ i best found, Fnd l i best found → l.length ≤ i → best = x) := fun i best found q1 q2 => q1.done q2 hx
  obtain ⟨M, hM⟩ : ∃ M : Nat, enM ((l.length : Nat) : Int) = (M : Nat) ∧ ∀ m, (M ≤ m ↔ l.length < 2 * m) ∨ l.length = 0 := by
    by_cases h0 : l.length = 0
    · exact ⟨0, by rw [enM_low (by omega)]; rfl, fun m => .inr h0⟩
    · exact ⟨l.length / 2 + 1, by rw [enM_pos (by omega)]; omega, fun m => .inl (by omega)⟩
  have HM : Hid (enM ((l.length : Nat) : Int) = (M : Nat)) := hM.1
  have HM2 : Hid (∀ i m, i < l.length → (M ≤ m ↔ l.length < 2 * m)) := fun i m hi => by rcases hM.2 m with q | q; exact q; omega
  have HTk : Hid (∀ i k, l.length ≤ k → cge (l.getD i 0) (l.take k) = cge (l.getD i 0) l) := fun i k hk => by rw [List.take_of_length_le hk]
  have HY : Hid (∀ i k, k < l.length → l.getD i 0 ≤ l.getD k 0 → cge (l.getD i 0) (l.take (k + 1)) = cge (l.getD i 0) (l.take k) + 1) := fun i k hk q => cge_yes hk q
  have HN : Hid (∀ i k, k < l.length → l.getD k 0 < l.getD i 0 → cge (l.getD i 0) (l.take (k + 1)) = cge (l.getD i 0) (l.take k)) := fun i k hk q => cge_no hk (by omega)
  have HT : Hid (∀ i best found, Fnd l i best found → i < l.length → l.length < 2 * cge (l.getD i 0) l → (found = false ∨ best < l.getD i 0) → Fnd l (i + 1) (l.getD i 0) true) := fun i best found q1 q2 q3 q4 => q1.take q2 q3 q4
  have HP : Hid (∀ i best found, Fnd l i best found → (l.length < 2 * cge (l.getD i 0) l → found = true ∧ l.getD i 0 ≤ best) → Fnd l (i + 1) best found) := fun i best found q1 q2 => q1.pass q2
  clear hl hx hM
  generalize hn : l.length = n at *
  clear hn
  go_enter Try.func14, Try.ntmps14
  go_wp2
  go_loopw [3, 4, 5] (fun x1 x2 x3 wr => ∃ (i : Nat) (best : Int) (found : Bool), i ≤ n ∧ x1 = .int .i64 best ∧ x2 = .bool found ∧ x3 = .int .i64 i ∧ Hid (Below w.heap.size w wr ∧ Fnd l i best found)) (fun _ _ y _ => n - (intOf y).toNat)
  case atStart => exact ⟨0, 0, false, Nat.zero_le _, rfl, rfl, rfl, Below.refl _ _, fnd_start l⟩
  case round =>
    obtain ⟨i, best, found, hi, rfl, rfl, rfl, HR⟩ := hrel
    by_cases hlt : i < n
    · obtain ⟨b, o, rfl, _, _⟩ := HC.out wr i HR.out.1 hlt
      have HF : Hid (Fnd l i best found) := HR.out.2
      have HB : Hid (Below w.heap.size w wr) := HR.out.1
      go_wp2
      go_loopw [6, 7] (fun x1 x2 wq => ∃ (k m : Nat), k ≤ n ∧ x1 = .int .i64 (m : Nat) ∧ x2 = .int .i64 k ∧ m ≤ k ∧ Hid (Below w.heap.size w wq ∧ m = cge (l.getD i 0) (l.take k))) (fun _ y _ => n - (intOf y).toNat)
      case atStart => exact ⟨0, 0, Nat.zero_le _, rfl, rfl, Nat.le_refl _, HB.out, by simp [cge]⟩
      case round =>
        obtain ⟨k, m, hk, rfl, rfl, hm, HK⟩ := hrel
        have HB2 : Hid (Below w.heap.size w wr) := HK.out.1
        by_cases hlt2 : k < n
        · obtain ⟨b1, o1, e1, y1, r1, s1⟩ := HC.out wr k HK.out.1 hlt2
          simp only [Option.some.injEq, Addr.mk.injEq, and_true] at e1
          obtain ⟨rfl, rfl⟩ := e1
          obtain ⟨b1, o1, e1, y2, r2, s2⟩ := HC.out wr i HK.out.1 hlt
          simp only [Option.some.injEq, Addr.mk.injEq, and_true] at e1
          obtain ⟨rfl, rfl⟩ := e1
          by_cases hge : l.getD i 0 ≤ l.getD k 0
          · have HS : Hid (m + 1 = cge (l.getD i 0) (l.take (k + 1))) := by
              show m + 1 = _
              rw [HY.out i k hlt2 hge, ← HK.out.2]
            clear HC HX HM HM2 HTk HY HN HT HP HR HF HK HB
            generalize l.getD i 0 = yi at *
            generalize l.getD k 0 = yk at *
            go_wp2
            go_quiet (fail)
            go_wp2
            go_roundw
            case rel => exact ⟨k + 1, m + 1, by omega, by go_num, by go_num, by omega, below_drewN HB2.out _, HS.out⟩
            case measure => simp [intOf]; omega
          · have HS : Hid (m = cge (l.getD i 0) (l.take (k + 1))) := by
              show m = _
              rw [HN.out i k hlt2 (by omega), ← HK.out.2]
            clear HC HX HM HM2 HTk HY HN HT HP HR HF HK HB
            generalize l.getD i 0 = yi at *
            generalize l.getD k 0 = yk at *
            go_wp2
            go_quiet (fail)
            go_wp2
            go_roundw
            case rel => exact ⟨k + 1, m, by omega, rfl, by go_num, by omega, below_drewN HB2.out _, HS.out⟩
            case measure => simp [intOf]; omega
        · obtain ⟨b1, o1, e1, y2, r2, s2⟩ := HC.out wr i HK.out.1 hlt
          simp only [Option.some.injEq, Addr.mk.injEq, and_true] at e1
          obtain ⟨rfl, rfl⟩ := e1
          have Hm : Hid (m = cge (l.getD i 0) l) := by
            have := HK.out.2
            rw [HTk.out i k (by omega)] at this
            exact this
          by_cases hok : M ≤ m
          · have Hok : Hid (n < 2 * cge (l.getD i 0) l) := by
              have := (HM2.out i m hlt).1 hok
              rw [Hm.out] at this
              exact this
            by_cases hf : found = false ∨ best < l.getD i 0
            · have HS : Hid (Fnd l (i + 1) (l.getD i 0) true) := HT.out i best found HF.out hlt Hok.out hf
              clear HC HX HM2 HTk HY HN HT HP HR HF HK HB Hm Hok
              generalize l.getD i 0 = yi at *
              cases found with
              | false =>
                go_wp2_with (go_at_call 10; refine (REnough_any _ _ HI.out).mono ?_; rintro e w' ⟨rfl, rfl⟩; rw [HM.out])
                go_roundw
                case rel => exact ⟨i + 1, yi, true, by omega, rfl, rfl, by go_num, HB2.out, HS.out⟩
                case measure => simp [intOf]; omega
              | true =>
                have hf2 : best < yi := by rcases hf with q | q; cases q; exact q
                clear hf
                go_wp2_with (go_at_call 10; refine (REnough_any _ _ HI.out).mono ?_; rintro e w' ⟨rfl, rfl⟩; rw [HM.out])
                go_roundw
                case rel => exact ⟨i + 1, yi, true, by omega, rfl, rfl, by go_num, HB2.out, HS.out⟩
                case measure => simp [intOf]; omega
            · have hf1 : found = true := by cases found; exact absurd (.inl rfl) hf; rfl
              have hf2 : ¬ best < l.getD i 0 := fun q => hf (.inr q)
              have HS : Hid (Fnd l (i + 1) best found) := HP.out i best found HF.out fun _ => ⟨hf1, by omega⟩
              clear HC HX HM2 HTk HY HN HT HP HR HF HK HB Hm Hok hf
              generalize l.getD i 0 = yi at *
              subst hf1
              go_wp2_with (go_at_call 10; refine (REnough_any _ _ HI.out).mono ?_; rintro e w' ⟨rfl, rfl⟩; rw [HM.out])
              go_roundw
              case rel => exact ⟨i + 1, best, true, by omega, rfl, rfl, by go_num, HB2.out, HS.out⟩
              case measure => simp [intOf]; omega
          · have HS : Hid (Fnd l (i + 1) best found) := HP.out i best found HF.out fun q => absurd ((HM2.out i m hlt).2 (by rw [Hm.out]; exact q)) hok
            clear HC HX HM2 HTk HY HN HT HP HR HF HK HB Hm
            generalize l.getD i 0 = yi at *
            go_wp2_with (go_at_call 10; refine (REnough_any _ _ HI.out).mono ?_; rintro e w' ⟨rfl, rfl⟩; rw [HM.out])
            go_roundw
            case rel => exact ⟨i + 1, best, found, by omega, rfl, rfl, by go_num, HB2.out, HS.out⟩
            case measure => simp [intOf]; omega
    · have HE : Hid (best = x) := HX.out i best found HR.out.2 (by omega)
      have HB : Hid (Below w.heap.size w wr) := HR.out.1
      clear HC HX HM HM2 HTk HY HN HT HP HR
      go_wp2
      go_ret
      exact ⟨by rw [← HE.out]; rfl, HB.out⟩
end Go.Proofs.Ythjbnhdikoljdaa
