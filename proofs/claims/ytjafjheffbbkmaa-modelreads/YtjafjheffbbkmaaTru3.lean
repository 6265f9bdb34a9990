/-
  What a tree comes to: contracts (the document's).
-/
import Derived.Test.YtjafjheffbbkmaaTru2
namespace Go.Proofs.Ytjafjheffbbkmaa
open Go.RowKit
set_option linter.unusedVariables false


theorem all_at {f : Tr → Bool} {r : List Tr} (h : ∀ j, j < r.length → f (r.getD j zeroT) = true) : r.all f = true := by
  rw [List.all_eq_true]
  intro x hx
  obtain ⟨j, hj, e⟩ := List.getElem_of_mem hx
  have := h j hj
  rw [List.getD_eq_getElem?_getD, List.getElem?_eq_getElem hj] at this
  simpa only [Option.getD_some, e] using this
theorem not_all_at {f : Tr → Bool} {r : List Tr} {j : Nat} (hj : j < r.length) (h : f (r.getD j zeroT) = false) : r.all f = false := by
  rw [List.all_eq_false]
  refine ⟨r[j], List.getElem_mem hj, ?_⟩
  rw [List.getD_eq_getElem?_getD, List.getElem?_eq_getElem hj] at h
  simpa using h
def Typed (d : Nat) : Prop := ∀ (P : Nat → Prop) (t : Tr) (v : Value) (w : World), checkM d t = 0 → Tre w P v t →
  Calls Try.prog 104 #[v] w fun e w' => e = .returned (.bool (tyM d t)) ∧ Below w.heap.size w w'
theorem typed_zero : Typed 0 := fun P t v w h => by cases h
set_option maxRecDepth 100000 in
set_option maxHeartbeats 1600000 in
theorem typed_succ (d : Nat) (ih : Typed d) : Typed (d + 1) := by
  intro P t v w hck hT
  obtain ⟨a, cap, rfl, hcap, hk, hn, hnm, hlen, hkids⟩ := hT.opened
  have hkd := (check_fits hck).2
  have HE : Hid (tyM (d + 1) t = t.kids.all fun x => tyM d x && fitK t x) := rfl
  have HI : Hid (∀ (y : Tr) (v : Value) (w : World), checkM d y = 0 → Tre w P v y → Calls Try.prog 104 #[v] w fun e w' => e = .returned (.bool (tyM d y)) ∧ Below w.heap.size w w') := fun y v w h1 h2 => ih P y v w h1 h2
  have HK : Hid (∀ i, i < t.kids.length → ∃ b o ka kc, KidAt w P a i (t.kids.getD i zeroT) b o ka kc) := hkids
  have HD : Hid (∀ y ∈ t.kids, checkM d y = 0) := hkd
  have HF : Hid (∀ x, fitK t x = if t.kind = 11 then truthK x.kind == truthK (t.kids.getD 0 zeroT).kind else truthK x.kind == wantT t.kind) := fun x => rfl
  have HTk : Hid (∀ (k : Int) w, Calls Try.prog 105 #[.int .i64 k] w fun e w' => e = .returned (.bool (truthK k)) ∧ w' = w) := truthK_any
  generalize fitK t = fit at *
  generalize tyM (d + 1) t = res at *
  clear hkids hT ih hk hn hnm hck hkd
  generalize t.n = tn at *
  generalize ba t.name = ts at *
  generalize t.kind = tk at *
  generalize t.kids = ks at *
  go_enter Try.func104, Try.ntmps104
  go_wp2_with fail
  have HB0 : Hid (Below w.heap.size w (w.alloc (.cells #[.int .i64 tk, .int .i64 tn, .string ts, .slice a ks.length cap] 31)) ∧ Cell4 (w.alloc (.cells #[.int .i64 tk, .int .i64 tn, .string ts, .slice a ks.length cap] 31)) w.heap.size (.int .i64 tk) (.int .i64 tn) (.string ts) (.slice a ks.length cap)) := ⟨(Below.refl _ _).alloc (Nat.le_refl _) _, Cell4.new _ _ _ _ _ 31⟩
  generalize w.alloc (.cells #[.int .i64 tk, .int .i64 tn, .string ts, .slice a ks.length cap] 31) = w1 at *
  go_loopw [3] (fun v wr => ∃ (i : Nat), i ≤ ks.length ∧ v = .int .i64 i ∧ Hid (Below w.heap.size w wr ∧ Cell4 wr w.heap.size (.int .i64 tk) (.int .i64 tn) (.string ts) (.slice a ks.length cap) ∧ ∀ j, j < i → (tyM d (ks.getD j zeroT) && fit (ks.getD j zeroT)) = true)) (fun v _ => ks.length - (intOf v).toNat)
  case atStart => exact ⟨0, Nat.zero_le _, rfl, HB0.out.1, HB0.out.2, fun j hj => absurd hj (by omega)⟩
  case round =>
    obtain ⟨i, hi, rfl, HR⟩ := hrel
    obtain ⟨q0, q1, q2, q3, q4⟩ := HR.out.2.1
    have hwl : w.heap.size < wr.heap.size := World.block_lt_of_cell? _ _ q0
    by_cases hlt : i < ks.length
    · obtain ⟨b, o, ka, kc, hKA⟩ := HK.out i hlt
      have HKA : Hid (KidAt wr P a i (ks.getD i zeroT) b o ka kc) := hKA.below HR.out.1
      obtain ⟨rfl, m0, m1, m2, m3, hkt⟩ := HKA.out
      have hbl : b < wr.heap.size := World.block_lt_of_cell? wr _ m0
      obtain ⟨b0, o0, ka0, kc0, hKB⟩ := HK.out 0 (by omega)
      have HKB : Hid (KidAt wr P (some ⟨b, o, none⟩) 0 (ks.getD 0 zeroT) b0 o0 ka0 kc0) := hKB.below HR.out.1
      have e := HKB.out.ad
      simp only [Option.some.injEq, Addr.mk.injEq, and_true] at e
      obtain ⟨rfl, rfl⟩ := e
      have z0 := HKB.out.c0
      simp only [Nat.zero_mul, Nat.add_zero] at z0
      have HY0 : Hid (checkM d (ks.getD i zeroT) = 0) := HD.out _ (by rw [List.getD_eq_getElem?_getD, List.getElem?_eq_getElem hlt]; exact List.getElem_mem hlt)
      have HKT : Hid (Tre wr P (.agg #[.int .i64 (ks.getD i zeroT).kind, .int .i64 (ks.getD i zeroT).n, .string (ba (ks.getD i zeroT).name), .slice ka (ks.getD i zeroT).kids.length kc]) (ks.getD i zeroT)) := hkt
      have HC : Hid (∀ w, Tre w P (.agg #[.int .i64 (ks.getD i zeroT).kind, .int .i64 (ks.getD i zeroT).n, .string (ba (ks.getD i zeroT).name), .slice ka (ks.getD i zeroT).kids.length kc]) (ks.getD i zeroT) → Calls Try.prog 104 #[.agg #[.int .i64 (ks.getD i zeroT).kind, .int .i64 (ks.getD i zeroT).n, .string (ba (ks.getD i zeroT).name), .slice ka (ks.getD i zeroT).kids.length kc]] w fun e w' => e = .returned (.bool (tyM d (ks.getD i zeroT))) ∧ Below w.heap.size w w') := fun w h => HI.out _ _ w HY0.out h
      have HW : Hid (Below w.heap.size w wr) := HR.out.1
      have HLo : Hid (Cell4 wr w.heap.size (.int .i64 tk) (.int .i64 tn) (.string ts) (.slice (some ⟨b, o, none⟩) ks.length cap) ∧ Cell4 wr w.heap.size (.int .i64 tk) (.int .i64 tn) (.string ts) (.slice (some ⟨b, o, none⟩) ks.length cap)) := ⟨HR.out.2.1, HR.out.2.1⟩
      have HYes : Hid ((tyM d (ks.getD i zeroT) && fit (ks.getD i zeroT)) = true → ∀ j, j < i + 1 → (tyM d (ks.getD j zeroT) && fit (ks.getD j zeroT)) = true) := fun h j hj => by
        rcases Nat.lt_succ_iff_lt_or_eq.1 hj with h2 | h2
        · exact HR.out.2.2 j h2
        · rw [h2]; exact h
      have HNo : Hid ((tyM d (ks.getD i zeroT) && fit (ks.getD i zeroT)) = false → res = false) := fun h => by rw [HE.out]; exact not_all_at (f := fun x => tyM d x && fit x) hlt h
      rw [HF.out (ks.getD i zeroT)] at HYes HNo
      have HM1 : Hid (wr.cell? ⟨b, o + i * 4, none⟩ = some (.int .i64 (ks.getD i zeroT).kind) ∧ wr.cell? ⟨b, o, none⟩ = some (.int .i64 (ks.getD 0 zeroT).kind)) := ⟨m0, z0⟩
      clear hkt hKA hKB HKA HKB HF
      clear HK HD HI
      generalize hty : tyM d (ks.getD i zeroT) = ty at *
      generalize (ks.getD i zeroT).kind = yk at *
      generalize (ks.getD i zeroT).n = yn at *
      generalize ba (ks.getD i zeroT).name = ys at *
      generalize (ks.getD i zeroT).kids.length = yl at *
      generalize ks.getD i zeroT = y at *
      generalize (ks.getD 0 zeroT).kind = zk at *
      cases ty with
      | false =>
        go_wp2_with (go_at_call 104; refine (HC.out _ HKT.out).mono ?_; rintro e w3 ⟨rfl, HB⟩; have HB3 : Hid (Below w.heap.size w w3) := HW.out.trans (HB.mono HW.out.size); obtain ⟨q0, q1, q2, q3, q4⟩ := HLo.out.1.below HB; have m0 := (HB.cell (p := ⟨b, o + i * 4, none⟩) hbl).trans HM1.out.1; have z0 := (HB.cell (p := ⟨b, o, none⟩) hbl).trans HM1.out.2; have hbl3 := Nat.lt_of_lt_of_le hbl HB.size; have hwl3 := Nat.lt_of_lt_of_le hwl HB.size; clear HB)
        go_ret
        exact ⟨by rw [HNo.out rfl]; rfl, HB3.out⟩
      | true =>
        by_cases h11 : tk = 11
        · rw [if_pos h11] at HYes HNo
          subst h11
          generalize hx1 : truthK yk = tx at *
          generalize hx2 : truthK zk = t0 at *
          have HT1 : Hid (∀ w, Calls Try.prog 105 #[.int .i64 yk] w fun e w' => e = .returned (.bool tx) ∧ w' = w) := fun w => by have := HTk.out yk w; rw [hx1] at this; exact this
          have HT2 : Hid (∀ w, Calls Try.prog 105 #[.int .i64 zk] w fun e w' => e = .returned (.bool t0) ∧ w' = w) := fun w => by have := HTk.out zk w; rw [hx2] at this; exact this
          clear HTk
          cases tx with
          | false =>
            cases t0 with
            | false =>
              go_wp2_with (first
                | (go_at_call 105; have := HS1; refine (HT2.out _).mono ?_; rintro e w3 ⟨rfl, rfl⟩)
                | (go_at_call 105; have := HB3; refine (HT1.out _).mono ?_; rintro e w3 ⟨rfl, rfl⟩; have HS1 : Hid True := trivial)
                | (go_at_call 104; refine (HC.out _ HKT.out).mono ?_; rintro e w3 ⟨rfl, HB⟩; have HB3 : Hid (Below w.heap.size w w3) := HW.out.trans (HB.mono HW.out.size); obtain ⟨q0, q1, q2, q3, q4⟩ := HLo.out.1.below HB; have m0 := (HB.cell (p := ⟨b, o + i * 4, none⟩) hbl).trans HM1.out.1; have z0 := (HB.cell (p := ⟨b, o, none⟩) hbl).trans HM1.out.2; have hbl3 := Nat.lt_of_lt_of_le hbl HB.size; have hwl3 := Nat.lt_of_lt_of_le hwl HB.size; clear HB))
              go_roundw
              case rel => exact ⟨i + 1, by omega, by go_num, HB3.out, ⟨q0, q1, q2, q3, q4⟩, HYes.out rfl⟩
              case measure => simp [intOf]; omega
            | true =>
              go_wp2_with (first
                | (go_at_call 105; have := HS1; refine (HT2.out _).mono ?_; rintro e w3 ⟨rfl, rfl⟩)
                | (go_at_call 105; have := HB3; refine (HT1.out _).mono ?_; rintro e w3 ⟨rfl, rfl⟩; have HS1 : Hid True := trivial)
                | (go_at_call 104; refine (HC.out _ HKT.out).mono ?_; rintro e w3 ⟨rfl, HB⟩; have HB3 : Hid (Below w.heap.size w w3) := HW.out.trans (HB.mono HW.out.size); obtain ⟨q0, q1, q2, q3, q4⟩ := HLo.out.1.below HB; have m0 := (HB.cell (p := ⟨b, o + i * 4, none⟩) hbl).trans HM1.out.1; have z0 := (HB.cell (p := ⟨b, o, none⟩) hbl).trans HM1.out.2; have hbl3 := Nat.lt_of_lt_of_le hbl HB.size; have hwl3 := Nat.lt_of_lt_of_le hwl HB.size; clear HB))
              go_ret
              exact ⟨by rw [HNo.out rfl]; rfl, HB3.out⟩
          | true =>
            cases t0 with
            | false =>
              go_wp2_with (first
                | (go_at_call 105; have := HS1; refine (HT2.out _).mono ?_; rintro e w3 ⟨rfl, rfl⟩)
                | (go_at_call 105; have := HB3; refine (HT1.out _).mono ?_; rintro e w3 ⟨rfl, rfl⟩; have HS1 : Hid True := trivial)
                | (go_at_call 104; refine (HC.out _ HKT.out).mono ?_; rintro e w3 ⟨rfl, HB⟩; have HB3 : Hid (Below w.heap.size w w3) := HW.out.trans (HB.mono HW.out.size); obtain ⟨q0, q1, q2, q3, q4⟩ := HLo.out.1.below HB; have m0 := (HB.cell (p := ⟨b, o + i * 4, none⟩) hbl).trans HM1.out.1; have z0 := (HB.cell (p := ⟨b, o, none⟩) hbl).trans HM1.out.2; have hbl3 := Nat.lt_of_lt_of_le hbl HB.size; have hwl3 := Nat.lt_of_lt_of_le hwl HB.size; clear HB))
              go_ret
              exact ⟨by rw [HNo.out rfl]; rfl, HB3.out⟩
            | true =>
              go_wp2_with (first
                | (go_at_call 105; have := HS1; refine (HT2.out _).mono ?_; rintro e w3 ⟨rfl, rfl⟩)
                | (go_at_call 105; have := HB3; refine (HT1.out _).mono ?_; rintro e w3 ⟨rfl, rfl⟩; have HS1 : Hid True := trivial)
                | (go_at_call 104; refine (HC.out _ HKT.out).mono ?_; rintro e w3 ⟨rfl, HB⟩; have HB3 : Hid (Below w.heap.size w w3) := HW.out.trans (HB.mono HW.out.size); obtain ⟨q0, q1, q2, q3, q4⟩ := HLo.out.1.below HB; have m0 := (HB.cell (p := ⟨b, o + i * 4, none⟩) hbl).trans HM1.out.1; have z0 := (HB.cell (p := ⟨b, o, none⟩) hbl).trans HM1.out.2; have hbl3 := Nat.lt_of_lt_of_le hbl HB.size; have hwl3 := Nat.lt_of_lt_of_le hwl HB.size; clear HB))
              go_roundw
              case rel => exact ⟨i + 1, by omega, by go_num, HB3.out, ⟨q0, q1, q2, q3, q4⟩, HYes.out rfl⟩
              case measure => simp [intOf]; omega
        · rw [if_neg h11] at HYes HNo
          generalize hx1 : truthK yk = tx at *
          have HT1 : Hid (∀ w, Calls Try.prog 105 #[.int .i64 yk] w fun e w' => e = .returned (.bool tx) ∧ w' = w) := fun w => by have := HTk.out yk w; rw [hx1] at this; exact this
          clear HTk
          by_cases h6 : tk = 6
          · subst h6
            cases tx with
            | false =>
              go_wp2_with (first
                | (go_at_call 105; have := HB3; refine (HT1.out _).mono ?_; rintro e w3 ⟨rfl, rfl⟩)
                | (go_at_call 104; refine (HC.out _ HKT.out).mono ?_; rintro e w3 ⟨rfl, HB⟩; have HB3 : Hid (Below w.heap.size w w3) := HW.out.trans (HB.mono HW.out.size); obtain ⟨q0, q1, q2, q3, q4⟩ := HLo.out.1.below HB; have m0 := (HB.cell (p := ⟨b, o + i * 4, none⟩) hbl).trans HM1.out.1; have z0 := (HB.cell (p := ⟨b, o, none⟩) hbl).trans HM1.out.2; have hbl3 := Nat.lt_of_lt_of_le hbl HB.size; have hwl3 := Nat.lt_of_lt_of_le hwl HB.size; clear HB))
              go_ret
              exact ⟨by rw [HNo.out rfl]; rfl, HB3.out⟩
            | true =>
              go_wp2_with (first
                | (go_at_call 105; have := HB3; refine (HT1.out _).mono ?_; rintro e w3 ⟨rfl, rfl⟩)
                | (go_at_call 104; refine (HC.out _ HKT.out).mono ?_; rintro e w3 ⟨rfl, HB⟩; have HB3 : Hid (Below w.heap.size w w3) := HW.out.trans (HB.mono HW.out.size); obtain ⟨q0, q1, q2, q3, q4⟩ := HLo.out.1.below HB; have m0 := (HB.cell (p := ⟨b, o + i * 4, none⟩) hbl).trans HM1.out.1; have z0 := (HB.cell (p := ⟨b, o, none⟩) hbl).trans HM1.out.2; have hbl3 := Nat.lt_of_lt_of_le hbl HB.size; have hwl3 := Nat.lt_of_lt_of_le hwl HB.size; clear HB))
              go_roundw
              case rel => exact ⟨i + 1, by omega, by go_num, HB3.out, ⟨q0, q1, q2, q3, q4⟩, HYes.out rfl⟩
              case measure => simp [intOf]; omega
          · by_cases h13 : tk = 13
            · subst h13
              cases tx with
              | false =>
                go_wp2_with (first
                  | (go_at_call 105; have := HB3; refine (HT1.out _).mono ?_; rintro e w3 ⟨rfl, rfl⟩)
                  | (go_at_call 104; refine (HC.out _ HKT.out).mono ?_; rintro e w3 ⟨rfl, HB⟩; have HB3 : Hid (Below w.heap.size w w3) := HW.out.trans (HB.mono HW.out.size); obtain ⟨q0, q1, q2, q3, q4⟩ := HLo.out.1.below HB; have m0 := (HB.cell (p := ⟨b, o + i * 4, none⟩) hbl).trans HM1.out.1; have z0 := (HB.cell (p := ⟨b, o, none⟩) hbl).trans HM1.out.2; have hbl3 := Nat.lt_of_lt_of_le hbl HB.size; have hwl3 := Nat.lt_of_lt_of_le hwl HB.size; clear HB))
                go_ret
                exact ⟨by rw [HNo.out rfl]; rfl, HB3.out⟩
              | true =>
                go_wp2_with (first
                  | (go_at_call 105; have := HB3; refine (HT1.out _).mono ?_; rintro e w3 ⟨rfl, rfl⟩)
                  | (go_at_call 104; refine (HC.out _ HKT.out).mono ?_; rintro e w3 ⟨rfl, HB⟩; have HB3 : Hid (Below w.heap.size w w3) := HW.out.trans (HB.mono HW.out.size); obtain ⟨q0, q1, q2, q3, q4⟩ := HLo.out.1.below HB; have m0 := (HB.cell (p := ⟨b, o + i * 4, none⟩) hbl).trans HM1.out.1; have z0 := (HB.cell (p := ⟨b, o, none⟩) hbl).trans HM1.out.2; have hbl3 := Nat.lt_of_lt_of_le hbl HB.size; have hwl3 := Nat.lt_of_lt_of_le hwl HB.size; clear HB))
                go_roundw
                case rel => exact ⟨i + 1, by omega, by go_num, HB3.out, ⟨q0, q1, q2, q3, q4⟩, HYes.out rfl⟩
                case measure => simp [intOf]; omega
            · by_cases h14 : tk = 14
              · subst h14
                cases tx with
                | false =>
                  go_wp2_with (first
                    | (go_at_call 105; have := HB3; refine (HT1.out _).mono ?_; rintro e w3 ⟨rfl, rfl⟩)
                    | (go_at_call 104; refine (HC.out _ HKT.out).mono ?_; rintro e w3 ⟨rfl, HB⟩; have HB3 : Hid (Below w.heap.size w w3) := HW.out.trans (HB.mono HW.out.size); obtain ⟨q0, q1, q2, q3, q4⟩ := HLo.out.1.below HB; have m0 := (HB.cell (p := ⟨b, o + i * 4, none⟩) hbl).trans HM1.out.1; have z0 := (HB.cell (p := ⟨b, o, none⟩) hbl).trans HM1.out.2; have hbl3 := Nat.lt_of_lt_of_le hbl HB.size; have hwl3 := Nat.lt_of_lt_of_le hwl HB.size; clear HB))
                  go_ret
                  exact ⟨by rw [HNo.out rfl]; rfl, HB3.out⟩
                | true =>
                  go_wp2_with (first
                    | (go_at_call 105; have := HB3; refine (HT1.out _).mono ?_; rintro e w3 ⟨rfl, rfl⟩)
                    | (go_at_call 104; refine (HC.out _ HKT.out).mono ?_; rintro e w3 ⟨rfl, HB⟩; have HB3 : Hid (Below w.heap.size w w3) := HW.out.trans (HB.mono HW.out.size); obtain ⟨q0, q1, q2, q3, q4⟩ := HLo.out.1.below HB; have m0 := (HB.cell (p := ⟨b, o + i * 4, none⟩) hbl).trans HM1.out.1; have z0 := (HB.cell (p := ⟨b, o, none⟩) hbl).trans HM1.out.2; have hbl3 := Nat.lt_of_lt_of_le hbl HB.size; have hwl3 := Nat.lt_of_lt_of_le hwl HB.size; clear HB))
                  go_roundw
                  case rel => exact ⟨i + 1, by omega, by go_num, HB3.out, ⟨q0, q1, q2, q3, q4⟩, HYes.out rfl⟩
                  case measure => simp [intOf]; omega
              · have hwt : wantT tk = false := by unfold wantT; simp; omega
                rw [hwt] at HYes HNo
                have hb6 : (tk == 6) = false := by simpa using h6
                have hb13 : (tk == 13) = false := by simpa using h13
                have hb14 : (tk == 14) = false := by simpa using h14
                have hb11 : (tk == 11) = false := by simpa using h11
                clear h6 h13 h14 h11
                cases tx with
                | false =>
                  go_wp2_with (first
                    | (go_at_call 105; have := HB3; refine (HT1.out _).mono ?_; rintro e w3 ⟨rfl, rfl⟩)
                    | (go_at_call 104; refine (HC.out _ HKT.out).mono ?_; rintro e w3 ⟨rfl, HB⟩; have HB3 : Hid (Below w.heap.size w w3) := HW.out.trans (HB.mono HW.out.size); obtain ⟨q0, q1, q2, q3, q4⟩ := HLo.out.1.below HB; have m0 := (HB.cell (p := ⟨b, o + i * 4, none⟩) hbl).trans HM1.out.1; have z0 := (HB.cell (p := ⟨b, o, none⟩) hbl).trans HM1.out.2; have hbl3 := Nat.lt_of_lt_of_le hbl HB.size; have hwl3 := Nat.lt_of_lt_of_le hwl HB.size; clear HB))
                  go_roundw
                  case rel => exact ⟨i + 1, by omega, by go_num, HB3.out, ⟨q0, q1, q2, q3, q4⟩, HYes.out rfl⟩
                  case measure => simp [intOf]; omega
                | true =>
                  go_wp2_with (first
                    | (go_at_call 105; have := HB3; refine (HT1.out _).mono ?_; rintro e w3 ⟨rfl, rfl⟩)
                    | (go_at_call 104; refine (HC.out _ HKT.out).mono ?_; rintro e w3 ⟨rfl, HB⟩; have HB3 : Hid (Below w.heap.size w w3) := HW.out.trans (HB.mono HW.out.size); obtain ⟨q0, q1, q2, q3, q4⟩ := HLo.out.1.below HB; have m0 := (HB.cell (p := ⟨b, o + i * 4, none⟩) hbl).trans HM1.out.1; have z0 := (HB.cell (p := ⟨b, o, none⟩) hbl).trans HM1.out.2; have hbl3 := Nat.lt_of_lt_of_le hbl HB.size; have hwl3 := Nat.lt_of_lt_of_le hwl HB.size; clear HB))
                  go_ret
                  exact ⟨by rw [HNo.out rfl]; rfl, HB3.out⟩
    · have he : i = ks.length := by omega
      subst he
      have HEa : Hid (res = true) := by unfold Hid; rw [HE.out]; exact all_at (f := fun x => tyM d x && fit x) HR.out.2.2
      have HB3 : Hid (Below w.heap.size w wr) := HR.out.1
      clear HR
      go_wp2
      go_ret
      exact ⟨by rw [HEa.out]; rfl, HB3.out⟩
theorem typed_any : ∀ d, Typed d
  | 0 => typed_zero
  | d + 1 => typed_succ d (typed_any d)
set_option maxRecDepth 100000 in
set_option maxHeartbeats 800000 in
theorem RTruth_any (P : Nat → Prop) (t : Tr) (n : Int) (s : ByteArray) (a : Option Addr) (l c : Nat) (w : World) (hT : Tre w P (.agg #[.int .i64 t.kind, .int .i64 n, .string s, .slice a l c]) t) :
    Calls Try.prog 90 #[.agg #[.int .i64 t.kind, .int .i64 n, .string s, .slice a l c]] w fun e w' => e = .returned (.tuple #[.bool (truthM t).1, .int .i64 (truthM t).2]) ∧ Below w.heap.size w w' := by
  have HC : Hid (∀ w, Tre w P (.agg #[.int .i64 t.kind, .int .i64 n, .string s, .slice a l c]) t → Calls Try.prog 18 #[.agg #[.int .i64 t.kind, .int .i64 n, .string s, .slice a l c]] w fun e w' => e = .returned (.int .i64 (checkM 16 t)) ∧ Below w.heap.size w w') := fun w h => RCheck_any P t t.kind n s a l c w h
  have HT : Hid (Tre w P (.agg #[.int .i64 t.kind, .int .i64 n, .string s, .slice a l c]) t) := hT
  have HK : Hid (∀ w, Calls Try.prog 105 #[.int .i64 t.kind] w fun e w' => e = .returned (.bool (truthK t.kind)) ∧ w' = w) := truthK_any t.kind
  clear hT
  by_cases h0 : checkM 16 t = 0
  · have HD : Hid (∀ w, Tre w P (.agg #[.int .i64 t.kind, .int .i64 n, .string s, .slice a l c]) t → Calls Try.prog 104 #[.agg #[.int .i64 t.kind, .int .i64 n, .string s, .slice a l c]] w fun e w' => e = .returned (.bool (tyM 16 t)) ∧ Below w.heap.size w w') := fun w h => typed_any 16 P t _ w h0 h
    have he : truthM t = if tyM 16 t = true then (truthK t.kind, 0) else (false, 7) := by unfold truthM; rw [if_neg (by omega)]
    rw [h0] at HC
    rw [he]
    generalize truthK t.kind = tk at *
    generalize t.kind = k at *
    cases hty : tyM 16 t with
    | false =>
      rw [hty] at HD
      simp only [if_false, Bool.false_eq_true]
      go_enter Try.func90, Try.ntmps90
      go_wp2_with (first
        | (go_at_call 104; have := HB1; refine (HD.out _ ((HT.out.alloc _).below HB1.out)).mono ?_; rintro e w2 ⟨rfl, HB⟩; have HB2 : Hid (Below w.heap.size w w2) := (((Below.refl _ _).alloc (Nat.le_refl _) _).trans (HB1.out.mono (le_alloc _ _))).trans (HB.mono (Nat.le_trans (le_alloc _ _) HB1.out.size)); clear HB)
        | (go_at_call 18; refine (HC.out _ (HT.out.alloc _)).mono ?_; rintro e w1 ⟨rfl, HB⟩; have HB1 : Hid (Below _ _ w1) := HB; obtain ⟨q0, q1, q2, q3, q4⟩ := (Cell4.new w (.int .i64 k) (.int .i64 n) (.string s) (.slice a l c) 31).below HB; have hl1 : w.heap.size < w1.heap.size := World.block_lt_of_cell? _ _ q0; clear HB))
      go_ret2
      exact ⟨rfl, HB2.out⟩
    | true =>
      rw [hty] at HD
      simp only [if_true]
      go_enter Try.func90, Try.ntmps90
      go_wp2_with (first
        | (go_at_call 105; refine (HK.out _).mono ?_; rintro e w2 ⟨rfl, rfl⟩)
        | (go_at_call 104; have := HB1; refine (HD.out _ ((HT.out.alloc _).below HB1.out)).mono ?_; rintro e w2 ⟨rfl, HB⟩; have HB2 : Hid (Below w.heap.size w w2) := (((Below.refl _ _).alloc (Nat.le_refl _) _).trans (HB1.out.mono (le_alloc _ _))).trans (HB.mono (Nat.le_trans (le_alloc _ _) HB1.out.size)); obtain ⟨q0, q1, q2, q3, q4⟩ := (Cell4.mk q0 q1 q2 q3 q4).below HB; clear HB)
        | (go_at_call 18; refine (HC.out _ (HT.out.alloc _)).mono ?_; rintro e w1 ⟨rfl, HB⟩; have HB1 : Hid (Below _ _ w1) := HB; obtain ⟨q0, q1, q2, q3, q4⟩ := (Cell4.new w (.int .i64 k) (.int .i64 n) (.string s) (.slice a l c) 31).below HB; have hl1 : w.heap.size < w1.heap.size := World.block_lt_of_cell? _ _ q0; clear HB))
      go_ret2
      exact ⟨rfl, HB2.out⟩
  · have he : truthM t = (false, checkM 16 t) := by unfold truthM; rw [if_pos h0]
    rw [he]
    have h1 : ((checkM 16 t : Int) != 0) = true := by simp; omega
    generalize checkM 16 t = ck at *
    generalize t.kind = k at *
    go_enter Try.func90, Try.ntmps90
    go_wp2_with (go_at_call 18; refine (HC.out _ (HT.out.alloc _)).mono ?_; rintro e w1 ⟨rfl, HB⟩)
    go_ret2
    exact ⟨rfl, ((Below.refl _ _).alloc (Nat.le_refl _) _).trans (HB.mono (by rw [size_alloc]; omega))⟩
end Go.Proofs.Ytjafjheffbbkmaa
