/-
  The document's Check: the contract.
-/
import Derived.Test.YtekhfepfaegpaaaRSm
namespace Go.Proofs.Ytekhfepfaegpaaa
open Go.RowKit Pack
set_option linter.unusedVariables false

theorem isVar_of {y : ByteArray} (h1 : nm y = true) (h2 : (y.toList == [121, 101, 115]) = false) (h3 : (y.toList == [110, 111]) = false) : isVar y = true := by
  unfold isVar; rw [h1, yes_tl, no_tl, h2, h3]; rfl
theorem isVar_nm {y : ByteArray} (h1 : nm y = false) : isVar y = false := by unfold isVar; rw [h1]; rfl
theorem isVar_yes {y : ByteArray} (h2 : (y.toList == [121, 101, 115]) = true) : isVar y = false := by unfold isVar; rw [yes_tl, h2]; simp
theorem isVar_no2 {y : ByteArray} (h2 : (y.toList == [110, 111]) = true) : isVar y = false := by unfold isVar; rw [no_tl, h2]; simp
set_option maxRecDepth 100000 in
set_option maxHeartbeats 2000000 in
theorem rCheck_any (ns : List ByteArray) (vs : List Int) (v : Value) (w : World) (hv : RdV w v ns vs) (hs : ∀ n ∈ ns, n.size ≤ 9223372036854775807) : Calls Try.prog 11 #[v] w fun e w' => e = .returned (.int .i64 (chk ns vs : Nat)) ∧ Below w.heap.size w w' := by
  obtain ⟨sn, sv, rfl, h1, h2⟩ := hv
  obtain ⟨a, c, rfl⟩ := h1.form
  obtain ⟨b, d, rfl⟩ := h2.form
  obtain ⟨_, hnc, hcm, _, hcell⟩ := h1.at
  obtain ⟨_, hnd, hdm, _, _⟩ := h2.at
  simp only [strsV_len, intsV_len] at *
  have HC : Hid (∀ i, i < ns.length → ∃ b off, a = some ⟨b, off, none⟩ ∧ b < w.heap.size ∧ w.cell? ⟨b, off + i, none⟩ = some (.string (ns.getD i emp))) := fun i hi => hcell i _ (strsV_at hi)
  have HS : Hid (∀ i, i < ns.length → ∀ w, Calls Try.prog 29 #[.string (ns.getD i emp)] w fun e w' => e = .returned (.bool (nm (ns.getD i emp))) ∧ w' = w) := fun i hi w => rname_any _ w (hs _ (getD_mem hi))
  obtain ⟨R, HR⟩ : ∃ R, Hid (chk ns vs = R) := ⟨_, rfl⟩
  rw [HR.out]
  clear h1 h2 hcell hs
  by_cases he : ns.length = vs.length
  · by_cases h64 : 64 < ns.length
    · have HE : Hid (R = 6) := by show R = _; rw [← HR.out]; unfold chk; rw [if_neg (by omega), if_pos h64]
      rw [← he]
      clear he HC HS
      generalize ns.length = N at *
      go_enter Try.func11, Try.ntmps11
      go_wp2
      go_ret
      exact ⟨by rw [HE.out]; rfl, (Below.refl _ _).alloc (Nat.le_refl _) _⟩
    · have HE : Hid (rise emp (ns.drop 0) = true → R = 0) := fun h => by rw [← HR.out]; unfold chk; rw [if_neg (by omega), if_neg h64]; exact if_pos h
      have HE2 : Hid (rise emp (ns.drop 0) = false → R = 1) := fun h => by rw [← HR.out]; unfold chk; rw [if_neg (by omega), if_neg h64]; exact if_neg (by rw [show rise emp ns = false from h]; simp)
      have HT : Hid (∀ w', Below (w.alloc (.cells #[.slice a ns.length c, .slice b ns.length d] 25)).heap.size (w.alloc (.cells #[.slice a ns.length c, .slice b ns.length d] 25)) w' → Two w' w.heap.size (.slice a ns.length c) (.slice b ns.length d) ∧ Below w.heap.size w w') := fun w' hb => ⟨(Two.new w _ _ 25).below hb, ((Below.refl _ _).alloc (Nat.le_refl _) _).trans (hb.mono (base_le (Nat.le_refl _) _))⟩
      rw [← he]
      rw [← he] at hnd
      clear he
      generalize hN : ns.length = N at *
      go_enter Try.func11, Try.ntmps11
      go_wp2
      go_loopw [3] (fun s3 wr => ∃ i : Nat, i ≤ N ∧ s3 = .int .i64 i ∧ Hid (rise emp (ns.drop 0) = rise (ahead ns i) (ns.drop i)) ∧ Hid (Below (w.alloc (.cells #[.slice a N c, .slice b N d] 25)).heap.size (w.alloc (.cells #[.slice a N c, .slice b N d] 25)) wr)) (fun s3 _ => N - (intOf s3).toNat)
      case atStart => exact ⟨0, Nat.zero_le _, rfl, rfl, Below.refl _ _⟩
      case round =>
        obtain ⟨i, hi, rfl, HI, HB⟩ := hrel
        obtain ⟨⟨t4, t0, t1, t2, t3⟩, hBw⟩ := HT.out _ HB.out
        have HBw : Hid (Below w.heap.size w wr) := hBw
        by_cases hlt : i < N
        · obtain ⟨g, off, rfl, hg, hc⟩ := HC.out i hlt
          have cm := (hBw.cell (p := ⟨g, off + i, none⟩) hg).trans hc
          have HV : Hid (∀ w, Calls Try.prog 29 #[.string (ns.getD i emp)] w fun e w' => e = .returned (.bool (nm (ns.getD i emp))) ∧ w' = w) := HS.out i hlt
          have HI2 : Hid (rise emp (ns.drop 0) = (isVar (ns.getD i emp) && (bl (ahead ns i) (ns.getD i emp) && rise (ns.getD i emp) (ns.drop (i + 1))))) := HI.out.trans (rise_drop (by omega) _)
          have HA : Hid (ahead ns (i + 1) = ns.getD i emp) := rfl
          have HPrev : Hid (∀ j, i = j + 1 → wr.cell? ⟨g, off + j, none⟩ = some (.string (ahead ns i))) := fun j hj => by
            obtain ⟨g', off', e, hg', hc'⟩ := HC.out j (by omega)
            simp only [Option.some.injEq, Addr.mk.injEq, and_true] at e
            obtain ⟨rfl, rfl⟩ := e
            rw [hj]
            exact (hBw.cell (p := ⟨g, off + j, none⟩) hg').trans hc'
          have HF : Hid (i = 0 → isVar (ns.getD i emp) = true → bl (ahead ns i) (ns.getD i emp) = true) := fun h0 hv => by
            rw [h0]; rw [h0] at hv; exact emp_bl (isVar_pos hv).1
          have HB2 := HB
          clear HC HS hc HI hBw HB
          generalize ns.getD i emp = y at *
          generalize ahead ns i = z at *
          cases hy : nm y with
          | false =>
            have HE3 : Hid (R = 1) := HE2.out (by rw [HI2.out, isVar_nm hy]; rfl)
            rw [hy] at HV
            clear hy HI2 HF HPrev
            go_wp2_with (go_at_call 29; refine (HV.out _).mono ?_; rintro e w' ⟨rfl, rfl⟩)
            go_ret
            exact ⟨by rw [HE3.out]; rfl, HBw.out⟩
          | true =>
            rw [hy] at HV
            cases hyy : (y.toList == [121, 101, 115]) with
            | true =>
              have HE3 : Hid (R = 1) := HE2.out (by rw [HI2.out, isVar_yes hyy]; rfl)
              clear hy HI2 HF HPrev
              go_wp2_with (go_at_call 29; refine (HV.out _).mono ?_; rintro e w' ⟨rfl, rfl⟩)
              go_ret
              exact ⟨by rw [HE3.out]; rfl, HBw.out⟩
            | false =>
              cases hyn : (y.toList == [110, 111]) with
              | true =>
                have HE3 : Hid (R = 1) := HE2.out (by rw [HI2.out, isVar_no2 hyn]; rfl)
                clear hy HI2 HF HPrev
                go_wp2_with (go_at_call 29; refine (HV.out _).mono ?_; rintro e w' ⟨rfl, rfl⟩)
                go_ret
                exact ⟨by rw [HE3.out]; rfl, HBw.out⟩
              | false =>
                have hiv := isVar_of hy hyy hyn
                rw [hiv, Bool.true_and] at HI2
                cases i with
                | zero =>
                  have hz := HF.out rfl hiv
                  rw [hz, Bool.true_and] at HI2
                  have e0 : ((0 : Nat) : Int) = 0 := rfl
                  rw [e0]
                  rw [Nat.add_zero] at cm
                  clear hy hiv hz HF HPrev HE HE2 e0
                  go_wp2_with (go_at_call 29; refine (HV.out _).mono ?_; rintro e w' ⟨rfl, rfl⟩)
                  go_roundw
                  case rel => exact ⟨1, by omega, by go_num, by rw [show ahead ns 1 = y from HA.out]; exact HI2, HB2⟩
                  case measure => simp [intOf]; omega
                | succ j =>
                  have cp := HPrev.out j rfl
                  cases hz : bl z y with
                  | false =>
                    have HE3 : Hid (R = 1) := HE2.out (by rw [HI2.out, hz]; rfl)
                    have hz2 : Op.bytesLess z.toList y.toList = false := hz
                    clear hy hiv hz HF HPrev HI2 HE HE2
                    go_wp2_with (go_at_call 29; refine (HV.out _).mono ?_; rintro e w' ⟨rfl, rfl⟩)
                    go_ret
                    exact ⟨by rw [HE3.out]; rfl, HBw.out⟩
                  | true =>
                    have hz2 : Op.bytesLess z.toList y.toList = true := hz
                    rw [hz, Bool.true_and] at HI2
                    clear hy hiv hz HF HPrev HE HE2
                    go_wp2_with (go_at_call 29; refine (HV.out _).mono ?_; rintro e w' ⟨rfl, rfl⟩)
                    go_roundw
                    case rel => exact ⟨j + 1 + 1, by omega, by go_num, by rw [show ahead ns (j + 1 + 1) = y from HA.out]; exact HI2, HB2⟩
                    case measure => simp [intOf]; omega
        · have e : i = N := by omega
          have e' : N = i := e.symm
          clear e
          subst e'
          have HE3 : Hid (R = 0) := HE.out (by rw [HI.out, List.drop_eq_nil_of_le (by omega)]; rfl)
          clear HI HC HS HB hBw HE HE2
          go_wp2
          go_ret
          exact ⟨by rw [HE3.out]; rfl, HBw.out⟩
  · have HE : Hid (R = 1) := by show R = _; rw [← HR.out]; unfold chk; rw [if_pos he]
    have he2 : ¬ ((ns.length : Int) = (vs.length : Int)) := by omega
    clear HC HS
    generalize ns.length = N at *
    generalize vs.length = M at *
    go_enter Try.func11, Try.ntmps11
    go_wp2
    go_ret
    exact ⟨by rw [HE.out]; rfl, (Below.refl _ _).alloc (Nat.le_refl _) _⟩
end Go.Proofs.Ytekhfepfaegpaaa
