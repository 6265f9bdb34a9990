/-
  Contracts: variable, Check, pairs, Equal, Clone, Same.
-/
import Derived.Test.YtekhfepfaegpaaaSm
namespace Go.Proofs.Ytekhfepfaegpaaa
open Go.RowKit Pack
set_option linter.unusedVariables false

theorem yes_tl : yesB.toList = [121, 101, 115] := by rw [tl_eq]; rfl
theorem no_tl : noB.toList = [110, 111] := by rw [tl_eq]; rfl
set_option maxRecDepth 100000 in
theorem variable_any (s : ByteArray) (hs : s.size ≤ 9223372036854775807) (w : World) : Calls Try.prog 28 #[.string s] w fun e w' => e = .returned (.bool (isVar s)) ∧ w' = w := by
  have HN : Hid (∀ w, Calls Try.prog 51 #[.string s] w fun e w' => e = .returned (.bool (nm s)) ∧ w' = w) := fun w => name_any s w hs
  obtain ⟨R, HR⟩ : ∃ R, Hid (isVar s = R) := ⟨_, rfl⟩
  rw [HR.out]
  cases h0 : nm s with
  | false =>
    rw [h0] at HN
    have HE : Hid (R = false) := by show R = _; rw [← HR.out]; unfold isVar; rw [h0]; rfl
    clear h0
    go_enter Try.func28, Try.ntmps28
    go_wp2_with (go_at_call 51; refine (HN.out _).mono ?_; rintro e w' ⟨rfl, rfl⟩)
    go_ret
    exact ⟨by rw [HE.out]; rfl, rfl⟩
  | true =>
    rw [h0] at HN
    cases h1 : (s.toList == yesB.toList) with
    | true =>
      have HE : Hid (R = false) := by show R = _; rw [← HR.out]; unfold isVar; rw [h0, h1]; rfl
      have h2 : (s.toList == [121, 101, 115]) = true := by rw [← yes_tl]; exact h1
      clear h0 h1
      go_enter Try.func28, Try.ntmps28
      go_wp2_with (go_at_call 51; refine (HN.out _).mono ?_; rintro e w' ⟨rfl, rfl⟩)
      go_ret
      exact ⟨by rw [HE.out]; rfl, rfl⟩
    | false =>
      have HE : Hid (R = !(s.toList == noB.toList)) := by show R = _; rw [← HR.out]; unfold isVar; rw [h0, h1]; rfl
      have h2 : (s.toList == [121, 101, 115]) = false := by rw [← yes_tl]; exact h1
      clear h0 h1
      cases h3 : (s.toList == noB.toList) with
      | true =>
        have h4 : (s.toList == [110, 111]) = true := by rw [← no_tl]; exact h3
        rw [h3] at HE
        clear h3
        go_enter Try.func28, Try.ntmps28
        go_wp2_with (go_at_call 51; refine (HN.out _).mono ?_; rintro e w' ⟨rfl, rfl⟩)
        go_ret
        exact ⟨by rw [HE.out]; rfl, rfl⟩
      | false =>
        have h4 : (s.toList == [110, 111]) = false := by rw [← no_tl]; exact h3
        rw [h3] at HE
        clear h3
        go_enter Try.func28, Try.ntmps28
        go_wp2_with (go_at_call 51; refine (HN.out _).mono ?_; rintro e w' ⟨rfl, rfl⟩)
        go_ret
        exact ⟨by rw [HE.out]; rfl, rfl⟩

set_option maxRecDepth 100000 in
theorem pairs_any (a b : Option Addr) (n c m d : Nat) (hn : n ≤ 9223372036854775807) (hm : m ≤ 9223372036854775807) (he : n = m) (w : World) : Calls Try.prog 38 #[.agg #[.slice a n c, .slice b m d]] w fun e w' => e = .returned (.int .i64 n) ∧ Below w.heap.size w w' := by
  subst he
  go_enter Try.func38, Try.ntmps38
  go_wp2
  go_ret
  refine ⟨by simp, (Below.refl _ _).alloc (Nat.le_refl _) _⟩

theorem getD_mem {ns : List ByteArray} {i : Nat} (h : i < ns.length) : ns.getD i emp ∈ ns := by
  rw [List.getD_eq_getElem?_getD, List.getElem?_eq_getElem h]
  exact List.getElem_mem h
theorem rise_drop {ns : List ByteArray} {i : Nat} (hi : i < ns.length) (a : ByteArray) : rise a (ns.drop i) = (isVar (ns.getD i emp) && (bl a (ns.getD i emp) && rise (ns.getD i emp) (ns.drop (i + 1)))) := by
  rw [List.drop_eq_getElem_cons hi, rise, List.getD_eq_getElem?_getD, List.getElem?_eq_getElem hi]; rfl
def ahead (ns : List ByteArray) : Nat → ByteArray
  | 0 => emp
  | i + 1 => ns.getD i emp
theorem leq_bl (x y : ByteArray) : (Op.bytesLess x.toList y.toList || x.toList == y.toList) = !(bl y x) := by
  cases h : bl y x with
  | true =>
    have h1 : Op.bytesLess x.toList y.toList = false := bl_asym h
    rw [h1]
    have : (x.toList == y.toList) = false := by rw [beq_eq_false_iff_ne]; exact fun e => bl_ne h (ba_ext e).symm
    rw [this]; rfl
  | false =>
    cases h1 : Op.bytesLess x.toList y.toList with
    | true => rfl
    | false =>
      have e := bl_tot (s := x) (t := y) h1 h
      subst e
      simp
set_option maxRecDepth 100000 in
set_option maxHeartbeats 1000000 in
theorem Check_any (ns : List ByteArray) (vs : List Int) (v : Value) (w : World) (hv : RdV w v ns vs) (hs : ∀ n ∈ ns, n.size ≤ 9223372036854775807) : Calls Try.prog 10 #[v] w fun e w' => e = .returned (.int .i64 (chk ns vs : Nat)) ∧ Below w.heap.size w w' := by
  obtain ⟨sn, sv, rfl, h1, h2⟩ := hv
  obtain ⟨a, c, rfl⟩ := h1.form
  obtain ⟨b, d, rfl⟩ := h2.form
  obtain ⟨_, hnc, hcm, _, hcell⟩ := h1.at
  obtain ⟨_, hnd, hdm, _, _⟩ := h2.at
  rw [strsV_len] at *
  rw [intsV_len] at *
  have HC : Hid (∀ i, i < ns.length → ∃ b off, a = some ⟨b, off, none⟩ ∧ b < w.heap.size ∧ w.cell? ⟨b, off + i, none⟩ = some (.string (ns.getD i emp))) := fun i hi => hcell i _ (strsV_at hi)
  have HS : Hid (∀ i, i < ns.length → ∀ w, Calls Try.prog 28 #[.string (ns.getD i emp)] w fun e w' => e = .returned (.bool (isVar (ns.getD i emp))) ∧ w' = w) := fun i hi w => variable_any _ (hs _ (getD_mem hi)) w
  obtain ⟨R, HR⟩ : ∃ R, Hid (chk ns vs = R) := ⟨_, rfl⟩
  rw [HR.out]
  clear h1 h2 hcell hs
  by_cases he : ns.length = vs.length
  · by_cases h64 : 64 < ns.length
    · have HE : Hid (R = 6) := by show R = _; rw [← HR.out]; unfold chk; rw [if_neg (by omega), if_pos h64]
      rw [← he]
      clear he HC HS
      generalize ns.length = N at *
      go_enter Try.func10, Try.ntmps10
      go_wp2
      go_ret
      exact ⟨by rw [HE.out]; rfl, (Below.refl _ _).alloc (Nat.le_refl _) _⟩
    · have HE : Hid (rise emp (ns.drop 0) = true → R = 0) := fun h => by rw [← HR.out]; unfold chk; rw [if_neg (by omega), if_neg h64]; exact if_pos h
      have HE2 : Hid (rise emp (ns.drop 0) = false → R = 1) := fun h => by rw [← HR.out]; unfold chk; rw [if_neg (by omega), if_neg h64]; exact if_neg (by rw [show rise emp ns = false from h]; simp)
      rw [← he]
      rw [← he] at hnd
      clear he
      generalize hN : ns.length = N at *
      go_enter Try.func10, Try.ntmps10
      go_wp2
      go_loopw [20, 3] (fun s20 s3 wr => ∃ i : Nat, i ≤ N ∧ s20 = .int .i64 i ∧ s3 = .string (ahead ns i) ∧ Hid (rise emp (ns.drop 0) = rise (ahead ns i) (ns.drop i)) ∧ Hid (Below w.heap.size w wr)) (fun s20 _ _ => N - (intOf s20).toNat)
      case atStart => exact ⟨0, Nat.zero_le _, rfl, rfl, rfl, (Below.refl _ _).alloc (Nat.le_refl _) _⟩
      case round =>
        obtain ⟨i, hi, rfl, rfl, HI, HB⟩ := hrel
        by_cases hlt : i < N
        · obtain ⟨b, off, rfl, hbw, hc⟩ := HC.out i hlt
          have cm := (HB.out.cell (p := ⟨b, off + i, none⟩) hbw).trans hc
          have HV : Hid (∀ w, Calls Try.prog 28 #[.string (ns.getD i emp)] w fun e w' => e = .returned (.bool (isVar (ns.getD i emp))) ∧ w' = w) := HS.out i hlt
          have HI2 : Hid (rise emp (ns.drop 0) = (isVar (ns.getD i emp) && (bl (ahead ns i) (ns.getD i emp) && rise (ns.getD i emp) (ns.drop (i + 1))))) := HI.out.trans (rise_drop (by omega) _)
          have HA : Hid (ahead ns (i + 1) = ns.getD i emp) := rfl
          clear HC HS hc HI
          generalize ns.getD i emp = y at *
          generalize ahead ns i = z at *
          cases hy : isVar y with
          | false =>
            have HE3 : Hid (R = 1) := HE2.out (by rw [HI2.out, hy]; rfl)
            rw [hy] at HV
            have HB2 := HB
            clear hy HI2 HB
            go_wp2_with (go_at_call 28; refine (HV.out _).mono ?_; rintro e w' ⟨rfl, rfl⟩)
            go_ret
            exact ⟨by rw [HE3.out]; rfl, HB2.out⟩
          | true =>
            rw [hy] at HV
            have hlq := leq_bl y z
            cases hz : bl z y with
            | false =>
              have HE3 : Hid (R = 1) := HE2.out (by rw [HI2.out, hy, hz]; rfl)
              rw [hz] at hlq
              have HB2 := HB
              clear hy HI2 hz HB
              go_wp2_with (go_at_call 28; refine (HV.out _).mono ?_; rintro e w' ⟨rfl, rfl⟩)
              go_ret
              exact ⟨by rw [HE3.out]; rfl, HB2.out⟩
            | true =>
              rw [hz] at hlq
              rw [hy, hz, Bool.true_and, Bool.true_and] at HI2
              have HB2 := HB
              clear hy hz HB
              go_wp2_with (go_at_call 28; refine (HV.out _).mono ?_; rintro e w' ⟨rfl, rfl⟩)
              go_roundw
              case rel => exact ⟨i + 1, by omega, by go_num, by rw [HA.out], by rw [HA.out]; exact HI2, HB2⟩
              case measure => simp [intOf]; omega
        · have e : i = N := by omega
          subst e
          have HE3 : Hid (R = 0) := HE.out (by rw [HI.out, List.drop_eq_nil_of_le (by omega)]; rfl)
          have HB2 := HB
          clear HI HC HS HB
          go_wp2
          go_ret
          exact ⟨by rw [HE3.out]; rfl, HB2.out⟩
  · have HE : Hid (R = 1) := by show R = _; rw [← HR.out]; unfold chk; rw [if_pos he]
    have he2 : ¬ ((ns.length : Int) = (vs.length : Int)) := by omega
    clear HC HS
    generalize ns.length = N at *
    generalize vs.length = M at *
    go_enter Try.func10, Try.ntmps10
    go_wp2
    go_ret
    exact ⟨by rw [HE.out]; rfl, (Below.refl _ _).alloc (Nat.le_refl _) _⟩
end Go.Proofs.Ytekhfepfaegpaaa
