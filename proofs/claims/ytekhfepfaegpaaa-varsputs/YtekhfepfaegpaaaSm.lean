/-
  Small contracts: a copy of a text, names in their order, BinarySearch, variable, Check, pairs.
-/
import Derived.Test.YtekhfepfaegpaaaRd
namespace Go.Proofs.Ytekhfepfaegpaaa
open Go.RowKit Pack
set_option linter.unusedVariables false

set_option maxRecDepth 100000 in
theorem clone_any (s : ByteArray) (hs : s.size ≤ 281474976710656) (w : World) : Calls Try.prog 33 #[.string s] w fun e w' => e = .returned (.string s) ∧ Below w.heap.size w w' := by
  have HC : Hid (∀ w, Calls Try.prog 52 #[.string s] w fun e w' => e = .returned (.string s) ∧ Below w.heap.size w w') := fun w => Try.stringslite_Clone s w hs
  go_enter Try.func33, Try.ntmps33
  go_wp2_with (go_at_call 52; refine (HC.out _).mono ?_; rintro e w1 ⟨rfl, HB⟩)
  go_ret
  exact ⟨rfl, HB⟩
set_option maxRecDepth 100000 in
theorem cnan_any (x : ByteArray) (w : World) : Calls Try.prog 66 #[.string x] w fun e w' => e = .returned (.bool false) ∧ w' = w := by
  go_enter Try.func66, Try.ntmps66
  go_wp2
  go_ret
  exact ⟨by simp, rfl⟩
set_option maxRecDepth 100000 in
theorem snan_any (x : ByteArray) (w : World) : Calls Try.prog 56 #[.string x] w fun e w' => e = .returned (.bool false) ∧ w' = w := by
  go_enter Try.func56, Try.ntmps56
  go_wp2
  go_ret
  exact ⟨by simp, rfl⟩
set_option maxRecDepth 100000 in
theorem less_any (x y : ByteArray) (w : World) : Calls Try.prog 55 #[.string x, .string y] w fun e w' => e = .returned (.bool (bl x y)) ∧ w' = w := by
  go_enter Try.func55, Try.ntmps55
  go_wp2_with (go_at_call 66; refine (cnan_any _ _).mono ?_; rintro e w' ⟨rfl, rfl⟩)
  go_ret
  exact ⟨rfl, rfl⟩

theorem bl_upto {ns : List ByteArray} {x : ByteArray} (hs : Srt ns) {h t : Nat} (hh : h < ns.length) (hb : bl (ns.getD h emp) x = true) (ht : t ≤ h) : bl (ns.getD t emp) x = true := by
  rcases Nat.lt_or_ge t h with hlt | hge
  · exact bl_tr (srt_lt hs hlt hh) hb
  · rw [show t = h by omega]; exact hb
set_option maxRecDepth 100000 in
set_option maxHeartbeats 1000000 in
theorem search_any (ns : List ByteArray) (v : Value) (x : ByteArray) (w : World) (hv : Rd w v (strsV ns)) (hs : Srt ns) (hl : ns.length ≤ 1000000) :
    Calls Try.prog 37 #[v, .string x] w fun e w' => e = .returned (.tuple #[.int .i64 (pos ns x : Nat), .bool (fnd ns x)]) ∧ Below w.heap.size w w' := by
  obtain ⟨a, c, rfl⟩ := hv.form
  obtain ⟨_, hnc, hcm, _, hcell⟩ := hv.at
  rw [strsV_len] at *
  have HC : Hid (∀ i, i < ns.length → ∃ b off, a = some ⟨b, off, none⟩ ∧ b < w.heap.size ∧ w.cell? ⟨b, off + i, none⟩ = some (.string (ns.getD i emp))) := fun i hi => hcell i _ (strsV_at hi)
  have HS : Hid (Srt ns) := hs
  clear hcell hv hs
  generalize hN : ns.length = N at *
  obtain ⟨K, HK⟩ : ∃ K, Hid (pos ns x = K) := ⟨_, rfl⟩
  obtain ⟨F, HF0⟩ : ∃ F, Hid (fnd ns x = F) := ⟨_, rfl⟩
  rw [HK.out, HF0.out]
  go_enter Try.func37, Try.ntmps37
  go_wp2
  go_loopw [7, 8] (fun s7 s8 wr => ∃ lo hi : Nat, s7 = .int .i64 lo ∧ s8 = .int .i64 hi ∧ lo ≤ hi ∧ hi ≤ N ∧ Hid (∀ t, t < lo → bl (ns.getD t emp) x = true) ∧ Hid (hi < N → bl (ns.getD hi emp) x = false) ∧ Hid (Below w.heap.size w wr)) (fun s7 s8 _ => (intOf s8 - intOf s7).toNat)
  case atStart => exact ⟨0, N, rfl, rfl, Nat.zero_le _, Nat.le_refl _, fun t ht => by omega, fun h => by omega, Below.refl _ _⟩
  case round =>
    obtain ⟨lo, hi, rfl, rfl, hlh, hin, H1, H2, HB⟩ := hrel
    by_cases hlt : lo < hi
    · obtain ⟨b, off, rfl, hbw, hc⟩ := HC.out ((lo + hi) / 2) (by omega)
      have cm := (HB.out.cell (p := ⟨b, off + (lo + hi) / 2, none⟩) hbw).trans hc
      clear HC hc
      have HY : Hid (∀ y, y = ns.getD ((lo + hi) / 2) emp → bl y x = true → ∀ t, t < (lo + hi) / 2 + 1 → bl (ns.getD t emp) x = true) := fun y hy hb t ht => by subst hy; exact bl_upto HS.out (by omega) hb (by omega)
      obtain ⟨y, hy⟩ : ∃ y, ns.getD ((lo + hi) / 2) emp = y := ⟨_, rfl⟩
      have HE : Hid (ns.getD ((lo + hi) / 2) emp = y) := hy
      rw [hy] at cm
      clear hy
      have HL : Hid (∀ w, Calls Try.prog 55 #[.string y, .string x] w fun e w' => e = .returned (.bool (bl y x)) ∧ w' = w) := less_any y x
      cases hyx : bl y x with
      | false =>
        rw [hyx] at HL
        have HV : Hid (bl y x = false) := hyx
        clear hyx
        go_wp2_with (go_at_call 55; refine (HL.out _).mono ?_; rintro e w' ⟨rfl, rfl⟩)
        go_roundw
        case rel => exact ⟨lo, (lo + hi) / 2, rfl, by go_num, by omega, by omega, H1, (fun _ => by rw [HE.out]; exact HV.out), HB⟩
        case measure => simp [intOf]; omega
      | true =>
        rw [hyx] at HL
        have HV : Hid (bl y x = true) := hyx
        clear hyx
        go_wp2_with (go_at_call 55; refine (HL.out _).mono ?_; rintro e w' ⟨rfl, rfl⟩)
        go_roundw
        case rel => exact ⟨(lo + hi) / 2 + 1, hi, by go_num, rfl, by omega, by omega, HY.out y HE.out.symm HV.out, H2, HB⟩
        case measure => simp [intOf]; omega
    · have e : hi = lo := by omega
      subst e
      have hp : pos ns x = hi := pos_eq (by omega) H1.out (fun h => H2.out (by omega))
      by_cases hn : hi < N
      · obtain ⟨b, off, rfl, hbw, hc⟩ := HC.out hi hn
        have cm := (HB.out.cell (p := ⟨b, off + hi, none⟩) hbw).trans hc
        have HF : Hid (fnd ns x = decide (ns.getD hi emp = x)) := by
          show fnd ns x = _
          unfold fnd; rw [hp, hN]
          by_cases he : ns.getD hi emp = x
          · rw [decide_eq_true he, decide_eq_true ⟨hn, he⟩]
          · rw [decide_eq_false he, decide_eq_false fun h => he h.2]
        have HKe : Hid (K = hi) := HK.out.symm.trans hp
        obtain ⟨y, hy⟩ : ∃ y, ns.getD hi emp = y := ⟨_, rfl⟩
        have HFe : Hid (F = decide (y = x)) := by show F = _; rw [← hy]; exact HF0.out.symm.trans HF.out
        rw [hy] at cm
        clear hy HC hc H1 H2 hp HF
        have HN2 : Hid (∀ w, Calls Try.prog 56 #[.string y] w fun e w' => e = .returned (.bool false) ∧ w' = w) := snan_any y
        by_cases he : y = x
        · have HFt : Hid (F = true) := HFe.out.trans (decide_eq_true he)
          subst he
          have HD : Hid (Below w.heap.size w wr) := HB.out
          clear HB
          go_wp2_with (go_at_call 56; refine (HN2.out _).mono ?_; rintro e w' ⟨rfl, rfl⟩)
          go_ret2
          exact ⟨by rw [HKe.out, HFt.out]; rfl, HD.out⟩
        · have HFt : Hid (F = false) := HFe.out.trans (decide_eq_false he)
          have hne : (y.toList == x.toList) = false := by
            rw [beq_eq_false_iff_ne]
            exact fun h => he (ba_ext h)
          have HD : Hid (Below w.heap.size w wr) := HB.out
          clear HB
          go_wp2_with (go_at_call 56; refine (HN2.out _).mono ?_; rintro e w' ⟨rfl, rfl⟩)
          go_ret2
          exact ⟨by rw [HKe.out, HFt.out]; rfl, HD.out⟩
      · have HF : Hid (fnd ns x = false) := by
          show fnd ns x = _
          unfold fnd; rw [hp, hN]
          exact decide_eq_false fun h => hn h.1
        have HKe : Hid (K = hi) := HK.out.symm.trans hp
        have HFt : Hid (F = false) := HF0.out.symm.trans HF.out
        clear HC H1 H2 hp HF
        have HD : Hid (Below w.heap.size w wr) := HB.out
        clear HB
        go_wp2
        go_ret2
        exact ⟨by rw [HKe.out, HFt.out]; rfl, HD.out⟩
end Go.Proofs.Ytekhfepfaegpaaa
