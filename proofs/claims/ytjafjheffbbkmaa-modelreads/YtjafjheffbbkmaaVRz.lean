/-
  The document's own ReadUint: a contract.
-/
import Derived.Test.YtjafjheffbbkmaaVReads2
namespace Go.Proofs.Ytjafjheffbbkmaa
namespace V
open Go.RowKit Pack

theorem rd_skip {l : List (BitVec 8)} : ∀ {k : Nat}, k ≤ 9 → k ≤ l.length → (∀ j, j < k → 128 ≤ B (nth l j)) → rd 0 l = rd k (l.drop k)
  | 0, _, _, _ => rfl
  | k + 1, h9, hl, h => by
    rw [rd_skip (k := k) (by omega) (by omega) (fun j hj => h j (by omega)), rd_at (by omega) rfl]
    have := h k (by omega)
    rw [if_neg (by omega), if_neg (by omega)]

theorem rd_ten {l : List (BitVec 8)} (hl : 10 ≤ l.length) (h : ∀ j, j < 10 → 128 ≤ B (nth l j)) : rd 0 l = .range := by
  rw [rd_skip (k := 9) (by omega) (by omega) (fun j hj => h j (by omega)), rd_at (by omega) rfl]
  have := h 9 (by omega)
  rw [if_pos (.inl ⟨rfl, by omega⟩)]

/-- The number of the bytes from t to k. -/
def vd (l : List (BitVec 8)) (k t : Nat) : Int := (val ((l.take (k + 1)).drop t) : Nat)
theorem vd_end (l : List (BitVec 8)) (k : Nat) : vd l k (k + 1) = 0 := by unfold vd; rw [List.drop_of_length_le (by simp; omega)]; rfl
theorem vd_zero (l : List (BitVec 8)) (k : Nat) : vd l k 0 = vt l (k + 1) := rfl
theorem vd_step {l : List (BitVec 8)} {k s : Nat} (hs : s ≤ k) (hk : k < l.length) : vd l k (s + 1) * 128 + B (nth l s) % 128 = vd l k s := by
  unfold vd B
  rw [drop_nth (l := l.take (k + 1)) (k := s) (by simp; omega)]
  simp only [val]
  have e : nth (l.take (k + 1)) s = nth l s := by simp [nth, show s < k + 1 by omega]
  rw [e]; omega
theorem vd_bound {l : List (BitVec 8)} {k s : Nat} (hs : s ≤ k) (hk : k < l.length) (hv : val (l.take (k + 1)) < 18446744073709551616) : 0 ≤ vd l k (s + 1) ∧ vd l k (s + 1) ≤ 144115188075855871 := by
  have h1 := vd_step hs hk
  have h2 : vd l k s < 18446744073709551616 := by
    unfold vd
    have := val_append ((l.take (k + 1)).take s) ((l.take (k + 1)).drop s)
    rw [List.take_append_drop] at this
    have h3 : 1 * val ((l.take (k + 1)).drop s) ≤ 128 ^ ((l.take (k + 1)).take s).length * val ((l.take (k + 1)).drop s) := Nat.mul_le_mul_right _ (Nat.pow_pos (by decide))
    omega
  have h3 : 0 ≤ vd l k (s + 1) := by unfold vd; omega
  have := B_range (nth l s)
  omega

/-- What the document's ReadUint tells. -/
def RTold (l : List (BitVec 8)) (e : Ending) : Prop :=
  match rd 0 l with
  | .inl k => e = .returned (.tuple #[.int .u64 (vt l k), .int .i64 k, .int .i64 0])
  | r => e = .returned (.tuple #[.int .u64 0, .int .i64 0, .int .i64 (code r)])
theorem rtold_range {l : List (BitVec 8)} (h : rd 0 l = .range) : RTold l (.returned (.tuple #[.int .u64 0, .int .i64 0, .int .i64 2])) := by unfold RTold; rw [h]; rfl
theorem rtold_short {l : List (BitVec 8)} (h : rd 0 l = .short) : RTold l (.returned (.tuple #[.int .u64 0, .int .i64 0, .int .i64 5])) := by unfold RTold; rw [h]; rfl
theorem rtold_ok {l : List (BitVec 8)} {k : Nat} {x y : Int} (h : rd 0 l = .ok k) (hx : x = vt l k) (hy : y = (k : Int)) : RTold l (.returned (.tuple #[.int .u64 x, .int .i64 y, .int .i64 0])) := by
  subst hx; subst hy; unfold RTold; rw [h]

set_option maxRecDepth 100000 in
set_option maxHeartbeats 1000000 in
theorem rreadUint_cells (b off n cap : Nat) (l : List (BitVec 8)) (w : World) (hn : n = l.length) (hm : n ≤ 9223372036854775807) (hc : ∀ i, i < n → w.cell? ⟨b, off + i, none⟩ = some (.int .u8 (B (nth l i)))) :
    Calls Try.prog 82 #[.slice (some ⟨b, off, none⟩) n cap] w fun e w' => RTold l e ∧ w' = w := by
  have HN : Hid (n = l.length) := hn
  have HC : Hid (∀ i, i < n → w.cell? ⟨b, off + i, none⟩ = some (.int .u8 (B (nth l i)))) := hc
  clear hn hc
  go_enter Try.func82, Try.ntmps82
  go_wp2
  go_loop [5] (fun i => ∃ k : Nat, k ≤ n ∧ k ≤ 10 ∧ i = .int .i64 k ∧ Hid (∀ j, j < k → 128 ≤ B (nth l j))) (fun i => n - (intOf i).toNat)
  case atStart => exact ⟨0, Nat.zero_le _, Nat.zero_le _, rfl, fun j hj => absurd hj (Nat.not_lt_zero _)⟩
  case round =>
    obtain ⟨k, hk, hk10, rfl, HA⟩ := hrel
    by_cases hten : k = 10
    · subst hten
      have HT : Hid (rd 0 l = .range) := rd_ten (by rw [← HN.out]; exact hk) HA.out
      obtain ⟨x, hx⟩ : ∃ x, x = B (nth l 9) := ⟨_, rfl⟩
      have hcell := HC.out 9 (by omega)
      have hx9 := HA.out 9 (by omega)
      obtain ⟨hx0, hx1⟩ := B_range (nth l 9)
      rw [← hx] at hcell hx9 hx0 hx1
      clear hx
      go_wp2
      all_goals (go_ret3; exact ⟨rtold_range HT.out, rfl⟩)
    by_cases hlt : k < n
    case neg =>
      have hkn : k = n := by omega
      subst hkn
      have HT : Hid (rd 0 l = .short) := by show _ = _; rw [rd_skip (k := k) (by omega) (by rw [← HN.out]; exact hk) HA.out, List.drop_of_length_le (by rw [← HN.out]; exact Nat.le_refl _)]; rfl
      go_wp2
      go_ret3
      exact ⟨rtold_short HT.out, rfl⟩
    obtain ⟨x, hx⟩ : ∃ x, x = B (nth l k) := ⟨_, rfl⟩
    have HX : Hid (x = B (nth l k)) := hx
    have hcell := HC.out k hlt
    obtain ⟨hx0, hx1⟩ := B_range (nth l k)
    rw [← hx] at hcell hx0 hx1
    clear hx
    by_cases hhigh : 127 < x
    · have HA2 : Hid (∀ j, j < k + 1 → 128 ≤ B (nth l j)) := fun j hj => by
        rcases Nat.lt_succ_iff_lt_or_eq.1 hj with h | h
        · exact HA.out j h
        · rw [h, ← HX.out]; omega
      go_wp2
      go_round
      case rel => exact ⟨k + 1, by omega, by omega, by go_num, HA2⟩
      case measure => simp [intOf]; omega
    have HD : Hid (_ = _) := (rd_skip (k := k) (by omega) (by rw [← HN.out]; exact hk) HA.out).trans (rd_at (by rw [← HN.out]; exact hlt) HX.out)
    by_cases hA : k = 9 ∧ 1 < x
    · have HT : Hid (rd 0 l = .range) := by show _ = _; rw [HD.out, if_pos (.inl hA)]
      obtain ⟨rfl, hA⟩ := hA
      go_wp2
      go_ret3
      exact ⟨rtold_range HT.out, rfl⟩
    by_cases hB : 0 < k ∧ x = 0
    · have HT : Hid (rd 0 l = .range) := by show _ = _; rw [HD.out, if_pos (.inr hB)]
      obtain ⟨hB, rfl⟩ := hB
      by_cases h9 : k = 9
      · subst h9
        go_wp2
        go_ret3
        exact ⟨rtold_range HT.out, rfl⟩
      · go_wp2
        go_ret3
        exact ⟨rtold_range HT.out, rfl⟩
    have HT : Hid (rd 0 l = .ok (k + 1)) := by show _ = _; rw [HD.out, if_neg (by omega), if_pos (by omega)]
    have hkl : k < l.length := by rw [← HN.out]; exact hlt
    have HV : Hid (val (l.take (k + 1)) < 18446744073709551616) := (rd0_ok HT.out).2.2.2.2
    by_cases h9 : 9 ≤ k
    · have hcell9 : w.cell? ⟨b, off + 9, none⟩ = some (.int .u8 x) := by
        have e : k = 9 := by omega
        rw [e] at hcell; exact hcell
      have hx1' : x = 1 := by omega
      have hk0 : 0 < k := by omega
      clear hA hB
      go_wp2
      go_loop [6, 7] (fun v i => (∃ s : Nat, s ≤ k ∧ i = .int .i64 s ∧ v = .int .u64 (vd l k (s + 1))) ∨ (i = .int .i64 (-1) ∧ v = .int .u64 (vd l k 0))) (fun _ i => (intOf i + 1).toNat)
      case atStart => exact .inl ⟨k, Nat.le_refl _, by go_num, by rw [vd_end]⟩
      case round =>
        clear hcell hx0 hx1 HX
        rcases hrel with ⟨s, hs, rfl, rfl⟩ | ⟨rfl, rfl⟩
        · obtain ⟨y, hy⟩ : ∃ y, y = B (nth l s) := ⟨_, rfl⟩
          have hcell := HC.out s (by omega)
          obtain ⟨hy0, hy1⟩ := B_range (nth l s)
          have hst := vd_step hs hkl
          rw [← hy] at hcell hy0 hy1 hst
          clear hy
          obtain ⟨hV0, hV1⟩ := vd_bound hs hkl HV.out
          have HST : Hid (vd l k (s + 1) * 128 + y % 128 = vd l k s) := hst
          clear hst
          obtain ⟨V, hV⟩ : ∃ V, V = vd l k (s + 1) := ⟨_, rfl⟩
          rw [← hV] at hV0 hV1 HST ⊢
          clear hV
          go_wp2
          go_round
          case rel =>
            cases s with
            | zero => exact .inr ⟨by go_num, by rw [HST.out]⟩
            | succ s => exact .inl ⟨s, by omega, by go_num, by rw [HST.out]⟩
          case measure => simp [intOf]
        · go_wp2
          go_ret3
          exact ⟨rtold_ok HT.out (vd_zero l k) (by go_num), rfl⟩
    by_cases hk0 : 0 < k
    · have hx0' : (x == 0) = false := by simp; omega
      clear hA hB
      go_wp2
      go_loop [6, 7] (fun v i => (∃ s : Nat, s ≤ k ∧ i = .int .i64 s ∧ v = .int .u64 (vd l k (s + 1))) ∨ (i = .int .i64 (-1) ∧ v = .int .u64 (vd l k 0))) (fun _ i => (intOf i + 1).toNat)
      case atStart => exact .inl ⟨k, Nat.le_refl _, by go_num, by rw [vd_end]⟩
      case round =>
        clear hcell hx0 hx1 HX
        rcases hrel with ⟨s, hs, rfl, rfl⟩ | ⟨rfl, rfl⟩
        · obtain ⟨y, hy⟩ : ∃ y, y = B (nth l s) := ⟨_, rfl⟩
          have hcell := HC.out s (by omega)
          obtain ⟨hy0, hy1⟩ := B_range (nth l s)
          have hst := vd_step hs hkl
          rw [← hy] at hcell hy0 hy1 hst
          clear hy
          obtain ⟨hV0, hV1⟩ := vd_bound hs hkl HV.out
          have HST : Hid (vd l k (s + 1) * 128 + y % 128 = vd l k s) := hst
          clear hst
          obtain ⟨V, hV⟩ : ∃ V, V = vd l k (s + 1) := ⟨_, rfl⟩
          rw [← hV] at hV0 hV1 HST ⊢
          clear hV
          go_wp2
          go_round
          case rel =>
            cases s with
            | zero => exact .inr ⟨by go_num, by rw [HST.out]⟩
            | succ s => exact .inl ⟨s, by omega, by go_num, by rw [HST.out]⟩
          case measure => simp [intOf]
        · go_wp2
          go_ret3
          exact ⟨rtold_ok HT.out (vd_zero l k) (by go_num), rfl⟩
    · obtain rfl : k = 0 := by omega
      rw [Nat.add_zero] at hcell
      clear hA hB
      go_wp2
      go_loop [6, 7] (fun v i => (∃ s : Nat, s ≤ 0 ∧ i = .int .i64 s ∧ v = .int .u64 (vd l 0 (s + 1))) ∨ (i = .int .i64 (-1) ∧ v = .int .u64 (vd l 0 0))) (fun _ i => (intOf i + 1).toNat)
      case atStart => exact .inl ⟨0, Nat.le_refl _, by go_num, by rw [vd_end]⟩
      case round =>
        clear hcell hx0 hx1 HX
        rcases hrel with ⟨s, hs, rfl, rfl⟩ | ⟨rfl, rfl⟩
        · obtain ⟨y, hy⟩ : ∃ y, y = B (nth l s) := ⟨_, rfl⟩
          have hcell := HC.out s (by omega)
          obtain ⟨hy0, hy1⟩ := B_range (nth l s)
          have hst := vd_step hs hkl
          rw [← hy] at hcell hy0 hy1 hst
          clear hy
          obtain ⟨hV0, hV1⟩ := vd_bound hs hkl HV.out
          have HST : Hid (vd l 0 (s + 1) * 128 + y % 128 = vd l 0 s) := hst
          clear hst
          obtain ⟨V, hV⟩ : ∃ V, V = vd l 0 (s + 1) := ⟨_, rfl⟩
          rw [← hV] at hV0 hV1 HST ⊢
          clear hV
          go_wp2
          go_round
          case rel =>
            cases s with
            | zero => exact .inr ⟨by go_num, by rw [HST.out]⟩
            | succ s => exact .inl ⟨s, by omega, by go_num, by rw [HST.out]⟩
          case measure => simp [intOf]
        · go_wp2
          go_ret3
          exact ⟨rtold_ok HT.out (vd_zero l 0) (by go_num), rfl⟩
end V
namespace V
open Go.RowKit Pack

set_option maxRecDepth 100000 in
theorem rreadUint_any (v : Value) (l : List (BitVec 8)) (w : World) (h : ReadsV w v l) :
    Calls Try.prog 82 #[v] w fun e w' => RTold l e ∧ w' = w := by
  obtain ⟨a, cap, rfl, hn, hlc, hcm, hr⟩ := h
  rw [maxLen_eq] at hcm
  rcases hr.2 with rfl | ⟨b, off, rfl, hc⟩
  · clear hr
    go_enter Try.func82, Try.ntmps82
    go_wp2
    refine wp_loop_rounds 1 ?_
    rw [rounds_succ]
    go_wp2
    go_ret3
    exact ⟨rtold_short rfl, rfl⟩
  · exact rreadUint_cells b off l.length cap l w rfl (by omega) hc

theorem rreadUint_ok (v : Value) (l : List (BitVec 8)) (k m : Nat) (w : World) (h : ReadsV w v l) (hk : rd 0 l = .ok k) (hm : val (l.take k) = m) :
    Calls Try.prog 82 #[v] w fun e w' => e = .returned (.tuple #[.int .u64 m, .int .i64 k, .int .i64 0]) ∧ w' = w := by
  refine (rreadUint_any v l w h).mono ?_
  rintro e w' ⟨ht, rfl⟩
  unfold RTold at ht
  rw [hk] at ht
  refine ⟨ht.trans ?_, rfl⟩
  unfold vt; rw [hm]
theorem rreadUint_err (v : Value) (l : List (BitVec 8)) (c : Int) (w : World) (h : ReadsV w v l) (hk : ∀ k, rd 0 l ≠ .ok k) (hc : code (rd 0 l) = c) :
    Calls Try.prog 82 #[v] w fun e w' => e = .returned (.tuple #[.int .u64 0, .int .i64 0, .int .i64 c]) ∧ w' = w := by
  subst hc
  refine (rreadUint_any v l w h).mono ?_
  rintro e w' ⟨ht, rfl⟩
  unfold RTold at ht
  rcases hr : rd 0 l with k | c
  · exact absurd hr (hk k)
  · rw [hr] at ht
    cases c
    · exact ⟨ht, rfl⟩
    · exact ⟨ht, rfl⟩

theorem piece0 {w : World} {a : Option Addr} {n c k m : Nat} {l : List (BitVec 8)} (h : ReadsV w (.slice a n c) l) (hk : k ≤ n) (hm : m ≤ n - k) (hc : c = k) : ReadsV w (.slice a m 0) ((l.drop k).take m) := by
  obtain ⟨a', c', hv, hn, h1, h2, hr⟩ := h
  simp only [Value.slice.injEq] at hv
  obtain ⟨rfl, rfl, rfl⟩ := hv
  have h0 : m = 0 := by omega
  subst h0
  exact ⟨a, 0, rfl, fun _ => rfl, Nat.le_refl _, by decide, by simp, .inl (by simp)⟩
theorem piece {w : World} {a : Option Addr} {n c k m : Nat} {l : List (BitVec 8)} (h : ReadsV w (.slice a n c) l) (hk : k ≤ n) (hm : m ≤ n - k) (hc : ¬ c = k) : ReadsV w (.slice (a.map (fun x => x.add k)) m (c - k)) ((l.drop k).take m) := by
  obtain ⟨a', c', hv, hn, h1, h2, hr⟩ := h
  simp only [Value.slice.injEq] at hv
  obtain ⟨rfl, rfl, rfl⟩ := hv
  have := ReadsV.cut hr (k := k) (h := k + m) (m := c) (fun ha => by have := hn ha; omega) (by omega) (by omega) (by omega) h2
  rw [if_neg hc, Nat.mul_one, Nat.add_sub_cancel_left, ← List.take_drop] at this
  exact this
/-- What lies behind the first k bytes. -/
theorem tailA {w : World} {a : Option Addr} {n c k : Nat} {l : List (BitVec 8)} (h : ReadsV w (.slice a n c) l) (hk : k ≤ n) (hc : ¬ c = k) : ReadsV w (.slice (a.map (fun x => x.add k)) (n - k) (c - k)) (l.drop k) := by
  obtain ⟨a', c', hv, hn, h1, h2, hr⟩ := h
  simp only [Value.slice.injEq] at hv
  obtain ⟨rfl, rfl, rfl⟩ := hv
  have := ReadsV.cut hr (k := k) (h := l.length) (m := c) (fun ha => by have := hn ha; omega) (by omega) (by omega) (by omega) h2
  rw [if_neg hc, Nat.mul_one, List.take_length] at this
  exact this
theorem tailB {w : World} {a b : Option Addr} {n c k : Nat} {l : List (BitVec 8)} (h : ReadsV w (.slice a n c) l) (hc : c ≤ k) : ReadsV w (.slice b 0 0) (l.drop k) := by
  obtain ⟨a', c', hv, hn, h1, h2, hr⟩ := h
  simp only [Value.slice.injEq] at hv
  obtain ⟨rfl, rfl, rfl⟩ := hv
  rw [List.drop_of_length_le (by omega)]
  exact ⟨b, 0, rfl, fun _ => rfl, Nat.le_refl _, by decide, by decide, .inl rfl⟩

theorem unzz_odd' {m : Nat} (h : m % 2 = 1) : -((m : Int) / 2) - 1 = unzz m := by unfold unzz; rw [if_pos h]; omega

set_option maxRecDepth 100000 in
theorem rreadInt_ok (v : Value) (l : List (BitVec 8)) (k m : Nat) (w : World) (h : ReadsV w v l) (hk : rd 0 l = .ok k) (hm : val (l.take k) = m) :
    Calls Try.prog 71 #[v] w fun e w' => e = .returned (.tuple #[.int .i64 (unzz m), .int .i64 k, .int .i64 0]) ∧ w' = w := by
  have HR : Hid (ReadsV w v l) := h
  have HK : Hid (rd 0 l = .ok k) := hk
  have HM : Hid (val (l.take k) = m) := hm
  have hm64 : m < 18446744073709551616 := by rw [← hm]; exact (rd0_ok hk).2.2.2.2
  clear h hk hm
  by_cases hodd : m % 2 = 1
  · have HV : Hid (_ = _) := unzz_odd' hodd
    go_enter Try.func71, Try.ntmps71
    go_wp2_with (go_at_call 82; refine (rreadUint_ok _ l k m _ HR.out HK.out HM.out).mono ?_; rintro e w' ⟨rfl, rfl⟩)
    go_ret3
    exact ⟨ret3_first HV.out, rfl⟩
  · have HV : Hid (_ = _) := unzz_even hodd
    have hev : m % 2 = 0 := by omega
    go_enter Try.func71, Try.ntmps71
    go_wp2_with (go_at_call 82; refine (rreadUint_ok _ l k m _ HR.out HK.out HM.out).mono ?_; rintro e w' ⟨rfl, rfl⟩)
    go_ret3
    exact ⟨ret3_first HV.out, rfl⟩

set_option maxRecDepth 100000 in
theorem rreadInt_err (v : Value) (l : List (BitVec 8)) (c : Int) (w : World) (h : ReadsV w v l) (hk : ∀ k, rd 0 l ≠ .ok k) (hc : code (rd 0 l) = c) :
    Calls Try.prog 71 #[v] w fun e w' => e = .returned (.tuple #[.int .i64 0, .int .i64 0, .int .i64 c]) ∧ w' = w := by
  have HR : Hid (ReadsV w v l) := h
  have HK : Hid (∀ k, rd 0 l ≠ .ok k) := hk
  have HC : Hid (code (rd 0 l) = c) := hc
  have hne : (c != 0) = true := by
    have := code_ne hk
    simp; omega
  clear h hk hc
  go_enter Try.func71, Try.ntmps71
  go_wp2_with (go_at_call 82; refine (rreadUint_err _ l c _ HR.out HK.out HC.out).mono ?_; rintro e w' ⟨rfl, rfl⟩)
  go_ret3
  exact ⟨rfl, rfl⟩

set_option maxRecDepth 100000 in
theorem rreadBytes_err (v : Value) (l : List (BitVec 8)) (c : Int) (w : World) (h : ReadsV w v l) (hk : ∀ k, rd 0 l ≠ .ok k) (hc : code (rd 0 l) = c) :
    Calls Try.prog 72 #[v] w fun e w' => e = .returned (.tuple #[.slice none 0 0, .int .i64 0, .int .i64 c]) ∧ w' = w := by
  have HR : Hid (ReadsV w v l) := h
  have HK : Hid (∀ k, rd 0 l ≠ .ok k) := hk
  have HC : Hid (code (rd 0 l) = c) := hc
  have hne : (c != 0) = true := by
    have := code_ne hk
    simp; omega
  clear h hk hc
  go_enter Try.func72, Try.ntmps72
  go_wp2_with (go_at_call 82; refine (rreadUint_err _ l c _ HR.out HK.out HC.out).mono ?_; rintro e w' ⟨rfl, rfl⟩)
  go_ret3
  exact ⟨rfl, rfl⟩

set_option maxRecDepth 100000 in
theorem rreadBytes_short (v : Value) (l : List (BitVec 8)) (k m : Nat) (w : World) (h : ReadsV w v l) (hk : rd 0 l = .ok k) (hm : val (l.take k) = m) (hlt : l.length - k < m) :
    Calls Try.prog 72 #[v] w fun e w' => e = .returned (.tuple #[.slice none 0 0, .int .i64 0, .int .i64 5]) ∧ w' = w := by
  have HR : Hid (ReadsV w v l) := h
  have HK : Hid (rd 0 l = .ok k) := hk
  have HM : Hid (val (l.take k) = m) := hm
  have hm64 : m < 18446744073709551616 := by rw [← hm]; exact (rd0_ok hk).2.2.2.2
  have hkl := (rd0_ok hk).2.1
  obtain ⟨a, c, rfl, _, hlc, hcm, hr⟩ := h
  obtain ⟨n, hn⟩ : ∃ n, l.length = n := ⟨_, rfl⟩
  rw [hn] at HR hlc hlt hkl ⊢
  rw [maxLen_eq] at hcm
  have hlt' : (n : Int) - k < m := by omega
  clear hk hm hn hr hlt
  go_enter Try.func72, Try.ntmps72
  go_wp2_with (go_at_call 82; refine (rreadUint_ok _ l k m _ HR.out HK.out HM.out).mono ?_; rintro e w' ⟨rfl, rfl⟩)
  go_ret3
  exact ⟨rfl, rfl⟩

set_option maxRecDepth 100000 in
theorem rreadBytes_ok (v : Value) (l : List (BitVec 8)) (k m : Nat) (w : World) (h : ReadsV w v l) (hk : rd 0 l = .ok k) (hm : val (l.take k) = m) (hlt : m ≤ l.length - k) :
    Calls Try.prog 72 #[v] w fun e w' => ∃ sv, e = .returned (.tuple #[sv, .int .i64 ((k : Int) + m), .int .i64 0]) ∧ ReadsV w sv ((l.drop k).take m) ∧ w' = w := by
  have HR : Hid (ReadsV w v l) := h
  have HK : Hid (rd 0 l = .ok k) := hk
  have HM : Hid (val (l.take k) = m) := hm
  have hm64 : m < 18446744073709551616 := by rw [← hm]; exact (rd0_ok hk).2.2.2.2
  have hkl := (rd0_ok hk).2.1
  obtain ⟨a, c, rfl, _, hlc, hcm, hr⟩ := h
  obtain ⟨n, hn⟩ : ∃ n, l.length = n := ⟨_, rfl⟩
  rw [hn] at HR hlc hlt hkl ⊢
  rw [maxLen_eq] at hcm
  have hlt' : ¬ (n : Int) - k < m := by omega
  clear hk hm hn hr hlt
  go_enter Try.func72, Try.ntmps72
  go_wp2_with (go_at_call 82; refine (rreadUint_ok _ l k m _ HR.out HK.out HM.out).mono ?_; rintro e w' ⟨rfl, rfl⟩)
  · go_ret3
    exact ⟨_, rfl, piece0 HR.out hkl (by omega) (by assumption), rfl⟩
  · go_ret3
    exact ⟨_, rfl, piece HR.out hkl (by omega) (by assumption), rfl⟩
end V
end Go.Proofs.Ytjafjheffbbkmaa
