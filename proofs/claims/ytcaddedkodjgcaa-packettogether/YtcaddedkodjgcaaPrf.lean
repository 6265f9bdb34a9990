/-
  The document's own ReadUint: a contract.
-/
import Derived.Test.YtcaddedkodjgcaaPrs
namespace Go.Proofs.Ytcaddedkodjgcaa
open Go.RowKit Pack

theorem rd_skip {l : List (BitVec 8)} : ∀ {k : Nat}, k ≤ 9 → k ≤ l.length → (∀ j, j < k → 128 ≤ B (nth l j)) → rd 0 l = rd k (l.drop k)
  | 0, _, _, _ => rfl
  | k + 1, h9, hl, h => by
    rw [rd_skip (k := k) (by omega) (by omega) (fun j hj => h j (by omega)), rd_at (by omega) rfl]
    have := h k (by omega)
    rw [if_neg (by omega), if_neg (by omega)]

theorem rd_ten {l : List (BitVec 8)} (hl : 10 ≤ l.length) (h : ∀ j, j < 10 → 128 ≤ B (nth l j)) : rd 0 l = .range := by
  rw [rd_skip (k := 9) (by omega) (by omega) (fun j hj => h j (by omega)), rd_at (by omega) rfl]
  have := h 9 (by omega)
  rw [if_pos (.inl ⟨rfl, by omega⟩)]

/-- The number of the bytes from t to k. -/
def vd (l : List (BitVec 8)) (k t : Nat) : Int := (val ((l.take (k + 1)).drop t) : Nat)
theorem vd_end (l : List (BitVec 8)) (k : Nat) : vd l k (k + 1) = 0 := by unfold vd; rw [List.drop_of_length_le (by simp; omega)]; rfl
theorem vd_zero (l : List (BitVec 8)) (k : Nat) : vd l k 0 = vt l (k + 1) := rfl
theorem vd_step {l : List (BitVec 8)} {k s : Nat} (hs : s ≤ k) (hk : k < l.length) : vd l k (s + 1) * 128 + B (nth l s) % 128 = vd l k s := by
  unfold vd B
  rw [drop_nth (l := l.take (k + 1)) (k := s) (by simp; omega)]
  simp only [val]
  have e : nth (l.take (k + 1)) s = nth l s := by simp [nth, show s < k + 1 by omega]
  rw [e]; omega
theorem vd_bound {l : List (BitVec 8)} {k s : Nat} (hs : s ≤ k) (hk : k < l.length) (hv : val (l.take (k + 1)) < 18446744073709551616) : 0 ≤ vd l k (s + 1) ∧ vd l k (s + 1) ≤ 144115188075855871 := by
  have h1 := vd_step hs hk
  have h2 : vd l k s < 18446744073709551616 := by
    unfold vd
    have := val_append ((l.take (k + 1)).take s) ((l.take (k + 1)).drop s)
    rw [List.take_append_drop] at this
    have h3 : 1 * val ((l.take (k + 1)).drop s) ≤ 128 ^ ((l.take (k + 1)).take s).length * val ((l.take (k + 1)).drop s) := Nat.mul_le_mul_right _ (Nat.pow_pos (by decide))
    omega
  have h3 : 0 ≤ vd l k (s + 1) := by unfold vd; omega
  have := B_range (nth l s)
  omega

/-- What the document's ReadUint tells. -/
def RTold (l : List (BitVec 8)) (e : Ending) : Prop :=
  match rd 0 l with
  | .inl k => e = .returned (.tuple #[.int .u64 (vt l k), .int .i64 k, .int .i64 0])
  | r => e = .returned (.tuple #[.int .u64 0, .int .i64 0, .int .i64 (code r)])
theorem rtold_range {l : List (BitVec 8)} (h : rd 0 l = .range) : RTold l (.returned (.tuple #[.int .u64 0, .int .i64 0, .int .i64 2])) := by unfold RTold; rw [h]; rfl
theorem rtold_short {l : List (BitVec 8)} (h : rd 0 l = .short) : RTold l (.returned (.tuple #[.int .u64 0, .int .i64 0, .int .i64 5])) := by unfold RTold; rw [h]; rfl
theorem rtold_ok {l : List (BitVec 8)} {k : Nat} {x y : Int} (h : rd 0 l = .ok k) (hx : x = vt l k) (hy : y = (k : Int)) : RTold l (.returned (.tuple #[.int .u64 x, .int .i64 y, .int .i64 0])) := by
  subst hx; subst hy; unfold RTold; rw [h]

set_option maxRecDepth 100000 in
set_option maxHeartbeats 1000000 in
theorem rreadUint_cells (b off n cap : Nat) (l : List (BitVec 8)) (w : World) (hn : n = l.length) (hm : n ≤ 9223372036854775807) (hc : ∀ i, i < n → w.cell? ⟨b, off + i, none⟩ = some (.int .u8 (B (nth l i)))) :
    Calls Try.prog 49 #[.slice (some ⟨b, off, none⟩) n cap] w fun e w' => RTold l e ∧ w' = w := by
  have HN : Hid (n = l.length) := hn
  have HC : Hid (∀ i, i < n → w.cell? ⟨b, off + i, none⟩ = some (.int .u8 (B (nth l i)))) := hc
  clear hn hc
  go_enter Try.func49, Try.ntmps49
  go_wp2
  go_loop [5] (fun i => ∃ k : Nat, k ≤ n ∧ k ≤ 10 ∧ i = .int .i64 k ∧ Hid (∀ j, j < k → 128 ≤ B (nth l j))) (fun i => n - (intOf i).toNat)
  case atStart => exact ⟨0, Nat.zero_le _, Nat.zero_le _, rfl, fun j hj => absurd hj (Nat.not_lt_zero _)⟩
  case round =>
    obtain ⟨k, hk, hk10, rfl, HA⟩ := hrel
    by_cases hten : k = 10
    · subst hten
      have HT : Hid (rd 0 l = .range) := rd_ten (by rw [← HN.out]; exact hk) HA.out
      obtain ⟨x, hx⟩ : ∃ x, x = B (nth l 9) := ⟨_, rfl⟩
      have hcell := HC.out 9 (by omega)
      have hx9 := HA.out 9 (by omega)
      obtain ⟨hx0, hx1⟩ := B_range (nth l 9)
      rw [← hx] at hcell hx9 hx0 hx1
      clear hx
      go_wp2
      all_goals (go_ret3; exact ⟨rtold_range HT.out, rfl⟩)
    by_cases hlt : k < n
    case neg =>
      have hkn : k = n := by omega
      subst hkn
      have HT : Hid (rd 0 l = .short) := by show _ = _; rw [rd_skip (k := k) (by omega) (by rw [← HN.out]; exact hk) HA.out, List.drop_of_length_le (by rw [← HN.out]; exact Nat.le_refl _)]; rfl
      go_wp2
      go_ret3
      exact ⟨rtold_short HT.out, rfl⟩
    obtain ⟨x, hx⟩ : ∃ x, x = B (nth l k) := ⟨_, rfl⟩
    have HX : Hid (x = B (nth l k)) := hx
    have hcell := HC.out k hlt
    obtain ⟨hx0, hx1⟩ := B_range (nth l k)
    rw [← hx] at hcell hx0 hx1
    clear hx
    by_cases hhigh : 127 < x
    · have HA2 : Hid (∀ j, j < k + 1 → 128 ≤ B (nth l j)) := fun j hj => by
        rcases Nat.lt_succ_iff_lt_or_eq.1 hj with h | h
        · exact HA.out j h
        · rw [h, ← HX.out]; omega
      go_wp2
      go_round
      case rel => exact ⟨k + 1, by omega, by omega, by go_num, HA2⟩
      case measure => simp [intOf]; omega
    have HD : Hid (_ = _) := (rd_skip (k := k) (by omega) (by rw [← HN.out]; exact hk) HA.out).trans (rd_at (by rw [← HN.out]; exact hlt) HX.out)
    by_cases hA : k = 9 ∧ 1 < x
    · have HT : Hid (rd 0 l = .range) := by show _ = _; rw [HD.out, if_pos (.inl hA)]
      obtain ⟨rfl, hA⟩ := hA
      go_wp2
      go_ret3
      exact ⟨rtold_range HT.out, rfl⟩
    by_cases hB : 0 < k ∧ x = 0
    · have HT : Hid (rd 0 l = .range) := by show _ = _; rw [HD.out, if_pos (.inr hB)]
      obtain ⟨hB, rfl⟩ := hB
      by_cases h9 : k = 9
      · subst h9
        go_wp2
        go_ret3
        exact ⟨rtold_range HT.out, rfl⟩
      · go_wp2
        go_ret3
        exact ⟨rtold_range HT.out, rfl⟩
    have HT : Hid (rd 0 l = .ok (k + 1)) := by show _ = _; rw [HD.out, if_neg (by omega), if_pos (by omega)]
    have hkl : k < l.length := by rw [← HN.out]; exact hlt
    have HV : Hid (val (l.take (k + 1)) < 18446744073709551616) := (rd0_ok HT.out).2.2.2.2
    by_cases h9 : 9 ≤ k
    · have hcell9 : w.cell? ⟨b, off + 9, none⟩ = some (.int .u8 x) := by
        have e : k = 9 := by omega
        rw [e] at hcell; exact hcell
      have hx1' : x = 1 := by omega
      have hk0 : 0 < k := by omega
      clear hA hB
      go_wp2
      go_loop [6, 7] (fun v i => (∃ s : Nat, s ≤ k ∧ i = .int .i64 s ∧ v = .int .u64 (vd l k (s + 1))) ∨ (i = .int .i64 (-1) ∧ v = .int .u64 (vd l k 0))) (fun _ i => (intOf i + 1).toNat)
      case atStart => exact .inl ⟨k, Nat.le_refl _, by go_num, by rw [vd_end]⟩
      case round =>
        clear hcell hx0 hx1 HX
        rcases hrel with ⟨s, hs, rfl, rfl⟩ | ⟨rfl, rfl⟩
        · obtain ⟨y, hy⟩ : ∃ y, y = B (nth l s) := ⟨_, rfl⟩
          have hcell := HC.out s (by omega)
          obtain ⟨hy0, hy1⟩ := B_range (nth l s)
          have hst := vd_step hs hkl
          rw [← hy] at hcell hy0 hy1 hst
          clear hy
          obtain ⟨hV0, hV1⟩ := vd_bound hs hkl HV.out
          have HST : Hid (vd l k (s + 1) * 128 + y % 128 = vd l k s) := hst
          clear hst
          obtain ⟨V, hV⟩ : ∃ V, V = vd l k (s + 1) := ⟨_, rfl⟩
          rw [← hV] at hV0 hV1 HST ⊢
          clear hV
          go_wp2
          go_round
          case rel =>
            cases s with
            | zero => exact .inr ⟨by go_num, by rw [HST.out]⟩
            | succ s => exact .inl ⟨s, by omega, by go_num, by rw [HST.out]⟩
          case measure => simp [intOf]
        · go_wp2
          go_ret3
          exact ⟨rtold_ok HT.out (vd_zero l k) (by go_num), rfl⟩
    by_cases hk0 : 0 < k
    · have hx0' : (x == 0) = false := by simp; omega
      clear hA hB
      go_wp2
      go_loop [6, 7] (fun v i => (∃ s : Nat, s ≤ k ∧ i = .int .i64 s ∧ v = .int .u64 (vd l k (s + 1))) ∨ (i = .int .i64 (-1) ∧ v = .int .u64 (vd l k 0))) (fun _ i => (intOf i + 1).toNat)
      case atStart => exact .inl ⟨k, Nat.le_refl _, by go_num, by rw [vd_end]⟩
      case round =>
        clear hcell hx0 hx1 HX
        rcases hrel with ⟨s, hs, rfl, rfl⟩ | ⟨rfl, rfl⟩
        · obtain ⟨y, hy⟩ : ∃ y, y = B (nth l s) := ⟨_, rfl⟩
          have hcell := HC.out s (by omega)
          obtain ⟨hy0, hy1⟩ := B_range (nth l s)
          have hst := vd_step hs hkl
          rw [← hy] at hcell hy0 hy1 hst
          clear hy
          obtain ⟨hV0, hV1⟩ := vd_bound hs hkl HV.out
          have HST : Hid (vd l k (s + 1) * 128 + y % 128 = vd l k s) := hst
          clear hst
          obtain ⟨V, hV⟩ : ∃ V, V = vd l k (s + 1) := ⟨_, rfl⟩
          rw [← hV] at hV0 hV1 HST ⊢
          clear hV
          go_wp2
          go_round
          case rel =>
            cases s with
            | zero => exact .inr ⟨by go_num, by rw [HST.out]⟩
            | succ s => exact .inl ⟨s, by omega, by go_num, by rw [HST.out]⟩
          case measure => simp [intOf]
        · go_wp2
          go_ret3
          exact ⟨rtold_ok HT.out (vd_zero l k) (by go_num), rfl⟩
    · obtain rfl : k = 0 := by omega
      rw [Nat.add_zero] at hcell
      clear hA hB
      go_wp2
      go_loop [6, 7] (fun v i => (∃ s : Nat, s ≤ 0 ∧ i = .int .i64 s ∧ v = .int .u64 (vd l 0 (s + 1))) ∨ (i = .int .i64 (-1) ∧ v = .int .u64 (vd l 0 0))) (fun _ i => (intOf i + 1).toNat)
      case atStart => exact .inl ⟨0, Nat.le_refl _, by go_num, by rw [vd_end]⟩
      case round =>
        clear hcell hx0 hx1 HX
        rcases hrel with ⟨s, hs, rfl, rfl⟩ | ⟨rfl, rfl⟩
        · obtain ⟨y, hy⟩ : ∃ y, y = B (nth l s) := ⟨_, rfl⟩
          have hcell := HC.out s (by omega)
          obtain ⟨hy0, hy1⟩ := B_range (nth l s)
          have hst := vd_step hs hkl
          rw [← hy] at hcell hy0 hy1 hst
          clear hy
          obtain ⟨hV0, hV1⟩ := vd_bound hs hkl HV.out
          have HST : Hid (vd l 0 (s + 1) * 128 + y % 128 = vd l 0 s) := hst
          clear hst
          obtain ⟨V, hV⟩ : ∃ V, V = vd l 0 (s + 1) := ⟨_, rfl⟩
          rw [← hV] at hV0 hV1 HST ⊢
          clear hV
          go_wp2
          go_round
          case rel =>
            cases s with
            | zero => exact .inr ⟨by go_num, by rw [HST.out]⟩
            | succ s => exact .inl ⟨s, by omega, by go_num, by rw [HST.out]⟩
          case measure => simp [intOf]
        · go_wp2
          go_ret3
          exact ⟨rtold_ok HT.out (vd_zero l 0) (by go_num), rfl⟩

end Go.Proofs.Ytcaddedkodjgcaa
