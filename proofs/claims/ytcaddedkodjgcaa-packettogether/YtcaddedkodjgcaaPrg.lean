/-
  The document's own ReadInt and ReadBytes: contracts.
-/
import Derived.Test.YtcaddedkodjgcaaPrf
namespace Go.Proofs.Ytcaddedkodjgcaa
open Go.RowKit Pack

set_option maxRecDepth 100000 in
theorem rreadUint_any (v : Value) (l : List (BitVec 8)) (w : World) (h : ReadsV w v l) :
    Calls Try.prog 49 #[v] w fun e w' => RTold l e ∧ w' = w := by
  obtain ⟨a, cap, rfl, hn, hlc, hcm, hr⟩ := h
  rw [maxLen_eq] at hcm
  rcases hr.2 with rfl | ⟨b, off, rfl, hc⟩
  · clear hr
    go_enter Try.func49, Try.ntmps49
    go_wp2
    refine wp_loop_rounds 1 ?_
    rw [rounds_succ]
    go_wp2
    go_ret3
    exact ⟨rtold_short rfl, rfl⟩
  · exact rreadUint_cells b off l.length cap l w rfl (by omega) hc

theorem rreadUint_ok (v : Value) (l : List (BitVec 8)) (k m : Nat) (w : World) (h : ReadsV w v l) (hk : rd 0 l = .ok k) (hm : val (l.take k) = m) :
    Calls Try.prog 49 #[v] w fun e w' => e = .returned (.tuple #[.int .u64 m, .int .i64 k, .int .i64 0]) ∧ w' = w := by
  refine (rreadUint_any v l w h).mono ?_
  rintro e w' ⟨ht, rfl⟩
  unfold RTold at ht
  rw [hk] at ht
  refine ⟨ht.trans ?_, rfl⟩
  unfold vt; rw [hm]
theorem rreadUint_err (v : Value) (l : List (BitVec 8)) (c : Int) (w : World) (h : ReadsV w v l) (hk : ∀ k, rd 0 l ≠ .ok k) (hc : code (rd 0 l) = c) :
    Calls Try.prog 49 #[v] w fun e w' => e = .returned (.tuple #[.int .u64 0, .int .i64 0, .int .i64 c]) ∧ w' = w := by
  subst hc
  refine (rreadUint_any v l w h).mono ?_
  rintro e w' ⟨ht, rfl⟩
  unfold RTold at ht
  rcases hr : rd 0 l with k | c
  · exact absurd hr (hk k)
  · rw [hr] at ht
    cases c
    · exact ⟨ht, rfl⟩
    · exact ⟨ht, rfl⟩

theorem piece0 {w : World} {a : Option Addr} {n c k m : Nat} {l : List (BitVec 8)} (h : ReadsV w (.slice a n c) l) (hk : k ≤ n) (hm : m ≤ n - k) (hc : c = k) : ReadsV w (.slice a m 0) ((l.drop k).take m) := by
  obtain ⟨a', c', hv, hn, h1, h2, hr⟩ := h
  simp only [Value.slice.injEq] at hv
  obtain ⟨rfl, rfl, rfl⟩ := hv
  have h0 : m = 0 := by omega
  subst h0
  exact ⟨a, 0, rfl, fun _ => rfl, Nat.le_refl _, by decide, by simp, .inl (by simp)⟩
theorem piece {w : World} {a : Option Addr} {n c k m : Nat} {l : List (BitVec 8)} (h : ReadsV w (.slice a n c) l) (hk : k ≤ n) (hm : m ≤ n - k) (hc : ¬ c = k) : ReadsV w (.slice (a.map (fun x => x.add k)) m (c - k)) ((l.drop k).take m) := by
  obtain ⟨a', c', hv, hn, h1, h2, hr⟩ := h
  simp only [Value.slice.injEq] at hv
  obtain ⟨rfl, rfl, rfl⟩ := hv
  have := ReadsV.cut hr (k := k) (h := k + m) (m := c) (fun ha => by have := hn ha; omega) (by omega) (by omega) (by omega) h2
  rw [if_neg hc, Nat.mul_one, Nat.add_sub_cancel_left, ← List.take_drop] at this
  exact this
/-- What lies behind the first k bytes. -/
theorem tailA {w : World} {a : Option Addr} {n c k : Nat} {l : List (BitVec 8)} (h : ReadsV w (.slice a n c) l) (hk : k ≤ n) (hc : ¬ c = k) : ReadsV w (.slice (a.map (fun x => x.add k)) (n - k) (c - k)) (l.drop k) := by
  obtain ⟨a', c', hv, hn, h1, h2, hr⟩ := h
  simp only [Value.slice.injEq] at hv
  obtain ⟨rfl, rfl, rfl⟩ := hv
  have := ReadsV.cut hr (k := k) (h := l.length) (m := c) (fun ha => by have := hn ha; omega) (by omega) (by omega) (by omega) h2
  rw [if_neg hc, Nat.mul_one, List.take_length] at this
  exact this
theorem tailB {w : World} {a b : Option Addr} {n c k : Nat} {l : List (BitVec 8)} (h : ReadsV w (.slice a n c) l) (hc : c ≤ k) : ReadsV w (.slice b 0 0) (l.drop k) := by
  obtain ⟨a', c', hv, hn, h1, h2, hr⟩ := h
  simp only [Value.slice.injEq] at hv
  obtain ⟨rfl, rfl, rfl⟩ := hv
  rw [List.drop_of_length_le (by omega)]
  exact ⟨b, 0, rfl, fun _ => rfl, Nat.le_refl _, by decide, by decide, .inl rfl⟩

set_option maxRecDepth 100000 in
theorem rreadBytes_err (v : Value) (l : List (BitVec 8)) (c : Int) (w : World) (h : ReadsV w v l) (hk : ∀ k, rd 0 l ≠ .ok k) (hc : code (rd 0 l) = c) :
    Calls Try.prog 58 #[v] w fun e w' => e = .returned (.tuple #[.slice none 0 0, .int .i64 0, .int .i64 c]) ∧ w' = w := by
  have HR : Hid (ReadsV w v l) := h
  have HK : Hid (∀ k, rd 0 l ≠ .ok k) := hk
  have HC : Hid (code (rd 0 l) = c) := hc
  have hne : (c != 0) = true := by
    have := code_ne hk
    simp; omega
  clear h hk hc
  go_enter Try.func58, Try.ntmps58
  go_wp2_with (go_at_call 49; refine (rreadUint_err _ l c _ HR.out HK.out HC.out).mono ?_; rintro e w' ⟨rfl, rfl⟩)
  go_ret3
  exact ⟨rfl, rfl⟩

set_option maxRecDepth 100000 in
theorem rreadBytes_short (v : Value) (l : List (BitVec 8)) (k m : Nat) (w : World) (h : ReadsV w v l) (hk : rd 0 l = .ok k) (hm : val (l.take k) = m) (hlt : l.length - k < m) :
    Calls Try.prog 58 #[v] w fun e w' => e = .returned (.tuple #[.slice none 0 0, .int .i64 0, .int .i64 5]) ∧ w' = w := by
  have HR : Hid (ReadsV w v l) := h
  have HK : Hid (rd 0 l = .ok k) := hk
  have HM : Hid (val (l.take k) = m) := hm
  have hm64 : m < 18446744073709551616 := by rw [← hm]; exact (rd0_ok hk).2.2.2.2
  have hkl := (rd0_ok hk).2.1
  obtain ⟨a, c, rfl, _, hlc, hcm, hr⟩ := h
  obtain ⟨n, hn⟩ : ∃ n, l.length = n := ⟨_, rfl⟩
  rw [hn] at HR hlc hlt hkl ⊢
  rw [maxLen_eq] at hcm
  have hlt' : (n : Int) - k < m := by omega
  clear hk hm hn hr hlt
  go_enter Try.func58, Try.ntmps58
  go_wp2_with (go_at_call 49; refine (rreadUint_ok _ l k m _ HR.out HK.out HM.out).mono ?_; rintro e w' ⟨rfl, rfl⟩)
  go_ret3
  exact ⟨rfl, rfl⟩

set_option maxRecDepth 100000 in
theorem rreadBytes_ok (v : Value) (l : List (BitVec 8)) (k m : Nat) (w : World) (h : ReadsV w v l) (hk : rd 0 l = .ok k) (hm : val (l.take k) = m) (hlt : m ≤ l.length - k) :
    Calls Try.prog 58 #[v] w fun e w' => ∃ sv, e = .returned (.tuple #[sv, .int .i64 ((k : Int) + m), .int .i64 0]) ∧ ReadsV w sv ((l.drop k).take m) ∧ w' = w := by
  have HR : Hid (ReadsV w v l) := h
  have HK : Hid (rd 0 l = .ok k) := hk
  have HM : Hid (val (l.take k) = m) := hm
  have hm64 : m < 18446744073709551616 := by rw [← hm]; exact (rd0_ok hk).2.2.2.2
  have hkl := (rd0_ok hk).2.1
  obtain ⟨a, c, rfl, _, hlc, hcm, hr⟩ := h
  obtain ⟨n, hn⟩ : ∃ n, l.length = n := ⟨_, rfl⟩
  rw [hn] at HR hlc hlt hkl ⊢
  rw [maxLen_eq] at hcm
  have hlt' : ¬ (n : Int) - k < m := by omega
  clear hk hm hn hr hlt
  go_enter Try.func58, Try.ntmps58
  go_wp2_with (go_at_call 49; refine (rreadUint_ok _ l k m _ HR.out HK.out HM.out).mono ?_; rintro e w' ⟨rfl, rfl⟩)
  · go_ret3
    exact ⟨_, rfl, piece0 HR.out hkl (by omega) (by assumption), rfl⟩
  · go_ret3
    exact ⟨_, rfl, piece HR.out hkl (by omega) (by assumption), rfl⟩

end Go.Proofs.Ytcaddedkodjgcaa
