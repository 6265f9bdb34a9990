/-
  The program's ReadInt and ReadBytes: contracts.
-/
import Derived.Test.YtcaddedkodjgcaaPrd
namespace Go.Proofs.Ytcaddedkodjgcaa
open Go.RowKit Pack

/-- The error's number. -/
def code : Res → Int
  | .inl _ => 0
  | .inr true => 2
  | .inr false => 5

theorem readUint_ok (v : Value) (l : List (BitVec 8)) (k m : Nat) (w : World) (h : ReadsV w v l) (hk : rd 0 l = .ok k) (hm : val (l.take k) = m) :
    Calls Try.prog 62 #[v] w fun e w' => ∃ a c, e = .returned (.tuple #[.int .u64 m, .slice a (l.length - k) c, .int .i64 0]) ∧ ReadsV w' (.slice a (l.length - k) c) (l.drop k) ∧ Below w.heap.size w w' ∧ Near v (.slice a (l.length - k) c) := by
  refine (readUint_any v l w h).mono ?_
  rintro e w' ⟨ht, hB⟩
  unfold Told at ht
  rw [hk] at ht
  obtain ⟨rv, rfl, hr, hNr⟩ := ht
  have hr' := hr
  obtain ⟨a, c, rfl, _⟩ := hr
  rw [List.length_drop] at hr' ⊢
  rw [List.length_drop] at hNr
  refine ⟨a, c, ?_, hr', hB, hNr⟩
  unfold vt; rw [hm]
theorem readUint_err (v : Value) (l : List (BitVec 8)) (c : Int) (w : World) (h : ReadsV w v l) (hk : ∀ k, rd 0 l ≠ .ok k) (hc : code (rd 0 l) = c) :
    Calls Try.prog 62 #[v] w fun e w' => e = .returned (.tuple #[.int .u64 0, .slice none 0 0, .int .i64 c]) ∧ Below w.heap.size w w' := by
  subst hc
  refine (readUint_any v l w h).mono ?_
  rintro e w' ⟨ht, hB⟩
  unfold Told at ht
  rcases hr : rd 0 l with k | c
  · exact absurd hr (hk k)
  · rw [hr] at ht
    cases c
    · exact ⟨ht, hB⟩
    · exact ⟨ht, hB⟩

theorem ret3_first {k : IntKind} {a b : Int} {x y : Value} (h : a = b) : Ending.returned (.tuple #[.int k a, x, y]) = .returned (.tuple #[.int k b, x, y]) := by rw [h]

theorem ReadsV.cap {w : World} {a : Option Addr} {n c : Nat} {l : List (BitVec 8)} (h : ReadsV w (.slice a n c) l) : n ≤ c := by
  obtain ⟨_, _, hv, _, h1, _⟩ := h
  simp only [Value.slice.injEq] at hv
  omega

theorem cut_head {w : World} {a : Option Addr} {n c m : Nat} {r : List (BitVec 8)} (h : ReadsV w (.slice a n c) r) (hm : m ≤ n) : ReadsV w.drew (.slice a m m) (r.take m) := by
  obtain ⟨a', c', hv, hn, h1, h2, hr⟩ := h
  simp only [Value.slice.injEq] at hv
  obtain ⟨rfl, rfl, rfl⟩ := hv
  have hl : (r.take m).length = m := by simp; omega
  refine ⟨a, m, by rw [hl], fun ha => by have := hn ha; omega, by omega, by omega, ?_⟩
  have hc : Reads w.drew a ((r.take m).drop 0) := by
    have := hr.cut 0 m (decide (m = 0)) (by simp)
    by_cases h0 : m = 0
    · subst h0; exact ⟨by simp, .inl (by simp)⟩
    · have e : a.map (·.add 0) = a ∨ r = [] := by
        rcases hr.2 with h | ⟨b, off, rfl, _⟩
        · exact .inr h
        · exact .inl (by simp [add_plain])
      rcases e with e | e
      · rw [decide_eq_false h0] at this
        simp only [cond_false, e] at this
        exact this
      · subst e; simp at hm; omega
  simpa using hc
theorem cut_tail0 {w : World} {a : Option Addr} {n c k m : Nat} {l : List (BitVec 8)} (h : ReadsV w (.slice a n c) (l.drop k)) (hc : c = m) : ReadsV w.drew (.slice a (n - m) 0) (l.drop (k + m)) := by
  obtain ⟨a', c', hv, hn, h1, h2, hr⟩ := h
  simp only [Value.slice.injEq] at hv
  obtain ⟨rfl, rfl, rfl⟩ := hv
  rw [← List.drop_drop]
  have e : (l.drop k).drop m = [] := List.drop_of_length_le (by omega)
  rw [e, show (l.drop k).length - m = 0 by omega]
  exact ⟨a, 0, rfl, fun _ => rfl, Nat.le_refl _, by decide, by decide, .inl rfl⟩
theorem cut_tail {w : World} {a : Option Addr} {n c k m : Nat} {l : List (BitVec 8)} (h : ReadsV w (.slice a n c) (l.drop k)) (hm : m ≤ n) (hc : ¬ c = m) : ReadsV w.drew (.slice (a.map (fun x => x.add m)) (n - m) (c - m)) (l.drop (k + m)) := by
  obtain ⟨a', c', hv, hn, h1, h2, hr⟩ := h
  simp only [Value.slice.injEq] at hv
  obtain ⟨rfl, rfl, rfl⟩ := hv
  have := ReadsV.cut (w := w.drew) hr (k := m) (h := (l.drop k).length) (m := c) (fun ha => by have := hn ha; omega) hm (Nat.le_refl _) h1 h2
  rw [if_neg hc, Nat.mul_one, List.take_length, List.drop_drop] at this
  exact this

theorem add_block (x : Addr) (m : Nat) : (x.add m).block = x.block := by unfold Addr.add; split <;> rfl
theorem code_ne {r : Res} (h : ∀ k, r ≠ .ok k) : code r = 2 ∨ code r = 5 := by
  rcases r with k | c
  · exact absurd rfl (h k)
  · cases c
    · exact .inr rfl
    · exact .inl rfl

set_option maxRecDepth 100000 in
theorem readBytes_err (v : Value) (l : List (BitVec 8)) (c : Int) (w : World) (h : ReadsV w v l) (hk : ∀ k, rd 0 l ≠ .ok k) (hc : code (rd 0 l) = c) :
    Calls Try.prog 64 #[v] w fun e w' => e = .returned (.tuple #[.slice none 0 0, .slice none 0 0, .int .i64 c]) ∧ Below w.heap.size w w' := by
  have HR : Hid (ReadsV w v l) := h
  have HK : Hid (∀ k, rd 0 l ≠ .ok k) := hk
  have HC : Hid (code (rd 0 l) = c) := hc
  have hne : (c != 0) = true := by
    have := code_ne hk
    simp; omega
  clear h hk hc
  go_enter Try.func64, Try.ntmps64
  go_wp2_with (go_at_call 62; refine (readUint_err _ l c _ HR.out HK.out HC.out).mono ?_; rintro e w' ⟨rfl, hB⟩)
  go_ret3
  exact ⟨rfl, hB⟩

set_option maxRecDepth 100000 in
theorem readBytes_short (v : Value) (l : List (BitVec 8)) (k m : Nat) (w : World) (h : ReadsV w v l) (hk : rd 0 l = .ok k) (hm : val (l.take k) = m) (hlt : l.length - k < m) :
    Calls Try.prog 64 #[v] w fun e w' => e = .returned (.tuple #[.slice none 0 0, .slice none 0 0, .int .i64 5]) ∧ Below w.heap.size w w' := by
  have HR : Hid (ReadsV w v l) := h
  have HK : Hid (rd 0 l = .ok k) := hk
  have HM : Hid (val (l.take k) = m) := hm
  have hm64 : m < 18446744073709551616 := by rw [← hm]; exact (rd0_ok hk).2.2.2.2
  obtain ⟨n, hn⟩ : ∃ n, l.length - k = n := ⟨_, rfl⟩
  have HN : Hid (l.length - k = n) := hn
  have hnm : n ≤ 9223372036854775807 := by obtain ⟨_, _, _, _, _, _, hr⟩ := h; have := hr.1; rw [maxLen_eq] at this; omega
  have hlt' : n < m := by omega
  clear h hk hm hlt hn
  go_enter Try.func64, Try.ntmps64
  go_wp2_with (go_at_call 62; refine (readUint_ok _ l k m _ HR.out HK.out HM.out).mono ?_; rw [HN.out]; rintro e w' ⟨a, c, rfl, hr, hB, _⟩)
  go_ret3
  exact ⟨rfl, hB⟩

set_option maxRecDepth 100000 in
theorem readBytes_ok (v : Value) (l : List (BitVec 8)) (k m : Nat) (w : World) (h : ReadsV w v l) (hk : rd 0 l = .ok k) (hm : val (l.take k) = m) (hlt : m ≤ l.length - k) :
    Calls Try.prog 64 #[v] w fun e w' => ∃ sv rv, e = .returned (.tuple #[sv, rv, .int .i64 0]) ∧ ReadsV w' sv ((l.drop k).take m) ∧ ReadsV w' rv (l.drop (k + m)) ∧ Below w.heap.size w w' ∧ Near v rv := by
  have HR : Hid (ReadsV w v l) := h
  have HK : Hid (rd 0 l = .ok k) := hk
  have HM : Hid (val (l.take k) = m) := hm
  have hm64 : m < 18446744073709551616 := by rw [← hm]; exact (rd0_ok hk).2.2.2.2
  obtain ⟨n, hn⟩ : ∃ n, l.length - k = n := ⟨_, rfl⟩
  have HN : Hid (l.length - k = n) := hn
  have hnm : n ≤ 9223372036854775807 := by obtain ⟨_, _, _, _, _, _, hr⟩ := h; have := hr.1; rw [maxLen_eq] at this; omega
  have hlt' : m ≤ n := by omega
  clear h hk hm hlt hn
  go_enter Try.func64, Try.ntmps64
  go_wp2_with (go_at_call 62; refine (readUint_ok _ l k m _ HR.out HK.out HM.out).mono ?_; rw [HN.out]; rintro e w' ⟨a, c, rfl, hr, hB, hNr⟩)
  have HNr : Hid (Near v (.slice a n c)) := hNr
  clear hNr
  have hnc : n ≤ c := hr.cap
  have hmc : m ≤ c := by omega
  have HQ : Hid (ReadsV w' (.slice a n c) (l.drop k)) := hr
  clear hr
  go_region
  go_wp2
  · go_ret3
    exact ⟨_, _, rfl, cut_head HQ.out hlt', cut_tail0 HQ.out (by assumption), hB.drew, HNr.out.trans (near_cut _ _ _ _ _)⟩
  · go_ret3
    exact ⟨_, _, rfl, cut_head HQ.out hlt', cut_tail HQ.out hlt' (by assumption), hB.drew, HNr.out.trans (near_add _ _ _ _ _ _ (fun x => add_block x m))⟩

end Go.Proofs.Ytcaddedkodjgcaa
