/-
  The program's ReadUint: a contract.
-/
import Derived.Test.YtcaddedkodjgcaaPin
namespace Go.Proofs.Ytcaddedkodjgcaa
open Go.RowKit Pack

/-- The number of the first k bytes. -/
def vt (l : List (BitVec 8)) (k : Nat) : Int := (val (l.take k) : Nat)

theorem val_append : ∀ (l m : List (BitVec 8)), val (l ++ m) = val l + 128 ^ l.length * val m
  | [], m => by simp [val]
  | c :: l, m => by
    simp only [List.cons_append, val, val_append l m, List.length_cons, Nat.pow_succ]
    rw [Nat.mul_add, Nat.mul_comm (128 ^ l.length) 128, Nat.mul_assoc]; omega

theorem take_nth {l : List (BitVec 8)} {k : Nat} (h : k < l.length) : l.take (k + 1) = l.take k ++ [nth l k] := by
  rw [List.take_succ_eq_append_getElem h]; simp [nth, h]
theorem drop_nth {l : List (BitVec 8)} {k : Nat} (h : k < l.length) : l.drop k = nth l k :: l.drop (k + 1) := by
  rw [List.drop_eq_getElem_cons h]; simp [nth, h]

theorem val_step {l : List (BitVec 8)} {k : Nat} (h : k < l.length) : val (l.take (k + 1)) = val (l.take k) + 128 ^ k * ((nth l k).toNat % 128) := by
  rw [take_nth h, val_append, List.length_take, Nat.min_eq_left (by omega)]; simp [val]

theorem or_step {l : List (BitVec 8)} {k : Nat} {x : Int} (h : k < l.length) (h9 : k ≤ 9) (h1 : k = 9 → x ≤ 1) (hx : x = B (nth l k)) :
    bits .or .u64 (vt l k) (IntKind.u64.wrap (x % 128 * 2 ^ (7 * k))) = vt l (k + 1) := by
  unfold vt
  rw [val_step h]
  have hl : val (l.take k) < 128 ^ k := by have := val_lt (l.take k); rwa [List.length_take, Nat.min_eq_left (by omega)] at this
  have hp : (128 : Nat) ^ k = 2 ^ (7 * k) := by rw [Nat.pow_mul]
  unfold B at hx
  obtain ⟨y, hy⟩ : ∃ y, y = (nth l k).toNat % 128 := ⟨_, rfl⟩
  rw [← hy]
  have hxy : x % 128 = (y : Int) := by omega
  have hb : 2 ^ (7 * k) * y < 18446744073709551616 := by
    obtain ⟨p, h3, h4, h5⟩ := pow9 h9
    rw [← hp]
    by_cases h9' : k = 9
    · subst h9'
      have := h1 rfl
      rw [p9]; omega
    · obtain ⟨q, rfl⟩ := h5 (by omega)
      have hq : 0 < q := by omega
      have h6 : 128 ^ k * y ≤ 128 ^ k * (128 * q) := Nat.mul_le_mul_left _ (by omega)
      omega
  have hw : IntKind.u64.wrap (x % 128 * 2 ^ (7 * k)) = ((2 ^ (7 * k) * y : Nat) : Int) := by
    have e : x % 128 * 2 ^ (7 * k) = ((2 ^ (7 * k) * y : Nat) : Int) := by rw [hxy]; push_cast; exact Int.mul_comm _ _
    rw [e, IntKind.wrap_u64]; omega
  have hl2 : val (l.take k) < 18446744073709551616 := by
    obtain ⟨p, h3, h4, _⟩ := pow9 h9
    have : 128 ^ k * 1 ≤ 128 ^ k * p := Nat.mul_le_mul_left _ h4
    omega
  rw [hw, u64_or_nat _ _ hl2 hb, hp, Nat.add_comm, Nat.two_pow_add_eq_or_of_lt (by omega), Nat.or_comm]

theorem rd_at {l : List (BitVec 8)} {k : Nat} {x : Int} (h : k < l.length) (hx : x = B (nth l k)) :
    rd k (l.drop k) = if (k = 9 ∧ 1 < x) ∨ (0 < k ∧ x = 0) then .range else if x < 128 then .ok (k + 1) else rd (k + 1) (l.drop (k + 1)) := by
  rw [drop_nth h]
  unfold B at hx
  have e1 : (1 < x) = (1 < (nth l k).toNat) := by apply propext; omega
  have e2 : (x = 0) = ((nth l k).toNat = 0) := by apply propext; omega
  have e3 : (x < 128) = ((nth l k).toNat < 128) := by apply propext; omega
  simp only [rd, e1, e2, e3]

/-- What is left lies where what was read lay. -/
def Near (v u : Value) : Prop := ∀ Q : Nat → Prop, (∀ a n c, v = .slice (some a) n c → Q a.block) → ∀ a n c, u = .slice (some a) n c → Q a.block
theorem near_same (b o o' n n' c c' : Nat) : Near (.slice (some ⟨b, o, none⟩) n c) (.slice (some ⟨b, o', none⟩) n' c') := fun Q h a m d e => by
  simp only [Value.slice.injEq, Option.some.injEq] at e
  rw [← e.1]
  exact h ⟨b, o, none⟩ n c rfl
theorem Near.trans {v u x : Value} (h1 : Near v u) (h2 : Near u x) : Near v x := fun Q h => h2 Q (h1 Q h)
theorem near_add (a : Option Addr) (n c m d : Nat) (f : Addr → Addr) (hf : ∀ x, (f x).block = x.block) : Near (.slice a n c) (.slice (a.map f) m d) := fun Q h a' m' d' e => by
  simp only [Value.slice.injEq] at e
  cases a with
  | none => cases e.1
  | some x =>
    have e1 := e.1
    simp only [Option.map_some, Option.some.injEq] at e1
    rw [← e1, hf]
    exact h _ _ _ rfl
theorem near_cut (a : Option Addr) (n c m d : Nat) : Near (.slice a n c) (.slice a m d) := fun Q h a' m' d' e => by
  simp only [Value.slice.injEq] at e
  rw [e.1] at h
  exact h _ _ _ rfl
/-- What ReadUint tells of bytes. -/
def Told (w : World) (v : Value) (l : List (BitVec 8)) (e : Ending) : Prop :=
  match rd 0 l with
  | .inl k => ∃ rv, e = .returned (.tuple #[.int .u64 (vt l k), rv, .int .i64 0]) ∧ ReadsV w rv (l.drop k) ∧ Near v rv
  | .inr true => e = .returned (.tuple #[.int .u64 0, .slice none 0 0, .int .i64 2])
  | .inr false => e = .returned (.tuple #[.int .u64 0, .slice none 0 0, .int .i64 5])

theorem told_range {w : World} {v : Value} {l : List (BitVec 8)} (h : rd 0 l = .range) : Told w v l (.returned (.tuple #[.int .u64 0, .slice none 0 0, .int .i64 2])) := by unfold Told; rw [h]
theorem told_short {w : World} {v : Value} {l : List (BitVec 8)} (h : rd 0 l = .short) : Told w v l (.returned (.tuple #[.int .u64 0, .slice none 0 0, .int .i64 5])) := by unfold Told; rw [h]
theorem told_ok {w : World} {v : Value} {l : List (BitVec 8)} {k : Nat} {x : Int} {rv : Value} (h : rd 0 l = .ok k) (hx : x = vt l k) (hr : ReadsV w rv (l.drop k)) (hN : Near v rv) : Told w v l (.returned (.tuple #[.int .u64 x, rv, .int .i64 0])) := by
  subst hx; unfold Told; rw [h]; exact ⟨_, rfl, hr, hN⟩

theorem rest_reads {w : World} {b off n k : Nat} {l : List (BitVec 8)} (hr : Reads w (some ⟨b, off, none⟩) l) (hn : n = l.length) (hk : k < n) (hm : n ≤ 9223372036854775807) :
    ReadsV w.drew (.slice (if n = k + 1 then some ⟨b, off, none⟩ else some ⟨b, off + (k + 1), none⟩) (n - (k + 1)) (n - (k + 1))) (l.drop (k + 1)) := by
  have := ReadsV.cut (w := w.drew) (a := some ⟨b, off, none⟩) (l := l) hr (k := k + 1) (h := n) (m := n) (fun h => by cases h) (by omega) (by omega) (by omega) (by unfold maxLen; omega)
  rw [Nat.mul_one, hn, List.take_length] at this
  rw [hn]
  simpa [add_plain] using this

theorem rest_end {w : World} {b off n k : Nat} {l : List (BitVec 8)} (hn : n = l.length) (he : n = k) : ReadsV w.drew (.slice (some ⟨b, off, none⟩) 0 0) (l.drop k) := by
  rw [List.drop_of_length_le (by omega)]
  exact ⟨_, 0, rfl, (fun h => by cases h), Nat.le_refl _, by decide, by decide, .inl rfl⟩
theorem rest_mid {w : World} {b off n k : Nat} {l : List (BitVec 8)} (hr : Reads w (some ⟨b, off, none⟩) l) (hn : n = l.length) (hk : k < n) (hm : n ≤ 9223372036854775807) (hne : ¬ n = k + 1) :
    ReadsV w.drew (.slice (some ⟨b, off + (k + 1), none⟩) (n - (k + 1)) (n - (k + 1))) (l.drop (k + 1)) := by
  have := rest_reads hr hn hk hm
  rwa [if_neg hne] at this

set_option maxRecDepth 100000 in
set_option maxHeartbeats 1000000 in
theorem readUint_cells (b off n cap : Nat) (l : List (BitVec 8)) (w : World) (hn : n = l.length) (hcap : n ≤ cap) (hm : cap ≤ 9223372036854775807) (hc : ∀ i, i < n → w.cell? ⟨b, off + i, none⟩ = some (.int .u8 (B (nth l i)))) :
    Calls Try.prog 62 #[.slice (some ⟨b, off, none⟩) n cap] w fun e w' => Told w' (.slice (some ⟨b, off, none⟩) n cap) l e ∧ Below w.heap.size w w' := by
  have HN : Hid (n = l.length) := hn
  have HR : Hid (Reads w (some ⟨b, off, none⟩) l) := ⟨by unfold maxLen; omega, .inr ⟨b, off, rfl, fun i hi => hc i (by omega)⟩⟩
  clear hn
  go_enter Try.func62, Try.ntmps62
  go_wp2
  go_loop [5, 10] (fun r i => ∃ k : Nat, k ≤ n ∧ k ≤ 9 ∧ i = .int .i64 k ∧ r = .int .u64 (vt l k) ∧ Hid (rd 0 l = rd k (l.drop k))) (fun _ i => n - (intOf i).toNat)
  case atStart => exact ⟨0, Nat.zero_le _, Nat.zero_le _, rfl, rfl, rfl⟩
  case round =>
    obtain ⟨k, hk, hk9, rfl, rfl, HE⟩ := hrel
    by_cases hlt : k < n
    · have hcell := hc k hlt
      clear hc
      obtain ⟨x, hx⟩ : ∃ x, x = B (nth l k) := ⟨_, rfl⟩
      have HX : Hid (x = B (nth l k)) := hx
      have HD : Hid (_ = _) := rd_at (by rw [← HN.out]; exact hlt) hx
      rw [← hx] at hcell
      obtain ⟨hx0, hx1⟩ := B_range (nth l k)
      rw [← hx] at hx0 hx1
      clear hx
      by_cases hA : k = 9
      · subst hA
        by_cases hA1 : 1 < x ∨ x = 0
        · have HT : Hid (rd 0 l = .range) := by show _ = _; rw [HE.out, HD.out, if_pos (by omega)]
          rcases hA1 with hA1 | rfl
          · go_wp2
            go_ret3
            exact ⟨told_range HT.out, Below.refl _ _⟩
          · go_wp2
            go_ret3
            exact ⟨told_range HT.out, Below.refl _ _⟩
        · have hx1 : x = 1 := by omega
          have HT : Hid (rd 0 l = .ok 10) := by show _ = _; rw [HE.out, HD.out, if_neg (by omega), if_pos (by omega)]
          have HV : Hid (bits .or .u64 (vt l 9) 9223372036854775808 = vt l 10) := by
            have h1 := or_step (k := 9) (by rw [← HN.out]; exact hlt) hk9 (by omega) HX.out
            rw [hx1, IntKind.wrap_u64] at h1
            exact h1
          subst hx1
          go_wp2
          go_region
          go_wp2
          · go_ret3
            exact ⟨told_ok HT.out HV.out (rest_end HN.out (by assumption)) (near_same _ _ _ _ _ _ _), (Below.refl _ _).drew⟩
          · go_ret3
            exact ⟨told_ok HT.out HV.out (rest_mid (k := 9) HR.out HN.out hlt (by omega) (by assumption)) (near_same _ _ _ _ _ _ _), (Below.refl _ _).drew⟩
      have hA9 : ((k : Int) == 9) = false := by simp; omega
      by_cases hB : 0 < k ∧ x = 0
      · have HT : Hid (rd 0 l = .range) := by show _ = _; rw [HE.out, HD.out, if_pos (.inr hB)]
        obtain ⟨hk0, rfl⟩ := hB
        go_wp2
        go_ret3
        exact ⟨told_range HT.out, Below.refl _ _⟩
      by_cases hC : x < 128
      · have HT : Hid (rd 0 l = .ok (k + 1)) := by show _ = _; rw [HE.out, HD.out, if_neg (by omega), if_pos hC]
        have HV : Hid (_ = _) := or_step (by rw [← HN.out]; exact hlt) hk9 (by omega) HX.out
        go_wp2
        all_goals (go_region; go_wp2)
        all_goals go_ret3
        all_goals first
          | exact ⟨told_ok HT.out HV.out (rest_end HN.out (by assumption)) (near_same _ _ _ _ _ _ _), (Below.refl _ _).drew⟩
          | exact ⟨told_ok HT.out HV.out (rest_mid HR.out HN.out hlt (by omega) (by assumption)) (near_same _ _ _ _ _ _ _), (Below.refl _ _).drew⟩
      · have HT : Hid (rd 0 l = rd (k + 1) (l.drop (k + 1))) := by show _ = _; rw [HE.out, HD.out, if_neg (by omega), if_neg hC]
        have HV : Hid (_ = _) := or_step (by rw [← HN.out]; exact hlt) hk9 (by omega) HX.out
        go_wp2
        · go_round
          case rel => exact ⟨k + 1, by omega, by omega, by go_num, by rw [HV.out], HT⟩
          case measure => simp [intOf]; omega
        · go_round
          case rel => exact ⟨k + 1, by omega, by omega, by go_num, by rw [HV.out], HT⟩
          case measure => simp [intOf]; omega
    · have hkn : k = n := by omega
      subst hkn
      have HT : Hid (rd 0 l = .short) := by show _ = _; rw [HE.out, List.drop_of_length_le (by rw [← HN.out]; exact Nat.le_refl _)]; rfl
      go_wp2
      go_ret3
      exact ⟨told_short HT.out, Below.refl _ _⟩

theorem maxLen_eq : maxLen = 9223372036854775807 := rfl

set_option maxRecDepth 100000 in
theorem readUint_any (v : Value) (l : List (BitVec 8)) (w : World) (h : ReadsV w v l) :
    Calls Try.prog 62 #[v] w fun e w' => Told w' v l e ∧ Below w.heap.size w w' := by
  obtain ⟨a, cap, rfl, hn, hlc, hcm, hr⟩ := h
  rw [maxLen_eq] at hcm
  rcases hr.2 with rfl | ⟨b, off, rfl, hc⟩
  · clear hr
    go_enter Try.func62, Try.ntmps62
    go_wp2
    refine wp_loop_rounds 1 ?_
    rw [rounds_succ]
    go_wp2
    go_ret3
    exact ⟨told_short rfl, Below.refl _ _⟩
  · exact readUint_cells b off l.length cap l w rfl hlc hcm hc

end Go.Proofs.Ytcaddedkodjgcaa
