/-
  textOf, ParseInt at digits: contracts.
-/
import Derived.Test.YtlfeejjlcclbdaaGreatDoorSmall
namespace Go.Proofs.YtlfeejjlcclbdaaGreatDoor
open Go.RowKit
set_option linter.unusedVariables false


theorem tw_go (p : UInt8 → Bool) : ∀ (r : Bs) (k : Nat) (h : k < r.length), k ≤ (r.takeWhile p).length → p r[k] = true → k + 1 ≤ (r.takeWhile p).length
  | [], k, h, _, _ => by simp at h
  | c :: r, 0, h, _, hp => by
    have : p c = true := hp
    simp [List.takeWhile, this]
  | c :: r, k + 1, h, hk, hp => by
    cases hc : p c with
    | true =>
      simp only [List.takeWhile, hc, List.length_cons] at hk ⊢
      have := tw_go p r k (by simpa using h) (by omega) hp
      omega
    | false => simp [List.takeWhile, hc] at hk
theorem tw_end (p : UInt8 → Bool) : ∀ (r : Bs) (k : Nat) (h : k < r.length), k ≤ (r.takeWhile p).length → p r[k] = false → k = (r.takeWhile p).length
  | [], k, h, _, _ => by simp at h
  | c :: r, 0, h, _, hp => by
    have : p c = false := hp
    simp [List.takeWhile, this]
  | c :: r, k + 1, h, hk, hp => by
    cases hc : p c with
    | true =>
      simp only [List.takeWhile, hc, List.length_cons] at hk ⊢
      have := tw_end p r k (by simpa using h) (by omega) hp
      omega
    | false => simp [List.takeWhile, hc] at hk
theorem cut_list (s : ByteArray) (a b : Nat) : (s.extract a b).data.toList = (s.data.toList.take b).drop a := by
  rw [ByteArray.data_extract, Array.toList_extract, List.extract_eq_drop_take']
theorem take_ba (s : ByteArray) (n : Nat) : s.extract 0 n = ba (s.data.toList.take n) := by
  rw [← ba_of (s.extract 0 n), cut_list]; rfl
theorem word_take_k (k : Nat) (c : UInt8) (r : Bs) : (c :: r).take ((r.takeWhile (goes k)).length + 1) = c :: r.takeWhile (goes k) := by
  rw [List.take_succ_cons]
  congr 1
  exact (List.prefix_iff_eq_take.1 (List.takeWhile_prefix _)).symm
theorem at_list {s : ByteArray} {k : Nat} (h : k < s.size) (h2 : k < s.data.toList.length) : s[k]'h = s.data.toList[k]'h2 := by
  simp [ByteArray.getElem_eq_getElem_data]
set_option maxRecDepth 100000 in
theorem textOf_any (k : Nat) (hk : k ≤ 3) (s : ByteArray) (c : UInt8) (r : Bs) (HS : Hid (s.data.toList = c :: r)) (hs : s.size ≤ 4096) (w : World) : Calls Tryz.prog 47 #[.int .i64 k, .string s] w fun e w' => e = .returned (.string (ba (c :: r.takeWhile (goes k)))) ∧ w' = w := by
  have HZ : Hid (s.size = r.length + 1) := by show _ = _; rw [← size_list, HS.out]; rfl
  have hp : 1 ≤ s.size := by rw [HZ.out]; omega
  go_enter Tryz.func47, Tryz.ntmps47
  go_wp2
  go_loop [5] (fun i => ∃ n : Nat, 1 ≤ n ∧ n ≤ s.size ∧ i = .int .i64 n ∧ Hid (n - 1 ≤ (r.takeWhile (goes k)).length)) (fun i => s.size - (intOf i).toNat)
  case atStart => exact ⟨1, Nat.le_refl _, hp, rfl, Nat.zero_le _⟩
  case round =>
    obtain ⟨n, h1, hn, rfl, HT⟩ := hrel
    by_cases hlt : n < s.size
    · have hr : n - 1 < r.length := by have := HZ.out; omega
      have hc : s[n]'hlt = r[n - 1] := by
        rw [at_list hlt (by rw [size_list]; exact hlt)]
        have : n = (n - 1) + 1 := by omega
        simp only [HS.out]
        rw [List.getElem_cons]
        simp [show n ≠ 0 by omega]
      have HG : Hid (∀ w, Calls Tryz.prog 65 #[.int .i64 k, .int .u8 (s[n]'hlt).toNat] w fun e w' => e = .returned (.bool (goes k (s[n]'hlt))) ∧ w' = w) := goesOn_any k hk _
      have HC : Hid (s[n]'hlt = r[n - 1]) := hc
      clear hc
      cases hg : goes k (s[n]'hlt) with
      | true =>
        rw [hg] at HG
        go_wp2_with (go_at_call 65; refine (HG.out _).mono ?_; rintro e w' ⟨rfl, rfl⟩)
        go_round
        case rel => exact ⟨n + 1, by omega, by omega, by go_num, by have := tw_go _ _ _ hr HT.out (by rw [← HC.out]; exact hg); show n + 1 - 1 ≤ _; omega⟩
        case measure => simp [intOf]; omega
      | false =>
        rw [hg] at HG
        have HE : Hid (n - 1 = (r.takeWhile (goes k)).length) := tw_end _ _ _ hr HT.out (by rw [← HC.out]; exact hg)
        go_wp2_with (go_at_call 65; refine (HG.out _).mono ?_; rintro e w' ⟨rfl, rfl⟩)
        go_ret
        refine ⟨?_, rfl⟩
        rw [← word_take_k k c r, ← HE.out, ← HS.out, show n - 1 + 1 = n by omega, ← take_ba]; rfl
    · have he : n = s.size := by omega
      subst he
      have HE : Hid ((r.takeWhile (goes k)).length = r.length) := by
        have h1 := (List.takeWhile_sublist (goes k) (l := r)).length_le
        have h2 := HT.out
        have h3 := HZ.out
        show _ = _; omega
      go_wp2
      go_ret
      refine ⟨?_, rfl⟩
      rw [← word_take_k k c r, HE.out, ← List.length_cons (a := c), List.take_length, ← HS.out, ba_of]; rfl
/-- Digits as a number, ParseInt's way. -/
theorem parseM_ok (l : Bs) : ∀ (a : Nat), l.all digit = true → val a l < 2 ^ 63 → Lib.parseUintM (2 ^ 64 - 1) a l = .ok (val a l) := by
  induction l with
  | nil => intro a _ _; rfl
  | cons c r ih =>
    intro a hd hv
    simp only [List.all_cons, Bool.and_eq_true] at hd
    have h1 : 48 ≤ c.toNat ∧ c.toNat ≤ 57 := by have := hd.1; simpa [digit] using this
    have hm := val_ge r (a * 10 + (c.toNat - 48))
    have hv2 : val (a * 10 + (c.toNat - 48)) r < 2 ^ 63 := hv
    have e := ih _ hd.2 hv2
    rw [Lib.parseUintM, if_pos h1, e]
    show _ = Lib.NumEnd.ok (val (a * 10 + (c.toNat - 48)) r)
    generalize val (a * 10 + (c.toNat - 48)) r = v at *
    generalize c.toNat - 48 = d at *
    rw [if_neg (by omega), if_neg (by omega)]
theorem parseM_range (l : Bs) : ∀ (a : Nat), l.all digit = true → 2 ^ 63 ≤ val a l → Lib.parseUintM (2 ^ 64 - 1) a l = .range ∨ ∃ u, Lib.parseUintM (2 ^ 64 - 1) a l = .ok u ∧ 2 ^ 63 ≤ u := by
  induction l with
  | nil => intro a _ hv; exact .inr ⟨a, rfl, hv⟩
  | cons c r ih =>
    intro a hd hv
    simp only [List.all_cons, Bool.and_eq_true] at hd
    have h1 : 48 ≤ c.toNat ∧ c.toNat ≤ 57 := by have := hd.1; simpa [digit] using this
    have hv2 : 2 ^ 63 ≤ val (a * 10 + (c.toNat - 48)) r := hv
    have e := ih _ hd.2 hv2
    rw [Lib.parseUintM, if_pos h1]
    by_cases h2 : 1844674407370955162 ≤ a
    · rw [if_pos h2]; exact .inl rfl
    · rw [if_neg h2]
      by_cases h3 : 2 ^ 64 - 1 < a * 10 + (c.toNat - 48)
      · rw [if_pos h3]; exact .inl rfl
      · rw [if_neg h3]
        exact e
theorem parse_ok (c : UInt8) (r : Bs) (hd : (c :: r).all digit = true) (hv : val 0 (c :: r) < 2 ^ 63) : Lib.parseIntB 64 (c :: r) = .ok (val 0 (c :: r) : Nat) := by
  have h0 := hd
  simp only [List.all_cons, Bool.and_eq_true] at h0
  have h1 : 48 ≤ c.toNat ∧ c.toNat ≤ 57 := by have := h0.1; simpa [digit] using this
  have h2 : ¬ (c.toNat = 43 ∨ c.toNat = 45) := by omega
  have h3 : Lib.parseUintB 64 (c :: r) = .ok (val 0 (c :: r)) := by
    unfold Lib.parseUintB
    rw [if_neg (by simp)]
    exact parseM_ok _ _ hd hv
  unfold Lib.parseIntB
  simp only [if_neg h2, h3]
  rw [if_neg (by omega), if_neg (by omega), if_neg (by omega)]
theorem parse_range (c : UInt8) (r : Bs) (hd : (c :: r).all digit = true) (hv : 2 ^ 63 ≤ val 0 (c :: r)) : Lib.parseIntB 64 (c :: r) = .range := by
  have h0 := hd
  simp only [List.all_cons, Bool.and_eq_true] at h0
  have h1 : 48 ≤ c.toNat ∧ c.toNat ≤ 57 := by have := h0.1; simpa [digit] using this
  have h2 : ¬ (c.toNat = 43 ∨ c.toNat = 45) := by omega
  have h3 : Lib.parseUintB 64 (c :: r) = .range ∨ ∃ u, Lib.parseUintB 64 (c :: r) = .ok u ∧ 2 ^ 63 ≤ u := by
    unfold Lib.parseUintB
    rw [if_neg (by simp)]
    exact parseM_range _ _ hd hv
  unfold Lib.parseIntB
  rcases h3 with h3 | ⟨u, h3, h4⟩
  · simp only [if_neg h2, h3]
  · simp only [if_neg h2, h3]
    rw [if_pos ⟨by omega, by simpa using h4⟩]
/-- The library's own variable holds an error. -/
def Held (w : World) : Prop := ∃ tp p, w.cell? ⟨2, 0, none⟩ = some (.iface tp p)
theorem Held.below {w w' : World} {B : Nat} (h : Held w) (hB : w.heap.size ≤ B) (hb : Below B w w') : Held w' := by
  obtain ⟨tp, p, h⟩ := h
  exact ⟨tp, p, (hb.cell (p := ⟨2, 0, none⟩) (by have := World.block_lt_of_cell? w _ h; omega)).trans h⟩
set_option maxRecDepth 100000 in
theorem parse_fits (c : UInt8) (r : Bs) (hd : (c :: r).all digit = true) (hv : val 0 (c :: r) < 2 ^ 63) (hl : (c :: r).length ≤ 4096) (w : World) : Calls Tryz.prog 48 #[.string (ba (c :: r)), .int .i64 10, .int .i64 64] w fun e w' => e = .returned (.tuple #[.int .i64 (val 0 (c :: r) : Nat), .nilIface]) ∧ Below w.heap.size w w' := by
  refine (Tryz.strconv_ParseInt_10_at64_ok (ba (c :: r)) (by rw [ba_size]; omega) _ (parse_ok c r hd hv) w).mono ?_
  rintro e w' ⟨rfl, h⟩
  refine ⟨rfl, ?_⟩
  rcases h with rfl | ⟨t, rfl⟩
  · exact Below.refl _ _
  · exact Lib.bytesWorld_below w 5 t
set_option maxRecDepth 100000 in
theorem parse_great (c : UInt8) (r : Bs) (hd : (c :: r).all digit = true) (hv : 2 ^ 63 ≤ val 0 (c :: r)) (hl : (c :: r).length ≤ 4096) (w : World) (hw : Held w) : Calls Tryz.prog 48 #[.string (ba (c :: r)), .int .i64 10, .int .i64 64] w fun e w' => ∃ n N : Nat, e = .returned (.tuple #[.int .i64 n, .iface 105 (.pointer (some ⟨N, 0, none⟩))]) ∧ Below w.heap.size w w' := by
  obtain ⟨tp, p, hv2⟩ := hw
  refine (Tryz.strconv_ParseInt_10_at64_range (ba (c :: r)) (by rw [ba_size]; omega) (parse_range c r hd hv) _ w hv2 (.inr ⟨tp, p, rfl⟩)).mono ?_
  rintro e w' ⟨N, rfl, _, _, h⟩
  have h0 := hd
  simp only [List.all_cons, Bool.and_eq_true] at h0
  have h1 : 48 ≤ c.toNat ∧ c.toNat ≤ 57 := by have := h0.1; simpa [digit] using this
  refine ⟨2 ^ 63 - 1, N, ?_, h⟩
  have : Lib.intSat 64 (c :: r) = ((2 ^ 63 - 1 : Nat) : Int) := by
    unfold Lib.intSat
    rw [if_neg]
    simp; omega
  rw [ba_list, this]
end Go.Proofs.YtlfeejjlcclbdaaGreatDoor
