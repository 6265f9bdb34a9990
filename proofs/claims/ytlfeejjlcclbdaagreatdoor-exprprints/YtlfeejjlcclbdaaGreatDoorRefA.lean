/-
  Lists of words, and texts that are the same: what the laws share.
-/
import Derived.Test.YtlfeejjlcclbdaaGreatDoorWorks
namespace Go.Proofs.YtlfeejjlcclbdaaGreatDoor
section
open Go.RowKit Go.Maps
set_option linter.unusedVariables false


theorem lex_few (s : ByteArray) : (lexOut s).ws.length ≤ 4096 := by
  unfold lexOut
  by_cases h2 : s.size ≤ 4096
  · rw [if_pos h2]
    have := sp_len s.data.toList 0
    rw [size_list] at this; omega
  · rw [if_neg h2]; exact Nat.zero_le _
theorem WordsV.empty {w : World} {v : Value} (h : WordsV w v []) : ∃ a cap, v = .slice a 0 cap := by
  obtain ⟨a, cap, h1, _⟩ := h
  exact ⟨a, cap, h1⟩
end
section
open Go.RowKit Go.Maps
set_option linter.unusedVariables false


def sgn (i : Nat) : UInt8 := signs.getD i 0
theorem signs_at (i : Nat) (h : i < 11) : (#[Value.int .u8 43, .int .u8 45, .int .u8 42, .int .u8 47, .int .u8 61, .int .u8 60, .int .u8 40, .int .u8 41, .int .u8 38, .int .u8 124, .int .u8 33] : Array Value)[i]? = some (.int .u8 (sgn i).toNat) := by
  match i, h with
  | 0, _ | 1, _ | 2, _ | 3, _ | 4, _ | 5, _ | 6, _ | 7, _ | 8, _ | 9, _ | 10, _ => rfl
theorem sign_yes {c : UInt8} {k : Nat} (hk : k < 11) (h : sgn k = c) : sign c = true := by
  unfold sign
  rw [List.contains_iff_mem, ← h]
  unfold sgn
  have : k < signs.length := hk
  rw [List.getD_eq_getElem?_getD, List.getElem?_eq_getElem this]
  exact List.getElem_mem this
theorem sign_no {c : UInt8} (h : ∀ j, j < 11 → sgn j ≠ c) : sign c = false := by
  unfold sign
  cases hc : signs.contains c with
  | false => rfl
  | true =>
    rw [List.contains_iff_mem] at hc
    obtain ⟨i, hi, e⟩ := List.mem_iff_getElem.1 hc
    exact absurd (by unfold sgn; rw [List.getD_eq_getElem?_getD, List.getElem?_eq_getElem hi]; exact e) (h i hi)
set_option maxRecDepth 100000 in
set_option maxHeartbeats 400000 in
theorem rsign_any (c : UInt8) (w : World) : Calls Tryz.prog 57 #[.int .u8 c.toNat] w fun e w' => e = .returned (.bool (sign c)) ∧ Below w.heap.size w w' := by
  have HZ : Hid (∀ j, sgn j = c ↔ (sgn j).toNat = c.toNat) := fun j => ⟨fun e => by rw [e], fun e => UInt8.toNat_inj.1 e⟩
  have hb : c.toNat < 256 := UInt8.toNat_lt _
  go_enter Tryz.func57, Tryz.ntmps57
  go_wp2
  obtain ⟨w0, hw0⟩ : ∃ w0, w0 = w.alloc (.cells #[Value.int .u8 43, .int .u8 45, .int .u8 42, .int .u8 47, .int .u8 61, .int .u8 60, .int .u8 40, .int .u8 41, .int .u8 38, .int .u8 124, .int .u8 33] 5) := ⟨_, rfl⟩
  rw [← hw0]
  have HW : Hid (Below w.heap.size w w0 ∧ ∀ i, i < 11 → w0.cell? ⟨w.heap.size, i, none⟩ = some (.int .u8 (sgn i).toNat)) := by
    rw [hw0]
    refine ⟨(Below.refl _ _).alloc (Nat.le_refl _) _, fun i hi => ?_⟩
    rw [cell_of_row _ w.heap.size i _ 5 (0, 0) (heap_alloc_new w _)]; exact signs_at i hi
  clear hw0
  generalize hcn : c.toNat = cn at *
  go_loop [4] (fun i => ∃ k : Nat, k ≤ 11 ∧ i = .int .i64 k ∧ Hid (∀ j, j < k → sgn j ≠ c)) (fun i => 11 - (intOf i).toNat)
  case atStart => exact ⟨0, by decide, rfl, fun j hj => absurd hj (by omega)⟩
  case round =>
    obtain ⟨k, hk, rfl, HN⟩ := hrel
    by_cases hlt : k < 11
    · have c0 := HW.out.2 k hlt
      have hkb : (sgn k).toNat < 256 := UInt8.toNat_lt _
      have HZk := HZ.out k
      generalize hs : (sgn k).toNat = sk at *
      by_cases he : sk = cn
      · have HY : Hid (sign c = true) := sign_yes hlt (HZk.2 he)
        subst he
        clear HZk
        go_wp2
        go_ret
        exact ⟨by rw [HY.out]; rfl, HW.out.1⟩
      · have HN2 : Hid (∀ j, j < k + 1 → sgn j ≠ c) := fun j hj => by
          by_cases hjk : j < k
          · exact HN.out j hjk
          · have : j = k := by omega
            subst this
            exact fun e => he (HZk.1 e)
        have hne : ¬ (sk : Int) = (cn : Int) := by omega
        clear HZk HN
        go_wp2
        go_round
        case rel => exact ⟨k + 1, by omega, by go_num, HN2.out⟩
        case measure => simp [intOf]; omega
    · have he : k = 11 := by omega
      subst he
      have HY : Hid (sign c = false) := sign_no HN.out
      go_wp2
      go_ret
      exact ⟨by rw [HY.out]; rfl, HW.out.1⟩
/-- Digits taken so far. -/
theorem val_app (l : Bs) : ∀ (a : Nat) (m : Bs), val a (l ++ m) = val (val a l) m := by
  induction l with
  | nil => intro a m; rfl
  | cons c r ih => intro a m; exact ih _ m
theorem val_next (l : Bs) (k : Nat) (h : k < l.length) : val 0 (l.take (k + 1)) = val 0 (l.take k) * 10 + ((l[k]).toNat - 48) := by
  rw [List.take_succ_eq_append_getElem h, val_app]; rfl
theorem val_rest (l : Bs) (k : Nat) : val 0 (l.take k) ≤ val 0 l := by
  have : val 0 l = val 0 (l.take k ++ l.drop k) := by rw [List.take_append_drop]
  rw [this, val_app]; exact val_ge _ _
/-- What the walk is told of digits and what they come to. -/
structure RunsR (l : Bs) (x : ByteArray) (f : Nat → Nat) (V : Nat) : Prop where
  dg : ∀ k (h : k < l.length), 48 ≤ (l[k]).toNat ∧ (l[k]).toNat ≤ 57
  ax : ∀ k (h : k < x.size) (h2 : k < l.length), x[k]'h = l[k]'h2
  nx : ∀ k (h : k < l.length), f (k + 1) = f k * 10 + ((l[k]).toNat - 48)
  le : ∀ k, f k ≤ V
  at_end : f l.length = V
  at_start : f 0 = 0
theorem runsR_of (l : Bs) (hd : l.all digit = true) : RunsR l (ba l) (fun k => val 0 (l.take k)) (val 0 l) := by
  refine ⟨fun k h => ?_, fun k h h2 => at_list h h2, val_next l, val_rest l, ?_, rfl⟩
  · have := List.all_eq_true.1 hd l[k] (List.getElem_mem h)
    unfold digit at this
    simpa using this
  · show val 0 (l.take l.length) = val 0 l
    rw [List.take_length]
set_option maxRecDepth 100000 in
set_option maxHeartbeats 400000 in
theorem rnumber_fits (l : Bs) (x : ByteArray) (f : Nat → Nat) (V : Nat) (hz : x.size = l.length) (hl : l.length ≤ 4096) (HX : Hid (RunsR l x f V)) (hV : V ≤ 9223372036854775807) (w : World) : Calls Tryz.prog 59 #[.string x] w fun e w' => e = .returned (.tuple #[.int .i64 V, .bool true]) ∧ w' = w := by
  go_enter Tryz.func59, Tryz.ntmps59
  go_wp2
  go_loop [4, 5] (fun v i => ∃ k n : Nat, k ≤ l.length ∧ i = .int .i64 k ∧ v = .int .u64 n ∧ n ≤ 9223372036854775807 ∧ Hid (n = f k)) (fun _ i => l.length - (intOf i).toNat)
  case atStart => exact ⟨0, 0, Nat.zero_le _, rfl, rfl, by decide, HX.out.at_start.symm⟩
  case round =>
    obtain ⟨k, n, hk, rfl, rfl, hn, HF⟩ := hrel
    by_cases hlt : k < l.length
    · have hlt' : k < x.size := by rw [hz]; exact hlt
      have hc := HX.out.ax k hlt' hlt
      obtain ⟨d1, d2⟩ := HX.out.dg k hlt
      have h3 := HX.out.nx k hlt
      rw [← HF.out] at h3
      have h4 := HX.out.le (k + 1)
      rw [← hc] at d1 d2 h3
      have HN : Hid (f (k + 1) = n * 10 + ((x[k]'hlt').toNat - 48)) := h3
      have h5 : n * 10 + ((x[k]'hlt').toNat - 48) ≤ 9223372036854775807 := by omega
      have h1 : n ≤ 922337203685477580 := by omega
      clear hc HF h3 h4
      go_wp2
      go_round
      case rel => exact ⟨k + 1, n * 10 + ((x[k]'hlt').toNat - 48), by omega, by go_num, by congr 1; omega, by omega, HN.out.symm⟩
      case measure => simp [intOf]; omega
    · have hkl : k = l.length := by omega
      subst hkl
      have hnV : n = V := by have := HX.out.at_end; have := HF.out; omega
      subst hnV
      go_wp2
      go_ret2
      exact ⟨rfl, rfl⟩
set_option maxRecDepth 100000 in
set_option maxHeartbeats 400000 in
theorem rnumber_great (l : Bs) (x : ByteArray) (f : Nat → Nat) (V : Nat) (hz : x.size = l.length) (hl : l.length ≤ 4096) (HX : Hid (RunsR l x f V)) (hV : 9223372036854775807 < V) (w : World) : Calls Tryz.prog 59 #[.string x] w fun e w' => e = .returned (.tuple #[.int .i64 0, .bool false]) ∧ w' = w := by
  go_enter Tryz.func59, Tryz.ntmps59
  go_wp2
  go_loop [4, 5] (fun v i => ∃ k n : Nat, k ≤ l.length ∧ i = .int .i64 k ∧ v = .int .u64 n ∧ n ≤ 9223372036854775807 ∧ Hid (n = f k)) (fun _ i => l.length - (intOf i).toNat)
  case atStart => exact ⟨0, 0, Nat.zero_le _, rfl, rfl, by decide, HX.out.at_start.symm⟩
  case round =>
    obtain ⟨k, n, hk, rfl, rfl, hn, HF⟩ := hrel
    by_cases hlt : k < l.length
    · have hlt' : k < x.size := by rw [hz]; exact hlt
      have hc := HX.out.ax k hlt' hlt
      obtain ⟨d1, d2⟩ := HX.out.dg k hlt
      have h3 := HX.out.nx k hlt
      rw [← HF.out] at h3
      rw [← hc] at d1 d2 h3
      have HN : Hid (f (k + 1) = n * 10 + ((x[k]'hlt').toNat - 48)) := h3
      clear hc HF h3
      by_cases h1 : 922337203685477580 < n
      · go_wp2
        go_ret2
        exact ⟨rfl, rfl⟩
      · by_cases h2 : 9223372036854775807 < n * 10 + ((x[k]'hlt').toNat - 48)
        · go_wp2
          go_ret2
          exact ⟨rfl, rfl⟩
        · go_wp2
          go_round
          case rel => exact ⟨k + 1, n * 10 + ((x[k]'hlt').toNat - 48), by omega, by go_num, by congr 1; omega, by omega, HN.out.symm⟩
          case measure => simp [intOf]; omega
    · have hkl : k = l.length := by omega
      have : False := by have := HX.out.at_end; have := HF.out; subst hkl; omega
      exact this.elim
end
end Go.Proofs.YtlfeejjlcclbdaaGreatDoor
