/-
  The program's Uint, Int and the document's own rows: contracts.
-/
import Derived.Test.YtcaddedkodjgcaaPow
import Derived.Test.YtcaddedkodjgcaaPmt
namespace Go.Proofs.Ytcaddedkodjgcaa
open Go.RowKit Pack

theorem byte_low {m : Nat} (h : m < 128) : (m : Int) = B (byte m) := by unfold B; rw [byte_nat (by omega)]
theorem byte_high (m : Nat) : ((m : Int) % 128 + 128) = B (byte (m % 128 + 128)) := by unfold B; rw [byte_nat (by omega)]; omega
theorem byte_high' (m : Nat) : (128 + (m : Int) % 128) = B (byte (m % 128 + 128)) := by unfold B; rw [byte_nat (by omega)]; omega
theorem reads_one' (w : World) (x : Int) (b : BitVec 8) (e : TypeId) (h : x = B b) : ReadsV (w.alloc (.cells #[.int .u8 x] e)) (.slice (some ⟨w.heap.size, 0, none⟩) 1 1) [b] := by subst h; exact reads_one w b e

set_option maxRecDepth 100000 in
theorem uint_any (base : Nat) (v : Value) (l : List (BitVec 8)) (n : Nat) (w : World) (hown : Owns w base v l) (hb : base ≤ w.heap.size) (hl : l.length ≤ 100000000000000) (hn : n < 18446744073709551616) :
    Calls Try.prog 40 #[v, .int .u64 n] w fun e w' => ∃ v', e = .returned v' ∧ Owns w' base v' (l ++ urow n) ∧ Below base w w' := by
  have HO0 : Hid (Owns w base v l) := hown
  have HL : Hid ((l ++ urow n).length ≤ 100000000000010) := by show (l ++ urow n).length ≤ _; rw [List.length_append]; have := urow_len hn; omega
  clear hown
  go_enter Try.func40, Try.ntmps40
  go_wp2
  go_loopw [0, 1] (fun v k wr => ∃ (p : List (BitVec 8)) (m : Nat), k = .int .u64 m ∧ m < 18446744073709551616 ∧ Hid (p ++ urow m = l ++ urow n) ∧ Owns wr base v p ∧ Below base w wr) (fun _ k _ => (intOf k).toNat)
  case atStart => exact ⟨l, n, rfl, hn, rfl, HO0.out, Below.refl _ _⟩
  case round =>
    obtain ⟨p, m, rfl, hm, HE, hown, hB⟩ := hrel
    have HO : Hid (Owns wr base u0 p) := hown
    have HB : Hid (Below base w wr) := hB
    have hsz : base ≤ wr.heap.size := Nat.le_trans hb hB.size
    have HN : Hid (p.length + 1 ≤ 140737488355328) := by
      show p.length + 1 ≤ _
      have h1 := HL.out
      rw [← HE.out, List.length_append] at h1; omega
    clear hown hB HO0 hl hb
    by_cases hlt : m < 128
    · have HV : Hid (_ = _) := byte_low hlt
      go_wp2_with (at_builtin; refine wpList_append_bytes rfl (.tmp 16) (.tmp 19) 27 rfl base Try.underlying27 Try.info5 _ p rfl (HO.out.alloc _) _ [byte m] rfl (reads_one' _ _ _ _ HV.out) HN.out (base_le hsz _) ?_; intro v1 w1 hown1 hg1; have O1 : Hid (Owns w1 base v1 (p ++ [byte m])) := hown1; have B1 : Hid (Below base w w1) := (HB.out.alloc hsz _).trans hg1; clear hown1 hg1)
      go_ret
      exact ⟨_, rfl, by rw [← HE.out, urow_low hlt]; exact O1.out, B1.out⟩
    · have HV : Hid (_ = _) := byte_high m
      go_wp2_with (at_builtin; refine wpList_append_bytes rfl (.tmp 7) (.tmp 12) 27 rfl base Try.underlying27 Try.info5 _ p rfl (HO.out.alloc _) _ [byte (m % 128 + 128)] rfl (reads_one' _ _ _ _ HV.out) HN.out (base_le hsz _) ?_; intro v1 w1 hown1 hg1; have O1 : Hid (Owns w1 base v1 (p ++ [byte (m % 128 + 128)])) := hown1; have B1 : Hid (Below base w w1) := (HB.out.alloc hsz _).trans hg1; clear hown1 hg1)
      go_roundw
      case rel => exact ⟨p ++ [byte (m % 128 + 128)], m / 128, by go_num, by omega, by show _ = _; rw [← HE.out, urow_high hlt]; simp, O1.out, B1.out⟩
      case measure => simp [intOf]; omega

set_option maxRecDepth 100000 in
theorem ruint_any (n : Nat) (w : World) (hn : n < 18446744073709551616) :
    Calls Try.prog 44 #[.int .u64 n] w fun e w' => ∃ v', e = .returned v' ∧ Owns w' w.heap.size v' (urow n) ∧ Below w.heap.size w w' := by
  have HL : Hid ((urow n).length ≤ 10) := urow_len hn
  go_enter Try.func44, Try.ntmps44
  go_wp2
  go_loopw [3, 4] (fun v k wr => ∃ (p : List (BitVec 8)) (m : Nat), k = .int .u64 m ∧ m < 18446744073709551616 ∧ Hid (p ++ urow m = urow n) ∧ Owns wr w.heap.size v p ∧ Below w.heap.size w wr) (fun _ k _ => (intOf k).toNat)
  case atStart => exact ⟨[], n, rfl, hn, rfl, Owns.nil _ _, Below.refl _ _⟩
  case round =>
    obtain ⟨p, m, rfl, hm, HE, hown, hB⟩ := hrel
    have HO : Hid (Owns wr w.heap.size u3 p) := hown
    have HB : Hid (Below w.heap.size w wr) := hB
    have hsz : w.heap.size ≤ wr.heap.size := hB.size
    have HN : Hid (p.length + 1 ≤ 140737488355328) := by
      show p.length + 1 ≤ _
      have h1 := HL.out
      rw [← HE.out, List.length_append] at h1; omega
    clear hown hB
    by_cases hlt : m < 128
    · have HV : Hid (_ = _) := byte_low hlt
      go_wp2_with (at_builtin; refine wpList_append_bytes rfl (.tmp 17) (.tmp 20) 27 rfl w.heap.size Try.underlying27 Try.info5 _ p rfl (HO.out.alloc _) _ [byte m] rfl (reads_one' _ _ _ _ HV.out) HN.out (base_le hsz _) ?_; intro v1 w1 hown1 hg1; have O1 : Hid (Owns w1 w.heap.size v1 (p ++ [byte m])) := hown1; have B1 : Hid (Below w.heap.size w w1) := (HB.out.alloc hsz _).trans hg1; clear hown1 hg1)
      go_ret
      exact ⟨_, rfl, by rw [← HE.out, urow_low hlt]; exact O1.out, B1.out⟩
    · have HV : Hid (_ = _) := byte_high' m
      go_wp2_with (at_builtin; refine wpList_append_bytes rfl (.tmp 8) (.tmp 13) 27 rfl w.heap.size Try.underlying27 Try.info5 _ p rfl (HO.out.alloc _) _ [byte (m % 128 + 128)] rfl (reads_one' _ _ _ _ HV.out) HN.out (base_le hsz _) ?_; intro v1 w1 hown1 hg1; have O1 : Hid (Owns w1 w.heap.size v1 (p ++ [byte (m % 128 + 128)])) := hown1; have B1 : Hid (Below w.heap.size w w1) := (HB.out.alloc hsz _).trans hg1; clear hown1 hg1)
      go_roundw
      case rel => exact ⟨p ++ [byte (m % 128 + 128)], m / 128, by go_num, by omega, by show _ = _; rw [← HE.out, urow_high hlt]; simp, O1.out, B1.out⟩
      case measure => simp [intOf]; omega

end Go.Proofs.Ytcaddedkodjgcaa
