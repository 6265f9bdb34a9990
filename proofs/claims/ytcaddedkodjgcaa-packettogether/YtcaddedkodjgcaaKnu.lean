/-
  The document's nums and Seal: contracts.
-/
import Derived.Test.YtcaddedkodjgcaaKwt
import Derived.Test.YtcaddedkodjgcaaPin
import Derived.Test.YtcaddedkodjgcaaCrs
namespace Go.Proofs.Ytcaddedkodjgcaa
open Go.RowKit Pack Crc
set_option linter.unusedVariables false
set_option linter.unusedSimpArgs false

theorem numsB_take {l : List Int} {i : Nat} (h : i < l.length) : numsB (l.take (i + 1)) = numsB (l.take i) ++ urI (l.getD i 0) := by
  unfold numsB
  rw [take_snoc h, List.flatMap_append, List.getD_eq_getElem?_getD, List.getElem?_eq_getElem h]
  simp
theorem numsB_take_len {l : List Int} (h : ∀ i, i < l.length → l.getD i 0 < 18446744073709551616) : ∀ i, i ≤ l.length → (numsB (l.take i)).length ≤ 10 * i
  | 0, _ => by simp [numsB]
  | i + 1, hi => by
    have h1 := numsB_take_len h i (by omega)
    have h2 := urI_len _ (h i (by omega))
    rw [numsB_take (by omega), List.length_append]
    omega
set_option maxRecDepth 100000 in
set_option maxHeartbeats 800000 in
theorem RNums_any (a : Option Addr) (c : Nat) (l : List Int) (w : World) (hI : IlV w a c l) (h0 : ∀ i, i < l.length → 0 ≤ l.getD i 0) (hl : l.length ≤ 100000) : Calls Try.prog 27 #[.slice a l.length c] w fun e w' => ∃ v', e = .returned v' ∧ Owns w' w.heap.size v' (numsB l) ∧ Below w.heap.size w w' := by
  have h1 := hI.cap1
  have h2 := hI.cap2
  have HC : Hid (∀ wr i, Below w.heap.size w wr → i < l.length → ∃ (g o k : Nat), a = some ⟨g, o, none⟩ ∧ wr.cell? ⟨g, o + i, none⟩ = some (.int .i64 (k : Int)) ∧ l.getD i 0 = k ∧ k ≤ 9223372036854775807) := fun wr i q hi => by
    obtain ⟨b, o, q1, q2, q3⟩ := (hI.below q).at_ hi
    have q4 := h0 i hi
    have q5 := hI.inr i hi
    unfold InR at q5
    refine ⟨b, o, (l.getD i 0).toNat, q1, ?_, by omega, by omega⟩
    rw [show (((l.getD i 0).toNat : Nat) : Int) = l.getD i 0 by omega]
    exact q2
  have HS : Hid (∀ i, i < l.length → numsB (l.take (i + 1)) = numsB (l.take i) ++ urI (l.getD i 0)) := fun i hi => numsB_take hi
  have HT : Hid (numsB (l.take l.length) = numsB l) := by show _ = _; rw [List.take_length]
  have HL : Hid (∀ i, i ≤ l.length → (numsB (l.take i)).length ≤ 10 * i) := fun i hi => numsB_take_len (fun j hj => by have := hI.inr j hj; unfold InR at this; omega) i hi
  generalize l.length = n at *
  clear hI h0
  go_enter Try.func27, Try.ntmps27
  go_wp2
  go_loopw [3, 4] (fun v y wr => ∃ (i : Nat), i ≤ n ∧ y = .int .i64 i ∧ Owns wr w.heap.size v (numsB (l.take i)) ∧ Below w.heap.size w wr) (fun _ y _ => n - (intOf y).toNat)
  case atStart => exact ⟨0, Nat.zero_le _, rfl, Owns.nil _ _, Below.refl _ _⟩
  case round =>
    obtain ⟨i, hi, rfl, hown, hB⟩ := hrel
    have HO : Hid (Owns wr w.heap.size u3 (numsB (l.take i))) := hown
    have HB : Hid (Below w.heap.size w wr) := hB
    clear hown hB
    by_cases hlt : i < n
    · obtain ⟨g, o, k, rfl, x1, x2, x3⟩ := HC.out wr i HB.out hlt
      have HK : Hid (numsB (l.take (i + 1)) = numsB (l.take i) ++ urow k) := by show _ = _; rw [HS.out i hlt, x2]; rfl
      have HM : Hid ((numsB (l.take i)).length + (urow k).length ≤ 140737488355328) := by show _ ≤ _; have := HL.out i hi; have := urow_len (n := k) (by omega); omega
      have HQ : Hid (k < 18446744073709551616) := by show _ < _; omega
      have hk : (k : Int) < 18446744073709551616 := by omega
      clear HC HS HT HL x2
      go_wp2_with (first
        | (go_at_call 44; refine (ruint_eq _ k _ (by go_num) HQ.out).mono ?_; rintro e w1 ⟨v1, rfl, ho, qB⟩; have HV : Hid (Owns w1 wr.heap.size v1 (urow k)) := ho; have HB1 : Hid (Below wr.heap.size wr w1) := qB; clear ho qB)
        | (at_builtin; refine wpList_append_bytes rfl (.tmp 11) (.tmp 17) 27 rfl w.heap.size Try.underlying27 Try.info5 _ (numsB (l.take i)) rfl (HO.out.below HB1.out) _ (urow k) rfl (ReadsV.of_own HV.out) HM.out (Nat.le_trans HB.out.size HB1.out.size) ?_; intro v2 w2 hown2 hg2; have O2 : Hid (Owns w2 w.heap.size v2 (numsB (l.take i) ++ urow k)) := hown2; have B2 : Hid (Below w.heap.size w w2) := (HB.out.trans (HB1.out.mono HB.out.size)).trans hg2; clear hown2 hg2))
      go_roundw
      case rel => exact ⟨i + 1, by omega, by go_num, by rw [HK.out]; exact O2.out, B2.out⟩
      case measure => simp [intOf]; omega
    · obtain rfl : i = n := by omega
      have HE : Hid (Owns wr w.heap.size u3 (numsB l)) := by rw [← HT.out]; exact HO.out
      clear HC HS HT HL HO
      go_wp2
      go_ret
      exact ⟨_, rfl, HE.out, HB.out⟩
theorem four0 (s : BitVec 32) : W s % 256 = B (s.setWidth 8) := by
  unfold W B
  rw [BitVec.toNat_setWidth]
  omega
theorem four1 (s : BitVec 32) : W s / 256 % 256 = B ((s >>> 8).setWidth 8) := by
  unfold W B
  rw [BitVec.toNat_setWidth, BitVec.toNat_ushiftRight, Nat.shiftRight_eq_div_pow]
  omega
theorem four2 (s : BitVec 32) : W s / 65536 % 256 = B ((s >>> 16).setWidth 8) := by
  unfold W B
  rw [BitVec.toNat_setWidth, BitVec.toNat_ushiftRight, Nat.shiftRight_eq_div_pow]
  omega
theorem four3 (s : BitVec 32) : W s / 16777216 = B ((s >>> 24).setWidth 8) := by
  have := s.isLt
  unfold W B
  rw [BitVec.toNat_setWidth, BitVec.toNat_ushiftRight, Nat.shiftRight_eq_div_pow]
  omega
theorem quad_new (w : World) {v0 v1 v2 v3 : Int} {x0 x1 x2 x3 : BitVec 8} (e : TypeId) (h0 : v0 = B x0) (h1 : v1 = B x1) (h2 : v2 = B x2) (h3 : v3 = B x3) : ReadsV (w.alloc (.cells #[.int .u8 v0, .int .u8 v1, .int .u8 v2, .int .u8 v3] e)) (.slice (some ⟨w.heap.size, 0, none⟩) 4 4) [x0, x1, x2, x3] := by
  subst h0 h1 h2 h3
  refine ⟨some ⟨w.heap.size, 0, none⟩, 4, rfl, fun e => (by cases e), Nat.le_refl _, by decide, by unfold maxLen; simp, .inr ⟨w.heap.size, 0, rfl, fun i hi => ?_⟩⟩
  have k := heap_alloc_new w (.cells #[.int .u8 (B x0), .int .u8 (B x1), .int .u8 (B x2), .int .u8 (B x3)] e)
  rw [Nat.zero_add, cell_of_row _ _ _ _ e (0, 0) k]
  have hi4 : i < 4 := hi
  rcases i with _ | _ | _ | _ | i
  · rfl
  · rfl
  · rfl
  · rfl
  · omega
set_option maxRecDepth 100000 in
set_option maxHeartbeats 800000 in
theorem RSeal_any (v : Value) (l : BB) (w : World) (hr : ReadsV w v l) (hl : l.length ≤ 1000000) : Calls Try.prog 19 #[v] w fun e w' => ∃ v', e = .returned v' ∧ Owns w' w.heap.size v' (sealB l) ∧ Below w.heap.size w w' := by
  obtain ⟨a, c, rfl, hrest⟩ := hr
  obtain ⟨n, hn⟩ : ∃ n, l.length = n := ⟨_, rfl⟩
  have HR : Hid (ReadsV w (.slice a n c) l) := ⟨a, c, by rw [hn], hrest⟩
  have HM : Hid (([] : BB).length + l.length ≤ 140737488355328) := by show _ ≤ _; simp; omega
  have HF : Hid (l.length + (fourB (Crc.sum l)).length ≤ 140737488355328) := by show _ ≤ _; rw [fourB_len]; omega
  have HS : Hid (∀ wr, Below w.heap.size w wr → Calls Try.prog 38 #[.slice a n c] wr fun e w' => e = .returned (.int .u32 (W (Crc.sum l))) ∧ Below wr.heap.size wr w') := fun wr q => refsum_any _ _ _ (HR.out.below q) hl
  obtain ⟨hs1, hs2⟩ := W_range (Crc.sum l)
  have HE : Hid (∀ (v0 v1 v2 v3 : Int) (e : TypeId) (w : World), v0 = W (Crc.sum l) % 256 → v1 = W (Crc.sum l) / 256 % 256 → v2 = W (Crc.sum l) / 65536 % 256 → v3 = W (Crc.sum l) / 16777216 → ReadsV (w.alloc (.cells #[.int .u8 v0, .int .u8 v1, .int .u8 v2, .int .u8 v3] e)) (.slice (some ⟨w.heap.size, 0, none⟩) 4 4) (fourB (Crc.sum l))) := fun v0 v1 v2 v3 e w q0 q1 q2 q3 => quad_new w e (q0.trans (four0 _)) (q1.trans (four1 _)) (q2.trans (four2 _)) (q3.trans (four3 _))
  have HZ : Hid (sealB l = l ++ fourB (Crc.sum l)) := rfl
  rw [hn]
  generalize W (Crc.sum l) = s at *
  generalize fourB (Crc.sum l) = q at *
  generalize sealB l = z at *
  clear hrest hl hn
  go_enter Try.func19, Try.ntmps19
  go_wp2_with (first
    | (go_at_call 38; refine (HS.out _ (Below.refl _ _)).mono ?_; rintro e w1 ⟨rfl, qB⟩; have HB : Hid (Below w.heap.size w w1) := qB; clear qB)
    | (at_builtin; refine wpList_append_bytes rfl (.tmp 10) (.tmp 25) 27 rfl w.heap.size Try.underlying27 Try.info5 _ l rfl (O2.out.alloc _) _ q rfl (HE.out _ _ _ _ _ _ (by go_num) (by go_num) (by go_num) (by go_num)) HF.out (base_le B2.out.size _) ?_; intro v3 w3 hown3 hg3; have O3 : Hid (Owns w3 w.heap.size v3 (l ++ q)) := hown3; have B3 : Hid (Below w.heap.size w w3) := (B2.out.alloc B2.out.size _).trans hg3; clear hown3 hg3)
    | (at_builtin; refine wpList_append_bytes rfl (.tmp 7) (.tmp 8) 27 rfl w.heap.size Try.underlying27 Try.info5 _ [] rfl (Owns.nil _ _) _ l rfl (HR.out.below HB.out) HM.out HB.out.size ?_; intro v2 w2 hown2 hg2; have O2 : Hid (Owns w2 w.heap.size v2 l) := hown2; have B2 : Hid (Below w.heap.size w w2) := HB.out.trans hg2; clear hown2 hg2))
  go_ret
  exact ⟨_, rfl, by rw [HZ.out]; exact O3.out, B3.out⟩
end Go.Proofs.Ytcaddedkodjgcaa
