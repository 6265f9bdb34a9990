/-
  The program's bytesOf, numberOf, sumOf, and the document's four: contracts.
-/
import Derived.Test.YtccccclnfimcoaaCrcWalks
import Derived.Test.YtccccclnfimcoaaRecs
import Derived.BigQuiet
namespace Go.Proofs.Ytccccclnfimcoaa
open Go.RowKit Crc
set_option linter.unusedVariables false

theorem b0 (s : BitVec 32) : W s % (256 : Int) = B (s.setWidth 8) := by
  unfold W B; rw [BitVec.toNat_setWidth]; simp
theorem b1 (s : BitVec 32) : W s / (256 : Int) % (256 : Int) = B ((s >>> 8).setWidth 8) := by
  unfold W B; rw [BitVec.toNat_setWidth, BitVec.toNat_ushiftRight, Nat.shiftRight_eq_div_pow]; simp
theorem b2 (s : BitVec 32) : W s / (65536 : Int) % (256 : Int) = B ((s >>> 16).setWidth 8) := by
  unfold W B; rw [BitVec.toNat_setWidth, BitVec.toNat_ushiftRight, Nat.shiftRight_eq_div_pow]; simp
theorem b3 (s : BitVec 32) : W s / (16777216 : Int) = B ((s >>> 24).setWidth 8) := by
  have := s.isLt
  unfold W B; rw [BitVec.toNat_setWidth, BitVec.toNat_ushiftRight, Nat.shiftRight_eq_div_pow]; omega
theorem or_add {a b k : Nat} (ha : a < 2 ^ k) (hb : b * 2 ^ k < 4294967296) (ha2 : a < 4294967296) : bits .or .u32 (a : Int) ((b * 2 ^ k : Nat) : Int) = ((a + b * 2 ^ k : Nat) : Int) := by
  rw [u32_or_nat _ _ ha2 hb, Nat.or_comm, ← Nat.shiftLeft_eq, ← Nat.shiftLeft_add_eq_or_of_lt ha, Nat.add_comm]
theorem or_four (x0 x1 x2 x3 : BitVec 8) : bits .or .u32 (bits .or .u32 (bits .or .u32 (B x0) (B x1 * 256)) (B x2 * 65536)) (B x3 * 16777216) = W (word x0 x1 x2 x3) := by
  have h0 := x0.isLt
  have h1 := x1.isLt
  have h2 := x2.isLt
  have h3 := x3.isLt
  unfold B W
  rw [word_nat]
  have e1 := or_add (a := x0.toNat) (b := x1.toNat) (k := 8) (by omega) (by omega) (by omega)
  have e2 := or_add (a := x0.toNat + x1.toNat * 2 ^ 8) (b := x2.toNat) (k := 16) (by omega) (by omega) (by omega)
  have e3 := or_add (a := x0.toNat + x1.toNat * 2 ^ 8 + x2.toNat * 2 ^ 16) (b := x3.toNat) (k := 24) (by omega) (by omega) (by omega)
  rw [show ((x1.toNat : Int) * 256) = ((x1.toNat * 2 ^ 8 : Nat) : Int) by omega, e1, show ((x2.toNat : Int) * 65536) = ((x2.toNat * 2 ^ 16 : Nat) : Int) by omega, e2, show ((x3.toNat : Int) * 16777216) = ((x3.toNat * 2 ^ 24 : Nat) : Int) by omega, e3]
  omega

/-- A new block that holds a word's four bytes. -/
theorem four_cells (w : World) (s : BitVec 32) (e : TypeId) : ∀ i, i < 4 → (w.alloc (.cells #[.int .u8 (B (s.setWidth 8)), .int .u8 (B ((s >>> 8).setWidth 8)), .int .u8 (B ((s >>> 16).setWidth 8)), .int .u8 (B ((s >>> 24).setWidth 8))] e)).cell? ⟨w.heap.size, i, none⟩ = some (.int .u8 (B (nth (four s) i))) := by
  intro i hi
  rw [cell_of_row _ w.heap.size i _ e (0, 0) (heap_alloc_new w _)]
  match i, hi with
  | 0, _ | 1, _ | 2, _ | 3, _ => rfl
theorem four_new (w : World) (s : BitVec 32) (e : TypeId) : ReadsV (w.alloc (.cells #[.int .u8 (B (s.setWidth 8)), .int .u8 (B ((s >>> 8).setWidth 8)), .int .u8 (B ((s >>> 16).setWidth 8)), .int .u8 (B ((s >>> 24).setWidth 8))] e)) (.slice (some ⟨w.heap.size, 0, none⟩) 4 4) (four s) :=
  ⟨_, 4, rfl, (fun h => by cases h), Nat.le_refl _, by unfold maxLen; omega, by unfold maxLen; rw [four_len]; omega, .inr ⟨w.heap.size, 0, rfl, fun i hi => by rw [Nat.zero_add]; exact four_cells w s e i hi⟩⟩

set_option maxRecDepth 100000 in
set_option maxHeartbeats 400000 in
theorem bytesOf_any (s : BitVec 32) (w : World) : Calls Try.prog 20 #[.int .u32 (W s)] w fun e w' => e = .returned (.agg #[.int .u8 (B (s.setWidth 8)), .int .u8 (B ((s >>> 8).setWidth 8)), .int .u8 (B ((s >>> 16).setWidth 8)), .int .u8 (B ((s >>> 24).setWidth 8))]) ∧ Below w.heap.size w w' := by
  obtain ⟨h0, h1⟩ := W_range s
  go_enter Try.func20, Try.ntmps20
  go_wp2
  refine bodyPost_ret (v := .agg #[.int .u8 (W s % 256), .int .u8 (W s / 256 % 256), .int .u8 (W s / 65536 % 256), .int .u8 (W s / 16777216)]) (by simp [results, Try.results20, go_sem]) rfl ⟨by rw [b0, b1, b2, b3], (Below.refl _ _).alloc (Nat.le_refl _) _⟩

set_option maxRecDepth 100000 in
set_option maxHeartbeats 400000 in
theorem sumOf_any (v u : Value) (l m : Row) (w : World) (hr : ReadsV w v l) (hq : ReadsV w u m) : Calls Try.prog 21 #[v, u] w fun e w' => e = .returned (.int .u32 (W (sum (l ++ m)))) ∧ w' = w := by
  have HR : Hid (ReadsV w v l ∧ ReadsV w u m) := ⟨hr, hq⟩
  clear hr hq
  go_enter Try.func21, Try.ntmps21
  go_wp2_with (first
    | (go_at_call 27; refine (sum_row v l _ HR.out.1).mono ?_; rintro e w' ⟨rfl, hw⟩; have hw2 := hw.symm; clear hw; subst hw2)
    | (go_at_call 26; refine (update_row (sum l) u m _ HR.out.2).mono ?_; rintro e w' ⟨rfl, hw⟩; have hw2 := hw.symm; clear hw; subst hw2))
  go_ret
  exact ⟨by rw [go_sum]; rfl, rfl⟩

set_option maxRecDepth 100000 in
set_option maxHeartbeats 400000 in
theorem numberOf_any (a : Option Addr) (c : Nat) (m : Row) (w : World) (hr : ReadsV w (.slice a 4 c) m) : Calls Try.prog 28 #[.slice a 4 c] w fun e w' => e = .returned (.int .u32 (W (wd m))) ∧ Below w.heap.size w w' := by
  obtain ⟨b, off, rfl, hb, hc⟩ := cells_of hr (by omega)
  have c0 := hc 0 (by omega)
  have c1 := hc 1 (by omega)
  have c2 := hc 2 (by omega)
  have c3 := hc 3 (by omega)
  obtain ⟨l0, u0⟩ := B_range (nth m 0)
  obtain ⟨l1, u1⟩ := B_range (nth m 1)
  obtain ⟨l2, u2⟩ := B_range (nth m 2)
  obtain ⟨l3, u3⟩ := B_range (nth m 3)
  clear hc hr
  rw [Nat.add_zero] at c0
  go_enter Try.func28, Try.ntmps28
  go_wp2
  go_quiet (fail)
  go_wp2
  go_ret
  exact ⟨ret_int (or_four _ _ _ _), below_drewN (Below.refl _ _) _⟩

set_option maxRecDepth 100000 in
set_option maxHeartbeats 400000 in
theorem rfour_any (s : BitVec 32) (w : World) : Calls Try.prog 18 #[.int .u32 (W s)] w fun e w' => ∃ g, e = .returned (.slice (some ⟨g, 0, none⟩) 4 4) ∧ w.heap.size ≤ g ∧ ReadsV w' (.slice (some ⟨g, 0, none⟩) 4 4) (four s) ∧ Below w.heap.size w w' := by
  obtain ⟨h0, h1⟩ := W_range s
  go_enter Try.func18, Try.ntmps18
  go_wp2
  go_ret
  refine ⟨w.heap.size, rfl, Nat.le_refl _, ?_, (Below.refl _ _).alloc (Nat.le_refl _) _⟩
  rw [b0, b1, b2, b3]
  exact four_new w s 5

end Go.Proofs.Ytccccclnfimcoaa
