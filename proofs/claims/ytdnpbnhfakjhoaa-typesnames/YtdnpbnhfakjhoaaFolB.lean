/-
  Two known numbers: contracts.
-/
import Derived.Test.YtdnpbnhfakjhoaaFol3
namespace Go.Proofs.Ytdnpbnhfakjhoaa
section
open Go.RowKit
set_option linter.unusedVariables false

set_option maxRecDepth 100000 in
set_option maxHeartbeats 1000000 in
theorem two_num (base : Nat) (k : Int) (HKi : Hid (InR k)) (ta tb : Tr) (ka na kb nb : Int) (sa sb : ByteArray) (aa ab : Option Addr) (la ca lb cb : Nat) (w : World) (HTa : Hid (Tre w (fun g => base ≤ g) (.agg #[.int .i64 ka, .int .i64 na, .string sa, .slice aa la ca]) ta)) (HTb : Hid (Tre w (fun g => base ≤ g) (.agg #[.int .i64 kb, .int .i64 nb, .string sb, .slice ab lb cb]) tb)) (hbase : base ≤ w.heap.size) (hk : ¬ (11 ≤ k ∧ k ≤ 14)) (r : Int) (HTn : Hid (InR r)) (HR : Hid (∀ w, Calls Try.prog 80 #[.int .i64 k, .agg #[.int .i64 (knK ka), .int .i64 (knN ka na), .int .i64 (knK kb), .int .i64 (knN kb nb)]] w (RecP (some r) w))) :
    Calls Try.prog 50 #[.int .i64 k, .agg #[.int .i64 ka, .int .i64 na, .string sa, .slice aa la ca], .agg #[.int .i64 kb, .int .i64 nb, .string sb, .slice ab lb cb]] w (FPost base w ⟨1, r, [], []⟩) := by
  have hk1 : (k == 11) = false := by simp; omega
  have hk2 : (k == 12) = false := by simp; omega
  have hk3 : (k == 13) = false := by simp; omega
  have hk4 : (k == 14) = false := by simp; omega
  clear hk
  obtain ⟨w0, hw0⟩ : ∃ w0, w0 = ((w.alloc (.cells #[.int .i64 ka, .int .i64 na, .string sa, .slice aa la ca] 24)).alloc (.cells #[.int .i64 kb, .int .i64 nb, .string sb, .slice ab lb cb] 24)).alloc (.cells #[.int .i64 0, .int .i64 0, .string ⟨#[]⟩, .slice none 0 0] 24) := ⟨_, rfl⟩
  have HX : Hid (∀ w', Below w0.heap.size w0 w' → Cell4 w' w.heap.size (.int .i64 ka) (.int .i64 na) (.string sa) (.slice aa la ca) ∧ Cell4 w' (w.heap.size + 1) (.int .i64 kb) (.int .i64 nb) (.string sb) (.slice ab lb cb) ∧ Cell4 w' (w.heap.size + 1 + 1) (.int .i64 0) (.int .i64 0) (.string ⟨#[]⟩) (.slice none 0 0) ∧ Below w.heap.size w w') := fun w' h => by rw [hw0] at h; exact three_new w _ _ _ _ _ _ _ _ h
  have HXn : Hid (w0.heap.size = w.heap.size + 3) := by unfold Hid; rw [hw0, size_alloc, size_alloc, size_alloc]
  go_enter Try.func50, Try.ntmps50
  go_wp2_with fail
  rw [← hw0]
  clear hw0
  obtain ⟨⟨p0, p1, p2, p3, p4⟩, ⟨q0, q1, q2, q3, q4⟩, ⟨r0, r1, r2, r3, r4⟩, _⟩ := HX.out _ (Below.refl _ _)
  have n0 : w0.heap.size ≠ w.heap.size := Nat.ne_of_gt (World.block_lt_of_cell? _ _ p0)
  have m0 : w0.heap.size ≠ w.heap.size + 1 := Nat.ne_of_gt (World.block_lt_of_cell? _ _ q0)
  have HS : Hid (Below w0.heap.size w0 w0.drew) := Below.drew (Below.refl _ _)
  go_region_held3 (fun w' => w'.cell? ⟨w.heap.size, 0, none⟩ = some (.int .i64 ka) ∧ w'.cell? ⟨w.heap.size, 1, none⟩ = some (.int .i64 na) ∧ w'.cell? ⟨w.heap.size, 2, none⟩ = some (.string sa) ∧ w'.cell? ⟨w.heap.size, 3, none⟩ = some (.slice aa la ca) ∧ w'.cell? ⟨w.heap.size + 1, 0, none⟩ = some (.int .i64 kb) ∧ w'.cell? ⟨w.heap.size + 1, 1, none⟩ = some (.int .i64 nb) ∧ w'.cell? ⟨w.heap.size + 1, 2, none⟩ = some (.string sb) ∧ w'.cell? ⟨w.heap.size + 1, 3, none⟩ = some (.slice ab lb cb)) (go_keep) (first
    | (go_at_call 74; have := HZ2; refine (know_any _ _ _ _ _ _ _).mono ?_; rintro e w5 ⟨rfl, HB⟩; have HZ3 : Hid (Below w0.heap.size w0 w5 ∧ Cell4 w5 w0.heap.size (.int .i64 0) (.int .i64 0) (.int .i64 0) (.int .i64 0)) := ⟨HZ2.out.1.trans (HB.mono HZ2.out.1.size), HZ2.out.2.below HB⟩; obtain ⟨z0, z1, z2, z3, z4⟩ := HZ3.out.2; obtain ⟨⟨p0, p1, p2, p3, p4⟩, ⟨q0, q1, q2, q3, q4⟩, ⟨r0, r1, r2, r3, r4⟩, _⟩ := HX.out _ HZ3.out.1; clear HB)
    | (go_at_call 74; have := HS2; refine (know_any _ _ _ _ _ _ _).mono ?_; rintro e w5 ⟨rfl, HB⟩; have HZ4 : Hid (Below w0.heap.size w0 w5 ∧ Cell4 w5 w4.heap.size (.int .i64 0) (.int .i64 0) (.int .i64 0) (.int .i64 0)) := ⟨(HS2.out.alloc HS2.out.size (.cells #[.int .i64 0, .int .i64 0, .int .i64 0, .int .i64 0] 97)).trans (HB.mono (Nat.le_trans HS2.out.size (le_alloc _ _))), (Cell4.new w4 (.int .i64 0) (.int .i64 0) (.int .i64 0) (.int .i64 0) 97).below HB⟩; obtain ⟨z0, z1, z2, z3, z4⟩ := HZ4.out.2; obtain ⟨⟨p0, p1, p2, p3, p4⟩, ⟨q0, q1, q2, q3, q4⟩, ⟨r0, r1, r2, r3, r4⟩, _⟩ := HX.out _ HZ4.out.1; clear HB)
    | (go_at_call 74; have := HS2; refine (know_any _ _ _ _ _ _ _).mono ?_; rintro e w5 ⟨rfl, HB⟩; have HS3 : Hid (Below w0.heap.size w0 w5) := HS2.out.trans (HB.mono HS2.out.size); obtain ⟨⟨p0, p1, p2, p3, p4⟩, ⟨q0, q1, q2, q3, q4⟩, ⟨r0, r1, r2, r3, r4⟩, _⟩ := HX.out _ HS3.out; have n5 : w5.heap.size ≠ w.heap.size := Nat.ne_of_gt (World.block_lt_of_cell? _ _ p0); have m5 : w5.heap.size ≠ w.heap.size + 1 := Nat.ne_of_gt (World.block_lt_of_cell? _ _ q0); clear HB)
    | (go_at_call 74; refine (know_any _ _ _ _ _ _ _).mono ?_; rintro e w4 ⟨rfl, HB⟩; have HZ2 : Hid (Below w0.heap.size w0 w4 ∧ Cell4 w4 w0.heap.size (.int .i64 0) (.int .i64 0) (.int .i64 0) (.int .i64 0)) := ⟨(HS.out.alloc HS.out.size (.cells #[.int .i64 0, .int .i64 0, .int .i64 0, .int .i64 0] 97)).trans (HB.mono (Nat.le_trans HS.out.size (le_alloc _ _))), (Cell4.new w0.drew (.int .i64 0) (.int .i64 0) (.int .i64 0) (.int .i64 0) 97).below HB⟩; obtain ⟨z0, z1, z2, z3, z4⟩ := HZ2.out.2; obtain ⟨⟨p0, p1, p2, p3, p4⟩, ⟨q0, q1, q2, q3, q4⟩, ⟨r0, r1, r2, r3, r4⟩, _⟩ := HX.out _ HZ2.out.1; clear HB)
    | (go_at_call 74; refine (know_any _ _ _ _ _ _ _).mono ?_; rintro e w4 ⟨rfl, HB⟩; have HS2 : Hid (Below w0.heap.size w0 w4) := HS.out.trans (HB.mono HS.out.size); obtain ⟨⟨p0, p1, p2, p3, p4⟩, ⟨q0, q1, q2, q3, q4⟩, ⟨r0, r1, r2, r3, r4⟩, _⟩ := HX.out _ HS2.out; have n4 : w4.heap.size ≠ w.heap.size := Nat.ne_of_gt (World.block_lt_of_cell? _ _ p0); have m4 : w4.heap.size ≠ w.heap.size + 1 := Nat.ne_of_gt (World.block_lt_of_cell? _ _ q0); clear HB))
  all_goals first
    | (have := HS3
       obtain ⟨w6, hw6⟩ : ∃ w6, w6 = w5.alloc (.cells #[.int .i64 (knK ka), .int .i64 (knN ka na), .int .i64 (knK kb), .int .i64 (knN kb nb)] 97) := ⟨_, rfl⟩
       obtain ⟨z, hz⟩ : ∃ z, z = w5.heap.size := ⟨_, rfl⟩
       have HY : Hid (Sit w w6 z (.int .i64 ka) (.int .i64 na) (.string sa) (.slice aa la ca) (.int .i64 kb) (.int .i64 nb) (.string sb) (.slice ab lb cb) (.int .i64 (knK ka)) (.int .i64 (knN ka na)) (.int .i64 (knK kb)) (.int .i64 (knN kb nb))) := by
         obtain ⟨h1, h2, h3, h4⟩ := HX.out _ HS3.out
         rw [hw6, hz]; exact ⟨h1.alloc _, h2.alloc _, h3.alloc _, Cell4.new w5 _ _ _ _ 97, h4.alloc h4.size _⟩
       rw [← hw6, ← hz]
       clear hw6 hz HS3 HS2 n5 m5 n4 m4)
    | (have := HZ4
       obtain ⟨w6, hw6⟩ : ∃ w6, w6 = (((w5.setCell ⟨w4.heap.size, 0, none⟩ (.int .i64 (knK ka))).setCell ⟨w4.heap.size, 0 + 1, none⟩ (.int .i64 (knN ka na))).setCell ⟨w4.heap.size, 0 + 2, none⟩ (.int .i64 (knK kb))).setCell ⟨w4.heap.size, 0 + 3, none⟩ (.int .i64 (knN kb nb)) := ⟨_, rfl⟩
       obtain ⟨z, hz⟩ : ∃ z, z = w4.heap.size := ⟨_, rfl⟩
       have HY : Hid (Sit w w6 z (.int .i64 ka) (.int .i64 na) (.string sa) (.slice aa la ca) (.int .i64 kb) (.int .i64 nb) (.string sb) (.slice ab lb cb) (.int .i64 (knK ka)) (.int .i64 (knN ka na)) (.int .i64 (knK kb)) (.int .i64 (knN kb nb))) := by
         obtain ⟨h1, h2, h3, h4⟩ := HX.out _ HZ4.out.1
         have hge := HS2.out.size
         have hgn := HXn.out
         rw [hw6, hz]; exact ⟨h1.four (by omega), h2.four (by omega), h3.four (by omega), HZ4.out.2.put, below_four h4 (by omega)⟩
       simp only [Nat.zero_add] at hw6
       rw [← hw6, ← hz]
       clear hw6 hz HZ4 HS2 n4 m4)
    | (have := HZ3
       obtain ⟨w6, hw6⟩ : ∃ w6, w6 = (((w5.setCell ⟨w0.heap.size, 0, none⟩ (.int .i64 (knK ka))).setCell ⟨w0.heap.size, 0 + 1, none⟩ (.int .i64 (knN ka na))).setCell ⟨w0.heap.size, 0 + 2, none⟩ (.int .i64 (knK kb))).setCell ⟨w0.heap.size, 0 + 3, none⟩ (.int .i64 (knN kb nb)) := ⟨_, rfl⟩
       obtain ⟨z, hz⟩ : ∃ z, z = w0.heap.size := ⟨_, rfl⟩
       have HY : Hid (Sit w w6 z (.int .i64 ka) (.int .i64 na) (.string sa) (.slice aa la ca) (.int .i64 kb) (.int .i64 nb) (.string sb) (.slice ab lb cb) (.int .i64 (knK ka)) (.int .i64 (knN ka na)) (.int .i64 (knK kb)) (.int .i64 (knN kb nb))) := by
         obtain ⟨h1, h2, h3, h4⟩ := HX.out _ HZ3.out.1
         have hgn := HXn.out
         rw [hw6, hz]; exact ⟨h1.four (by omega), h2.four (by omega), h3.four (by omega), HZ3.out.2.put, below_four h4 (by omega)⟩
       simp only [Nat.zero_add] at hw6
       rw [← hw6, ← hz]
       clear hw6 hz HZ3 HZ2)
  all_goals (
    generalize knK ka = xa at *
    generalize knN ka na = ya at *
    generalize knK kb = xb at *
    generalize knN kb nb = yb at *
    obtain ⟨p0, p1, p2, p3, p4⟩ := HY.out.a
    obtain ⟨q0, q1, q2, q3, q4⟩ := HY.out.b
    obtain ⟨r0, r1, r2, r3, r4⟩ := HY.out.r
    obtain ⟨z0, z1, z2, z3, z4⟩ := HY.out.z
    have hlz := World.block_lt_of_cell? _ _ z0
    have hlp := World.block_lt_of_cell? _ _ p0
    have hlq := World.block_lt_of_cell? _ _ q0
    have hlr := World.block_lt_of_cell? _ _ r0
    go_wp2_with (go_at_call 80; have := HY; refine (HR.out _).mono ?_; rintro e w7 ⟨rv, ok, rfl, htold, HB⟩; obtain ⟨rfl, rfl⟩ : rv = r ∧ ok = true := htold.elim (fun h => ⟨(Option.some.inj h.1).symm, h.2⟩) (fun h => by cases h.1); have HY7 : Hid (Sit w w7 z (.int .i64 ka) (.int .i64 na) (.string sa) (.slice aa la ca) (.int .i64 kb) (.int .i64 nb) (.string sb) (.slice ab lb cb) (.int .i64 xa) (.int .i64 ya) (.int .i64 xb) (.int .i64 yb)) := HY.out.below HB; obtain ⟨p0, p1, p2, p3, p4⟩ := HY7.out.a; obtain ⟨q0, q1, q2, q3, q4⟩ := HY7.out.b; obtain ⟨r0, r1, r2, r3, r4⟩ := HY7.out.r; have hlp := World.block_lt_of_cell? _ _ p0; have hlq := World.block_lt_of_cell? _ _ q0; have hlr := World.block_lt_of_cell? _ _ r0; clear HB HY htold)
    refine bodyPost_ret (v := .agg #[.int .i64 1, .int .i64 rv, .string ⟨#[]⟩, .slice none 0 0]) (by simp [results, Try.results50, go_sem, r0, r1, r2, r3]) rfl ⟨_, _, _, _, _, _, rfl, ?_⟩
    have hf := below_four HY7.out.bel (M := w.heap.size + 1 + 1) (o := 0) (u0 := .int .i64 1) (u1 := .int .i64 rv) (u2 := .string ⟨#[]⟩) (u3 := .slice none 0 0) (by omega)
    exact ⟨Tre.leaf _ _ ⟨by decide, by decide⟩ HTn.out [] (by decide), hf⟩)
set_option maxRecDepth 100000 in
set_option maxHeartbeats 1000000 in
theorem two_none (base : Nat) (k : Int) (HKi : Hid (InR k)) (ta tb : Tr) (ka na kb nb : Int) (sa sb : ByteArray) (aa ab : Option Addr) (la ca lb cb : Nat) (w : World) (HTa : Hid (Tre w (fun g => base ≤ g) (.agg #[.int .i64 ka, .int .i64 na, .string sa, .slice aa la ca]) ta)) (HTb : Hid (Tre w (fun g => base ≤ g) (.agg #[.int .i64 kb, .int .i64 nb, .string sb, .slice ab lb cb]) tb)) (hbase : base ≤ w.heap.size) (hk : ¬ (11 ≤ k ∧ k ≤ 14)) (HR : Hid (∀ w, Calls Try.prog 80 #[.int .i64 k, .agg #[.int .i64 (knK ka), .int .i64 (knN ka na), .int .i64 (knK kb), .int .i64 (knN kb nb)]] w (RecP none w))) :
    Calls Try.prog 50 #[.int .i64 k, .agg #[.int .i64 ka, .int .i64 na, .string sa, .slice aa la ca], .agg #[.int .i64 kb, .int .i64 nb, .string sb, .slice ab lb cb]] w (FPost base w ⟨k, 0, [], [ta, tb]⟩) := by
  have hk1 : (k == 11) = false := by simp; omega
  have hk2 : (k == 12) = false := by simp; omega
  have hk3 : (k == 13) = false := by simp; omega
  have hk4 : (k == 14) = false := by simp; omega
  clear hk
  obtain ⟨w0, hw0⟩ : ∃ w0, w0 = ((w.alloc (.cells #[.int .i64 ka, .int .i64 na, .string sa, .slice aa la ca] 24)).alloc (.cells #[.int .i64 kb, .int .i64 nb, .string sb, .slice ab lb cb] 24)).alloc (.cells #[.int .i64 0, .int .i64 0, .string ⟨#[]⟩, .slice none 0 0] 24) := ⟨_, rfl⟩
  have HX : Hid (∀ w', Below w0.heap.size w0 w' → Cell4 w' w.heap.size (.int .i64 ka) (.int .i64 na) (.string sa) (.slice aa la ca) ∧ Cell4 w' (w.heap.size + 1) (.int .i64 kb) (.int .i64 nb) (.string sb) (.slice ab lb cb) ∧ Cell4 w' (w.heap.size + 1 + 1) (.int .i64 0) (.int .i64 0) (.string ⟨#[]⟩) (.slice none 0 0) ∧ Below w.heap.size w w') := fun w' h => by rw [hw0] at h; exact three_new w _ _ _ _ _ _ _ _ h
  have HXn : Hid (w0.heap.size = w.heap.size + 3) := by unfold Hid; rw [hw0, size_alloc, size_alloc, size_alloc]
  go_enter Try.func50, Try.ntmps50
  go_wp2_with fail
  rw [← hw0]
  clear hw0
  obtain ⟨⟨p0, p1, p2, p3, p4⟩, ⟨q0, q1, q2, q3, q4⟩, ⟨r0, r1, r2, r3, r4⟩, _⟩ := HX.out _ (Below.refl _ _)
  have n0 : w0.heap.size ≠ w.heap.size := Nat.ne_of_gt (World.block_lt_of_cell? _ _ p0)
  have m0 : w0.heap.size ≠ w.heap.size + 1 := Nat.ne_of_gt (World.block_lt_of_cell? _ _ q0)
  have HS : Hid (Below w0.heap.size w0 w0.drew) := Below.drew (Below.refl _ _)
  go_region_held3 (fun w' => w'.cell? ⟨w.heap.size, 0, none⟩ = some (.int .i64 ka) ∧ w'.cell? ⟨w.heap.size, 1, none⟩ = some (.int .i64 na) ∧ w'.cell? ⟨w.heap.size, 2, none⟩ = some (.string sa) ∧ w'.cell? ⟨w.heap.size, 3, none⟩ = some (.slice aa la ca) ∧ w'.cell? ⟨w.heap.size + 1, 0, none⟩ = some (.int .i64 kb) ∧ w'.cell? ⟨w.heap.size + 1, 1, none⟩ = some (.int .i64 nb) ∧ w'.cell? ⟨w.heap.size + 1, 2, none⟩ = some (.string sb) ∧ w'.cell? ⟨w.heap.size + 1, 3, none⟩ = some (.slice ab lb cb)) (go_keep) (first
    | (go_at_call 74; have := HZ2; refine (know_any _ _ _ _ _ _ _).mono ?_; rintro e w5 ⟨rfl, HB⟩; have HZ3 : Hid (Below w0.heap.size w0 w5 ∧ Cell4 w5 w0.heap.size (.int .i64 0) (.int .i64 0) (.int .i64 0) (.int .i64 0)) := ⟨HZ2.out.1.trans (HB.mono HZ2.out.1.size), HZ2.out.2.below HB⟩; obtain ⟨z0, z1, z2, z3, z4⟩ := HZ3.out.2; obtain ⟨⟨p0, p1, p2, p3, p4⟩, ⟨q0, q1, q2, q3, q4⟩, ⟨r0, r1, r2, r3, r4⟩, _⟩ := HX.out _ HZ3.out.1; clear HB)
    | (go_at_call 74; have := HS2; refine (know_any _ _ _ _ _ _ _).mono ?_; rintro e w5 ⟨rfl, HB⟩; have HZ4 : Hid (Below w0.heap.size w0 w5 ∧ Cell4 w5 w4.heap.size (.int .i64 0) (.int .i64 0) (.int .i64 0) (.int .i64 0)) := ⟨(HS2.out.alloc HS2.out.size (.cells #[.int .i64 0, .int .i64 0, .int .i64 0, .int .i64 0] 97)).trans (HB.mono (Nat.le_trans HS2.out.size (le_alloc _ _))), (Cell4.new w4 (.int .i64 0) (.int .i64 0) (.int .i64 0) (.int .i64 0) 97).below HB⟩; obtain ⟨z0, z1, z2, z3, z4⟩ := HZ4.out.2; obtain ⟨⟨p0, p1, p2, p3, p4⟩, ⟨q0, q1, q2, q3, q4⟩, ⟨r0, r1, r2, r3, r4⟩, _⟩ := HX.out _ HZ4.out.1; clear HB)
    | (go_at_call 74; have := HS2; refine (know_any _ _ _ _ _ _ _).mono ?_; rintro e w5 ⟨rfl, HB⟩; have HS3 : Hid (Below w0.heap.size w0 w5) := HS2.out.trans (HB.mono HS2.out.size); obtain ⟨⟨p0, p1, p2, p3, p4⟩, ⟨q0, q1, q2, q3, q4⟩, ⟨r0, r1, r2, r3, r4⟩, _⟩ := HX.out _ HS3.out; have n5 : w5.heap.size ≠ w.heap.size := Nat.ne_of_gt (World.block_lt_of_cell? _ _ p0); have m5 : w5.heap.size ≠ w.heap.size + 1 := Nat.ne_of_gt (World.block_lt_of_cell? _ _ q0); clear HB)
    | (go_at_call 74; refine (know_any _ _ _ _ _ _ _).mono ?_; rintro e w4 ⟨rfl, HB⟩; have HZ2 : Hid (Below w0.heap.size w0 w4 ∧ Cell4 w4 w0.heap.size (.int .i64 0) (.int .i64 0) (.int .i64 0) (.int .i64 0)) := ⟨(HS.out.alloc HS.out.size (.cells #[.int .i64 0, .int .i64 0, .int .i64 0, .int .i64 0] 97)).trans (HB.mono (Nat.le_trans HS.out.size (le_alloc _ _))), (Cell4.new w0.drew (.int .i64 0) (.int .i64 0) (.int .i64 0) (.int .i64 0) 97).below HB⟩; obtain ⟨z0, z1, z2, z3, z4⟩ := HZ2.out.2; obtain ⟨⟨p0, p1, p2, p3, p4⟩, ⟨q0, q1, q2, q3, q4⟩, ⟨r0, r1, r2, r3, r4⟩, _⟩ := HX.out _ HZ2.out.1; clear HB)
    | (go_at_call 74; refine (know_any _ _ _ _ _ _ _).mono ?_; rintro e w4 ⟨rfl, HB⟩; have HS2 : Hid (Below w0.heap.size w0 w4) := HS.out.trans (HB.mono HS.out.size); obtain ⟨⟨p0, p1, p2, p3, p4⟩, ⟨q0, q1, q2, q3, q4⟩, ⟨r0, r1, r2, r3, r4⟩, _⟩ := HX.out _ HS2.out; have n4 : w4.heap.size ≠ w.heap.size := Nat.ne_of_gt (World.block_lt_of_cell? _ _ p0); have m4 : w4.heap.size ≠ w.heap.size + 1 := Nat.ne_of_gt (World.block_lt_of_cell? _ _ q0); clear HB))
  all_goals first
    | (have := HS3
       obtain ⟨w6, hw6⟩ : ∃ w6, w6 = w5.alloc (.cells #[.int .i64 (knK ka), .int .i64 (knN ka na), .int .i64 (knK kb), .int .i64 (knN kb nb)] 97) := ⟨_, rfl⟩
       obtain ⟨z, hz⟩ : ∃ z, z = w5.heap.size := ⟨_, rfl⟩
       have HY : Hid (Sit w w6 z (.int .i64 ka) (.int .i64 na) (.string sa) (.slice aa la ca) (.int .i64 kb) (.int .i64 nb) (.string sb) (.slice ab lb cb) (.int .i64 (knK ka)) (.int .i64 (knN ka na)) (.int .i64 (knK kb)) (.int .i64 (knN kb nb))) := by
         obtain ⟨h1, h2, h3, h4⟩ := HX.out _ HS3.out
         rw [hw6, hz]; exact ⟨h1.alloc _, h2.alloc _, h3.alloc _, Cell4.new w5 _ _ _ _ 97, h4.alloc h4.size _⟩
       rw [← hw6, ← hz]
       clear hw6 hz HS3 HS2 n5 m5 n4 m4)
    | (have := HZ4
       obtain ⟨w6, hw6⟩ : ∃ w6, w6 = (((w5.setCell ⟨w4.heap.size, 0, none⟩ (.int .i64 (knK ka))).setCell ⟨w4.heap.size, 0 + 1, none⟩ (.int .i64 (knN ka na))).setCell ⟨w4.heap.size, 0 + 2, none⟩ (.int .i64 (knK kb))).setCell ⟨w4.heap.size, 0 + 3, none⟩ (.int .i64 (knN kb nb)) := ⟨_, rfl⟩
       obtain ⟨z, hz⟩ : ∃ z, z = w4.heap.size := ⟨_, rfl⟩
       have HY : Hid (Sit w w6 z (.int .i64 ka) (.int .i64 na) (.string sa) (.slice aa la ca) (.int .i64 kb) (.int .i64 nb) (.string sb) (.slice ab lb cb) (.int .i64 (knK ka)) (.int .i64 (knN ka na)) (.int .i64 (knK kb)) (.int .i64 (knN kb nb))) := by
         obtain ⟨h1, h2, h3, h4⟩ := HX.out _ HZ4.out.1
         have hge := HS2.out.size
         have hgn := HXn.out
         rw [hw6, hz]; exact ⟨h1.four (by omega), h2.four (by omega), h3.four (by omega), HZ4.out.2.put, below_four h4 (by omega)⟩
       simp only [Nat.zero_add] at hw6
       rw [← hw6, ← hz]
       clear hw6 hz HZ4 HS2 n4 m4)
    | (have := HZ3
       obtain ⟨w6, hw6⟩ : ∃ w6, w6 = (((w5.setCell ⟨w0.heap.size, 0, none⟩ (.int .i64 (knK ka))).setCell ⟨w0.heap.size, 0 + 1, none⟩ (.int .i64 (knN ka na))).setCell ⟨w0.heap.size, 0 + 2, none⟩ (.int .i64 (knK kb))).setCell ⟨w0.heap.size, 0 + 3, none⟩ (.int .i64 (knN kb nb)) := ⟨_, rfl⟩
       obtain ⟨z, hz⟩ : ∃ z, z = w0.heap.size := ⟨_, rfl⟩
       have HY : Hid (Sit w w6 z (.int .i64 ka) (.int .i64 na) (.string sa) (.slice aa la ca) (.int .i64 kb) (.int .i64 nb) (.string sb) (.slice ab lb cb) (.int .i64 (knK ka)) (.int .i64 (knN ka na)) (.int .i64 (knK kb)) (.int .i64 (knN kb nb))) := by
         obtain ⟨h1, h2, h3, h4⟩ := HX.out _ HZ3.out.1
         have hgn := HXn.out
         rw [hw6, hz]; exact ⟨h1.four (by omega), h2.four (by omega), h3.four (by omega), HZ3.out.2.put, below_four h4 (by omega)⟩
       simp only [Nat.zero_add] at hw6
       rw [← hw6, ← hz]
       clear hw6 hz HZ3 HZ2)
  all_goals (
    generalize knK ka = xa at *
    generalize knN ka na = ya at *
    generalize knK kb = xb at *
    generalize knN kb nb = yb at *
    obtain ⟨p0, p1, p2, p3, p4⟩ := HY.out.a
    obtain ⟨q0, q1, q2, q3, q4⟩ := HY.out.b
    obtain ⟨r0, r1, r2, r3, r4⟩ := HY.out.r
    obtain ⟨z0, z1, z2, z3, z4⟩ := HY.out.z
    have hlz := World.block_lt_of_cell? _ _ z0
    have hlp := World.block_lt_of_cell? _ _ p0
    have hlq := World.block_lt_of_cell? _ _ q0
    have hlr := World.block_lt_of_cell? _ _ r0
    go_wp2_with (go_at_call 80; have := HY; refine (HR.out _).mono ?_; rintro e w7 ⟨rv, ok, rfl, htold, HB⟩; obtain rfl : ok = false := htold.elim (fun h => by cases h.1) (fun h => h.2); have HY7 : Hid (Sit w w7 z (.int .i64 ka) (.int .i64 na) (.string sa) (.slice aa la ca) (.int .i64 kb) (.int .i64 nb) (.string sb) (.slice ab lb cb) (.int .i64 xa) (.int .i64 ya) (.int .i64 xb) (.int .i64 yb)) := HY.out.below HB; obtain ⟨p0, p1, p2, p3, p4⟩ := HY7.out.a; obtain ⟨q0, q1, q2, q3, q4⟩ := HY7.out.b; obtain ⟨r0, r1, r2, r3, r4⟩ := HY7.out.r; have hlp := World.block_lt_of_cell? _ _ p0; have hlq := World.block_lt_of_cell? _ _ q0; have hlr := World.block_lt_of_cell? _ _ r0; clear HB HY htold)
    refine bodyPost_ret (v := .agg #[.int .i64 k, .int .i64 0, .string ⟨#[]⟩, .slice (some ⟨w7.heap.size, 0, none⟩) 2 2]) (by simp [results, Try.results50, go_sem, r0, r1, r2, r3, hlr]) rfl ⟨_, _, _, _, _, _, rfl, ?_⟩
    exact node2_out (below_four HY7.out.bel (M := w.heap.size + 1 + 1) (o := 0) (by omega)) hbase HTa.out HTb.out HKi.out four_size.symm)
end
section
open Go.RowKit
set_option linter.unusedVariables false

theorem knK_plain {k : Int} (h : plainK k = true) : knK k = k := if_pos h
theorem knN_plain {k n : Int} (h : plainK k = true) : knN k n = n := if_pos h
theorem knK_zero {k : Int} (h : ¬ plainK k = true) : knK k = 0 := if_neg h
theorem plain_ne {k : Int} (h : plainK k = true) : k = 1 ∨ k = 3 ∨ k = 4 := by unfold plainK at h; simpa using h
theorem plain_of {k : Int} (h : k = 1 ∨ k = 3 ∨ k = 4) : plainK k = true := by unfold plainK; simpa using h
theorem knK_iff {k : Int} {c : Int} (hc : c = 1 ∨ c = 3 ∨ c = 4) : knK k = c ↔ k = c := by
  by_cases h : plainK k = true
  · rw [knK_plain h]
  · rw [knK_zero h]
    constructor
    · intro e; omega
    · intro e; rw [e] at h; exact absurd (plain_of hc) h
theorem recM_in {k a b r : Int} (ha : 0 ≤ a) (ha2 : a ≤ 9223372036854775807) (hb : 0 ≤ b) (h : recM k a b = some r) : InR r := by
  unfold recM at h
  unfold InR
  repeat' split at h
  all_goals first | (cases h; done) | skip
  · injection h with h; omega
  · injection h with h; omega
  · injection h with h
    have := Int.mul_nonneg ha hb
    omega
  · injection h with h
    have h1 := Int.ediv_nonneg ha hb
    have h2 := Int.ediv_le_self b ha
    omega
theorem two_any (base : Nat) (k : Int) (hk : InR k) (ta tb : Tr) (va vb : Value) (w : World) (hTa : Tre w (fun g => base ≤ g) va ta) (hTb : Tre w (fun g => base ≤ g) vb tb) (hna : ta.kind = 1 → 0 ≤ ta.n) (hnb : tb.kind = 1 → 0 ≤ tb.n) (hbase : base ≤ w.heap.size) : Calls Try.prog 50 #[.int .i64 k, va, vb] w (FPost base w (twoM k ta tb)) := by
  obtain ⟨aa, ca, rfl, _, _, hra, _⟩ := hTa.opened
  obtain ⟨ab, cb, rfl, _, _, hrb, _⟩ := hTb.opened
  unfold twoM
  by_cases h1 : k = 13 ∨ k = 14
  · rw [if_pos h1]
    by_cases h2 : ta.kind = 3 ∨ ta.kind = 4
    · rw [if_pos h2]
      have hx : knK ta.kind = 3 ∨ knK ta.kind = 4 := by rw [knK_plain (plain_of (by omega))]; exact h2
      by_cases h3 : ta.kind = if k = 14 then 3 else 4
      · rw [if_pos h3]; exact two_left base k hk ta tb _ _ _ _ _ _ _ _ _ _ _ _ w hTa hTb hbase h1 hx h3
      · rw [if_neg h3]; exact two_right base k hk ta tb _ _ _ _ _ _ _ _ _ _ _ _ w hTa hTb hbase h1 hx h3
    · rw [if_neg h2]
      exact two_and base k hk ta tb _ _ _ _ _ _ _ _ _ _ _ _ w hTa hTb hbase h1 (by rw [knK_iff (.inr (.inl rfl)), knK_iff (.inr (.inr rfl))]; exact h2)
  · rw [if_neg h1]
    by_cases h2 : k = 11 ∨ k = 12
    · rw [if_pos h2]
      by_cases h3 : plainK ta.kind = true ∧ plainK tb.kind = true
      · rw [if_pos h3]
        refine two_holds base k hk ta tb _ _ _ _ _ _ _ _ _ _ _ _ w hTa hTb hbase h2 ?_ _ ?_
        · rw [knK_plain h3.1, knK_plain h3.2]
          have := plain_ne h3.1; have := plain_ne h3.2
          omega
        · rw [knK_plain h3.1, knK_plain h3.2, knN_plain h3.1, knN_plain h3.2]
      · rw [if_neg h3]
        refine two_cmp base k hk ta tb _ _ _ _ _ _ _ _ _ _ _ _ w hTa hTb hbase h2 fun hh => h3 ?_
        constructor
        · by_cases e : plainK ta.kind = true
          · exact e
          · exact absurd (knK_zero e) hh.1
        · by_cases e : plainK tb.kind = true
          · exact e
          · exact absurd (knK_zero e) hh.2
    · rw [if_neg h2]
      have hk2 : ¬ (11 ≤ k ∧ k ≤ 14) := by omega
      by_cases h3 : ta.kind = 1 ∧ tb.kind = 1
      · rw [if_pos h3]
        have pa : plainK ta.kind = true := plain_of (by omega)
        have pb : plainK tb.kind = true := plain_of (by omega)
        have HR : ∀ w, Calls Try.prog 80 #[.int .i64 k, .agg #[.int .i64 (knK ta.kind), .int .i64 (knN ta.kind ta.n), .int .i64 (knK tb.kind), .int .i64 (knN tb.kind tb.n)]] w (RecP (recM k ta.n tb.n) w) := fun w => by
          rw [knK_plain pa, knK_plain pb, knN_plain pa, knN_plain pb, h3.1, h3.2]
          exact rec_num k ta.n tb.n (hna h3.1) hra.2 (hnb h3.2) hrb.2 w
        cases hr : recM k ta.n tb.n with
        | some r => rw [hr] at HR; exact two_num base k hk ta tb _ _ _ _ _ _ _ _ _ _ _ _ w hTa hTb hbase hk2 r (recM_in (hna h3.1) hra.2 (hnb h3.2) hr) HR
        | none => rw [hr] at HR; exact two_none base k hk ta tb _ _ _ _ _ _ _ _ _ _ _ _ w hTa hTb hbase hk2 HR
      · rw [if_neg h3]
        refine two_none base k hk ta tb _ _ _ _ _ _ _ _ _ _ _ _ w hTa hTb hbase hk2 fun w => rec_not _ _ _ _ _ (fun hh => h3 ?_) w
        rw [knK_iff (.inl rfl), knK_iff (.inl rfl)] at hh
        exact hh
end
section
open Go.RowKit
set_option linter.unusedVariables false

def foM : Nat → Tr → Tr
  | 0, t => t
  | d + 1, t => match t.kids with
    | [] => ⟨t.kind, t.n, t.name, []⟩
    | [x] => oneM t.kind (foM d x)
    | x :: y :: _ => twoM t.kind (foM d x) (foM d y)
theorem recM_pos {k a b r : Int} (ha : 0 ≤ a) (hb : 0 ≤ b) (h : recM k a b = some r) : 0 ≤ r := by
  unfold recM at h
  repeat' split at h
  all_goals first | (cases h; done) | skip
  · injection h with h; omega
  · injection h with h; omega
  · injection h with h
    have := Int.mul_nonneg ha hb
    omega
  · injection h with h
    have h1 := Int.ediv_nonneg ha hb
    omega
def Nn (t : Tr) : Prop := t.kind = 1 → 0 ≤ t.n
theorem ans_nn (b : Bool) : Nn (ansT b) := by intro h; cases b <;> simp [ansT] at h
theorem one_nn {k : Int} {s : Tr} (hk : k ≠ 1) (h : Nn s) : Nn (oneM k s) := by
  unfold oneM
  split
  · exact ans_nn _
  · split
    · exact h
    · exact fun e => absurd e hk
theorem two_nn {k : Int} {a b : Tr} (hk : k ≠ 1) (ha : Nn a) (hb : Nn b) : Nn (twoM k a b) := by
  unfold twoM
  split
  · split
    · by_cases c : a.kind = if k = 14 then 3 else 4
      · rw [if_pos c]; exact ha
      · rw [if_neg c]; exact hb
    · exact fun e => absurd e hk
  · split
    · split
      · exact ans_nn _
      · exact fun e => absurd e hk
    · by_cases h : a.kind = 1 ∧ b.kind = 1
      · rw [if_pos h]
        cases hr : recM k a.n b.n with
        | some r => exact fun _ => recM_pos (ha h.1) (hb h.2) hr
        | none => exact fun e => absurd e hk
      · rw [if_neg h]; exact fun e => absurd e hk
theorem fo_nn : ∀ (d : Nat) (t : Tr), checkM d t = 0 → Nn (foM d t)
  | 0, t, h => by cases h
  | d + 1, t, h => by
    have hs := shape h
    unfold foM
    rcases hs.kids with ⟨h4, hk⟩ | ⟨h5, x, hk, hx⟩ | ⟨h7, x, y, hk, hx, hy⟩
    · rw [hk]; exact fun _ => hs.num
    · rw [hk]; exact one_nn (by omega) (fo_nn d x hx)
    · rw [hk]; exact two_nn (by omega) (fo_nn d x hx) (fo_nn d y hy)
def Folds (d : Nat) : Prop := ∀ (P : Nat → Prop) (t : Tr) (v : Value) (w : World), checkM d t = 0 → Tre w P v t → Calls Try.prog 35 #[v] w (RPost w (foM d t))
theorem folds_zero : Folds 0 := fun P t v w h => by cases h
set_option maxRecDepth 100000 in
set_option maxHeartbeats 400000 in
theorem fold_leaf (tk tn : Int) (hk : InR tk) (hn : InR tn) (nm : Bs) (hnm : nm.length ≤ 32) (a : Option Addr) (cap : Nat) (w : World) : Calls Try.prog 35 #[.agg #[.int .i64 tk, .int .i64 tn, .string (ba nm), .slice a 0 cap]] w (RPost w ⟨tk, tn, nm, []⟩) := by
  have HC : Hid (∀ w, Calls Try.prog 45 #[.agg #[.int .i64 tk, .int .i64 tn, .string (ba nm), .slice a 0 cap]] w fun e w' => e = .returned (.agg #[.int .i64 tk, .int .i64 tn, .string (ba nm), .slice none 0 0]) ∧ Below w.heap.size w w') := fun w => leaf_any _ _ _ (by rw [ba_size]; omega) a 0 cap w
  have HT : Hid (∀ w P, Tre w P (.agg #[.int .i64 tk, .int .i64 tn, .string (ba nm), .slice none 0 0]) ⟨tk, tn, nm, []⟩) := fun w P => Tre.leaf w P hk hn nm (by omega)
  generalize ba nm = snm at *
  go_enter Try.func35, Try.ntmps35
  go_wp2_with (go_at_call 45; refine (HC.out _).mono ?_; rintro e w4 ⟨rfl, HB4⟩; obtain ⟨_, ⟨q0, q1, q2, q3, q4⟩, hb5⟩ := two_next HB4; have HB5 : Hid (Below w.heap.size w w4) := hb5; clear HB4 hb5)
  refine bodyPost_ret (v := .agg #[.int .i64 tk, .int .i64 tn, .string snm, .slice none 0 0]) (by simp [results, Try.results35, go_sem, q0, q1, q2, q3]) rfl ⟨_, _, _, _, _, _, rfl, HT.out _ _, below_four HB5.out (M := w.heap.size + 1) (o := 0) (Nat.le_succ _)⟩
set_option maxRecDepth 100000 in
set_option maxHeartbeats 1000000 in
theorem fold_one (d : Nat) (ih : Folds d) (P : Nat → Prop) (tk tn : Int) (HKi : Hid (InR tk)) (snm : ByteArray) (x : Tr) (hx : checkM d x = 0) (a : Option Addr) (cap : Nat) (hcap : 1 ≤ cap) (w : World) (hK : ∃ b o ka kc, KidAt w P a 0 x b o ka kc) : Calls Try.prog 35 #[.agg #[.int .i64 tk, .int .i64 tn, .string snm, .slice a 1 cap]] w (RPost w (oneM tk (foM d x))) := by
  obtain ⟨b, o, ka, kc, hKA⟩ := hK
  have hz : o + 0 * 4 = o := by omega
  have HKA : Hid (KidAt w P a 0 x b o ka kc) := hKA
  obtain ⟨rfl, k0, k1, k2, k3, hkt⟩ := hKA
  rw [hz] at k0 k1 k2 k3
  have HI : Hid (∀ w, Tre w P (.agg #[.int .i64 x.kind, .int .i64 x.n, .string (ba x.name), .slice ka x.kids.length kc]) x → Calls Try.prog 35 #[.agg #[.int .i64 x.kind, .int .i64 x.n, .string (ba x.name), .slice ka x.kids.length kc]] w (RPost w (foM d x))) := fun w h => ih P x _ w hx h
  have HT : Hid (Tre w P (.agg #[.int .i64 x.kind, .int .i64 x.n, .string (ba x.name), .slice ka x.kids.length kc]) x) := hkt
  have HKc : Hid (w.cell? ⟨b, o, none⟩ = some (.int .i64 x.kind) ∧ w.cell? ⟨b, o + 1, none⟩ = some (.int .i64 x.n) ∧ w.cell? ⟨b, o + 2, none⟩ = some (.string (ba x.name)) ∧ w.cell? ⟨b, o + 3, none⟩ = some (.slice ka x.kids.length kc)) := ⟨k0, k1, k2, k3⟩
  clear hkt HKA hx ih
  generalize foM d x = fx at *
  generalize x.kind = xk at *
  generalize x.n = xn at *
  generalize ba x.name = xs at *
  generalize x.kids.length = xl at *
  have hbl : b < w.heap.size := World.block_lt_of_cell? w _ k0
  obtain ⟨w0, hw0⟩ : ∃ w0, w0 = (w.alloc (.cells #[.int .i64 tk, .int .i64 tn, .string snm, .slice (some ⟨b, o, none⟩) 1 cap] 24)).alloc (.cells #[.int .i64 0, .int .i64 0, .string ⟨#[]⟩, .slice none 0 0] 24) := ⟨_, rfl⟩
  have HX : Hid (∀ w', Below w0.heap.size w0 w' → Cell4 w' w.heap.size (.int .i64 tk) (.int .i64 tn) (.string snm) (.slice (some ⟨b, o, none⟩) 1 cap) ∧ Cell4 w' (w.heap.size + 1) (.int .i64 0) (.int .i64 0) (.string ⟨#[]⟩) (.slice none 0 0) ∧ Below w.heap.size w w' ∧ w'.cell? ⟨b, o, none⟩ = some (.int .i64 xk) ∧ w'.cell? ⟨b, o + 1, none⟩ = some (.int .i64 xn) ∧ w'.cell? ⟨b, o + 2, none⟩ = some (.string xs) ∧ w'.cell? ⟨b, o + 3, none⟩ = some (.slice ka xl kc)) := fun w' h => by
    rw [hw0] at h
    obtain ⟨h1, h2, h3⟩ := two_next h
    exact ⟨h1, h2, h3, (h3.cell (p := ⟨b, o, none⟩) hbl).trans HKc.out.1, (h3.cell (p := ⟨b, o + 1, none⟩) hbl).trans HKc.out.2.1, (h3.cell (p := ⟨b, o + 2, none⟩) hbl).trans HKc.out.2.2.1, (h3.cell (p := ⟨b, o + 3, none⟩) hbl).trans HKc.out.2.2.2⟩
  have HW0 : Hid (w0.heap.size = w.heap.size + 2) := by unfold Hid; rw [hw0, size_alloc, size_alloc]
  go_enter Try.func35, Try.ntmps35
  go_wp2_with fail
  rw [← hw0]
  clear hw0 k0 k1 k2 k3
  obtain ⟨⟨p0, p1, p2, p3, p4⟩, ⟨q0, q1, q2, q3, q4⟩, _, k0, k1, k2, k3⟩ := HX.out _ (Below.refl _ _)
  have HS : Hid (Below w0.heap.size w0 w0.drew) := Below.drew (Below.refl _ _)
  have n1 : w.heap.size + 1 ≠ w.heap.size := by omega
  have n2 : w.heap.size + 1 ≠ b := by omega
  go_region_held3 (fun w' => w'.cell? ⟨w.heap.size, 0, none⟩ = some (.int .i64 tk) ∧ w'.cell? ⟨w.heap.size, 3, none⟩ = some (.slice (some ⟨b, o, none⟩) 1 cap) ∧ w'.cell? ⟨b, o, none⟩ = some (.int .i64 xk) ∧ w'.cell? ⟨b, o + 1, none⟩ = some (.int .i64 xn) ∧ w'.cell? ⟨b, o + 2, none⟩ = some (.string xs) ∧ w'.cell? ⟨b, o + 3, none⟩ = some (.slice ka xl kc)) (go_keep) (first
    | (go_at_call 49; have := HS2; refine (one_any w0.heap.size tk HKi.out fx _ _ HS2.out.2 HS2.out.1.size).mono ?_; rintro e w5 ⟨rk, rn, rs, ra, rl, rc, rfl, hrt, HB⟩; have HS3 : Hid (Below w0.heap.size w0 w5 ∧ Tre w5 (fun g => w0.heap.size ≤ g) (.agg #[.int .i64 rk, .int .i64 rn, .string rs, .slice ra rl rc]) (oneM tk fx)) := ⟨HS2.out.1.trans (HB.mono HS2.out.1.size), hrt⟩; obtain ⟨⟨p0, p1, p2, p3, p4⟩, ⟨q0, q1, q2, q3, q4⟩, _, k0, k1, k2, k3⟩ := HX.out _ HS3.out.1; clear HB hrt HS2)
    | (go_at_call 35; refine (HI.out _ (HT.out.below ((HX.out _ HS.out).2.2.1))).mono ?_; rintro e w4 ⟨rk, rn, rs, ra, rl, rc, rfl, hrt, HB⟩; have HS2 : Hid (Below w0.heap.size w0 w4 ∧ Tre w4 (fun g => w0.heap.size ≤ g) (.agg #[.int .i64 rk, .int .i64 rn, .string rs, .slice ra rl rc]) fx) := ⟨HS.out.trans (HB.mono HS.out.size), hrt⟩; obtain ⟨⟨p0, p1, p2, p3, p4⟩, ⟨q0, q1, q2, q3, q4⟩, _, k0, k1, k2, k3⟩ := HX.out _ HS2.out.1; clear HB hrt))
  all_goals go_wp2
  all_goals (
    refine bodyPost_ret (v := .agg #[.int .i64 rk, .int .i64 rn, .string rs, .slice ra rl rc]) (by simp [results, Try.results35, go_sem, q0, q1, q2, q3]) rfl ⟨_, _, _, _, _, _, rfl, ?_, below_four (HX.out _ HS3.out.1).2.2.1 (M := w.heap.size + 1) (o := 0) (Nat.le_succ _)⟩
    have hw2 := HW0.out
    exact HS3.out.2.kept fun g hg _ => ⟨four_other (M := w.heap.size + 1) (o := 0) (by omega), by omega⟩)
set_option maxRecDepth 100000 in
set_option maxHeartbeats 2000000 in
theorem fold_two (base : Nat) (tk tn : Int) (HKi : Hid (InR tk)) (snm : ByteArray) (fx fy : Tr) (HNx : Hid (Nn fx)) (HNy : Hid (Nn fy)) (b o cap : Nat) (hcap : 2 ≤ cap) (w : World) (xk xn yk yn : Int) (xs ys : ByteArray) (xa ya : Option Addr) (xl xc yl yc : Nat)
    (HKc : Hid ((w.cell? ⟨b, o, none⟩ = some (.int .i64 xk) ∧ w.cell? ⟨b, o + 1, none⟩ = some (.int .i64 xn) ∧ w.cell? ⟨b, o + 2, none⟩ = some (.string xs) ∧ w.cell? ⟨b, o + 3, none⟩ = some (.slice xa xl xc)) ∧ (w.cell? ⟨b, o + 4, none⟩ = some (.int .i64 yk) ∧ w.cell? ⟨b, o + 4 + 1, none⟩ = some (.int .i64 yn) ∧ w.cell? ⟨b, o + 4 + 2, none⟩ = some (.string ys) ∧ w.cell? ⟨b, o + 4 + 3, none⟩ = some (.slice ya yl yc))))
    (HG : Hid (∀ v t w', (v = .agg #[.int .i64 xk, .int .i64 xn, .string xs, .slice xa xl xc] ∧ t = fx) ∨ (v = .agg #[.int .i64 yk, .int .i64 yn, .string ys, .slice ya yl yc] ∧ t = fy) → Below w.heap.size w w' → Calls Try.prog 35 #[v] w' (RPost w' t))) :
    Calls Try.prog 35 #[.agg #[.int .i64 tk, .int .i64 tn, .string snm, .slice (some ⟨b, o, none⟩) 2 cap]] w (RPost w (twoM tk fx fy)) := by
  have hbl : b < w.heap.size := World.block_lt_of_cell? w _ HKc.out.1.1
  obtain ⟨w0, hw0⟩ : ∃ w0, w0 = (w.alloc (.cells #[.int .i64 tk, .int .i64 tn, .string snm, .slice (some ⟨b, o, none⟩) 2 cap] 24)).alloc (.cells #[.int .i64 0, .int .i64 0, .string ⟨#[]⟩, .slice none 0 0] 24) := ⟨_, rfl⟩
  have HX : Hid (∀ w', Below w0.heap.size w0 w' → Cell4 w' w.heap.size (.int .i64 tk) (.int .i64 tn) (.string snm) (.slice (some ⟨b, o, none⟩) 2 cap) ∧ Cell4 w' (w.heap.size + 1) (.int .i64 0) (.int .i64 0) (.string ⟨#[]⟩) (.slice none 0 0) ∧ Below w.heap.size w w' ∧ (w'.cell? ⟨b, o, none⟩ = some (.int .i64 xk) ∧ w'.cell? ⟨b, o + 1, none⟩ = some (.int .i64 xn) ∧ w'.cell? ⟨b, o + 2, none⟩ = some (.string xs) ∧ w'.cell? ⟨b, o + 3, none⟩ = some (.slice xa xl xc)) ∧ (w'.cell? ⟨b, o + 4, none⟩ = some (.int .i64 yk) ∧ w'.cell? ⟨b, o + 4 + 1, none⟩ = some (.int .i64 yn) ∧ w'.cell? ⟨b, o + 4 + 2, none⟩ = some (.string ys) ∧ w'.cell? ⟨b, o + 4 + 3, none⟩ = some (.slice ya yl yc))) := fun w' h => by
    rw [hw0] at h
    obtain ⟨h1, h2, h3⟩ := two_next h
    have hc : ∀ j v, w.cell? ⟨b, j, none⟩ = some v → w'.cell? ⟨b, j, none⟩ = some v := fun j v hv => (h3.cell (p := ⟨b, j, none⟩) hbl).trans hv
    obtain ⟨⟨c0, c1, c2, c3⟩, c4, c5, c6, c7⟩ := HKc.out
    exact ⟨h1, h2, h3, ⟨hc _ _ c0, hc _ _ c1, hc _ _ c2, hc _ _ c3⟩, hc _ _ c4, hc _ _ c5, hc _ _ c6, hc _ _ c7⟩
  have HW0 : Hid (w0.heap.size = w.heap.size + 2) := by unfold Hid; rw [hw0, size_alloc, size_alloc]
  go_enter Try.func35, Try.ntmps35
  go_wp2_with fail
  rw [← hw0]
  clear hw0
  obtain ⟨⟨p0, p1, p2, p3, p4⟩, ⟨q0, q1, q2, q3, q4⟩, _, ⟨k0, k1, k2, k3⟩, k4, k5, k6, k7⟩ := HX.out _ (Below.refl _ _)
  have HS : Hid (Below w0.heap.size w0 w0.drew) := Below.drew (Below.refl _ _)
  have n1 : w.heap.size + 1 ≠ w.heap.size := by omega
  have n2 : w.heap.size + 1 ≠ b := by omega
  go_region_held3 (fun w' => w'.cell? ⟨w.heap.size, 0, none⟩ = some (.int .i64 tk) ∧ w'.cell? ⟨w.heap.size, 3, none⟩ = some (.slice (some ⟨b, o, none⟩) 2 cap) ∧ w'.cell? ⟨b, o, none⟩ = some (.int .i64 xk) ∧ w'.cell? ⟨b, o + 1, none⟩ = some (.int .i64 xn) ∧ w'.cell? ⟨b, o + 2, none⟩ = some (.string xs) ∧ w'.cell? ⟨b, o + 3, none⟩ = some (.slice xa xl xc) ∧ w'.cell? ⟨b, o + 4, none⟩ = some (.int .i64 yk) ∧ w'.cell? ⟨b, o + 4 + 1, none⟩ = some (.int .i64 yn) ∧ w'.cell? ⟨b, o + 4 + 2, none⟩ = some (.string ys) ∧ w'.cell? ⟨b, o + 4 + 3, none⟩ = some (.slice ya yl yc)) (go_keep) (first
    | (go_at_call 50; have := HS3; refine (two_any w0.heap.size tk HKi.out fx fy _ _ _ HS3.out.2.1 HS3.out.2.2 HNx.out HNy.out HS3.out.1.size).mono ?_; rintro e w6 ⟨rk, rn, rs, ra, rl, rc, rfl, hrt, HB⟩; have HS4 : Hid (Below w0.heap.size w0 w6 ∧ Tre w6 (fun g => w0.heap.size ≤ g) (.agg #[.int .i64 rk, .int .i64 rn, .string rs, .slice ra rl rc]) (twoM tk fx fy)) := ⟨HS3.out.1.trans (HB.mono HS3.out.1.size), hrt⟩; obtain ⟨⟨p0, p1, p2, p3, p4⟩, ⟨q0, q1, q2, q3, q4⟩, _, ⟨k0, k1, k2, k3⟩, k4, k5, k6, k7⟩ := HX.out _ HS4.out.1; clear HB hrt HS3)
    | (go_at_call 35; have := HSx; refine (HG.out _ _ _ (by exact .inr ⟨rfl, rfl⟩) (HX.out _ HSx.out.1).2.2.1).mono ?_; rintro e w5 ⟨ek, en, es, ea, el, ec, rfl, hrt, HB⟩; have HS3 : Hid (Below w0.heap.size w0 w5 ∧ Tre w5 (fun g => w0.heap.size ≤ g) (.agg #[.int .i64 dk, .int .i64 dn, .string ds, .slice da dl dc]) fx ∧ Tre w5 (fun g => w0.heap.size ≤ g) (.agg #[.int .i64 ek, .int .i64 en, .string es, .slice ea el ec]) fy) := ⟨HSx.out.1.trans (HB.mono HSx.out.1.size), HSx.out.2.below HB, hrt.sub fun g hg => Nat.le_trans HSx.out.1.size hg⟩; obtain ⟨⟨p0, p1, p2, p3, p4⟩, ⟨q0, q1, q2, q3, q4⟩, _, ⟨k0, k1, k2, k3⟩, k4, k5, k6, k7⟩ := HX.out _ HS3.out.1; clear HB hrt HSx)
    | (go_at_call 35; have := HSy; refine (HG.out _ _ _ (by exact .inl ⟨rfl, rfl⟩) (HX.out _ HSy.out.1).2.2.1).mono ?_; rintro e w5 ⟨dk, dn, ds, da, dl, dc, rfl, hrt, HB⟩; have HS3 : Hid (Below w0.heap.size w0 w5 ∧ Tre w5 (fun g => w0.heap.size ≤ g) (.agg #[.int .i64 dk, .int .i64 dn, .string ds, .slice da dl dc]) fx ∧ Tre w5 (fun g => w0.heap.size ≤ g) (.agg #[.int .i64 ek, .int .i64 en, .string es, .slice ea el ec]) fy) := ⟨HSy.out.1.trans (HB.mono HSy.out.1.size), hrt.sub fun g hg => Nat.le_trans HSy.out.1.size hg, HSy.out.2.below HB⟩; obtain ⟨⟨p0, p1, p2, p3, p4⟩, ⟨q0, q1, q2, q3, q4⟩, _, ⟨k0, k1, k2, k3⟩, k4, k5, k6, k7⟩ := HX.out _ HS3.out.1; clear HB hrt HSy)
    | (go_at_call 35; refine (HG.out _ _ _ (by exact .inl ⟨rfl, rfl⟩) (HX.out _ HS.out).2.2.1).mono ?_; rintro e w4 ⟨dk, dn, ds, da, dl, dc, rfl, hrt, HB⟩; have HSx : Hid (Below w0.heap.size w0 w4 ∧ Tre w4 (fun g => w0.heap.size ≤ g) (.agg #[.int .i64 dk, .int .i64 dn, .string ds, .slice da dl dc]) fx) := ⟨HS.out.trans (HB.mono HS.out.size), hrt⟩; obtain ⟨⟨p0, p1, p2, p3, p4⟩, ⟨q0, q1, q2, q3, q4⟩, _, ⟨k0, k1, k2, k3⟩, k4, k5, k6, k7⟩ := HX.out _ HSx.out.1; clear HB hrt)
    | (go_at_call 35; refine (HG.out _ _ _ (by exact .inr ⟨rfl, rfl⟩) (HX.out _ HS.out).2.2.1).mono ?_; rintro e w4 ⟨ek, en, es, ea, el, ec, rfl, hrt, HB⟩; have HSy : Hid (Below w0.heap.size w0 w4 ∧ Tre w4 (fun g => w0.heap.size ≤ g) (.agg #[.int .i64 ek, .int .i64 en, .string es, .slice ea el ec]) fy) := ⟨HS.out.trans (HB.mono HS.out.size), hrt⟩; obtain ⟨⟨p0, p1, p2, p3, p4⟩, ⟨q0, q1, q2, q3, q4⟩, _, ⟨k0, k1, k2, k3⟩, k4, k5, k6, k7⟩ := HX.out _ HSy.out.1; clear HB hrt))
  all_goals go_wp2
  all_goals (
    refine bodyPost_ret (v := .agg #[.int .i64 rk, .int .i64 rn, .string rs, .slice ra rl rc]) (by simp [results, Try.results35, go_sem, q0, q1, q2, q3]) rfl ⟨_, _, _, _, _, _, rfl, ?_, below_four (HX.out _ HS4.out.1).2.2.1 (M := w.heap.size + 1) (o := 0) (Nat.le_succ _)⟩
    have hw2 := HW0.out
    exact HS4.out.2.kept fun g hg _ => ⟨four_other (M := w.heap.size + 1) (o := 0) (by omega), by omega⟩)
theorem folds_succ (d : Nat) (ih : Folds d) : Folds (d + 1) := by
  intro P t v w hck hT
  obtain ⟨a, cap, rfl, hcap, hk, hn, hnm, hlen, hkids⟩ := hT.opened
  have hs := shape hck
  rcases hs.kids with ⟨h4, hk0⟩ | ⟨h5, x, hk0, hx⟩ | ⟨h7, x, y, hk0, hx, hy⟩
  · have he : foM (d + 1) t = ⟨t.kind, t.n, t.name, []⟩ := by unfold foM; rw [hk0]
    rw [he, hk0]
    exact fold_leaf t.kind t.n hk hn t.name (name_short hck) a cap w
  · have he : foM (d + 1) t = oneM t.kind (foM d x) := by
      conv => lhs; unfold foM
      rw [hk0]
    rw [he]
    have hK := hkids 0 (by rw [hk0]; simp)
    rw [hk0] at hK hcap ⊢
    exact fold_one d ih P t.kind t.n hk (ba t.name) x hx a cap hcap w hK
  · have he : foM (d + 1) t = twoM t.kind (foM d x) (foM d y) := by
      conv => lhs; unfold foM
      rw [hk0]
    rw [he]
    obtain ⟨b, o, ka, kc, hK⟩ := hkids 0 (by rw [hk0]; simp)
    obtain ⟨b2, o2, ka2, kc2, hK2⟩ := hkids 1 (by rw [hk0]; simp)
    rw [hk0] at hK hK2 hcap ⊢
    have e := hK2.ad
    rw [hK.ad] at e
    simp only [Option.some.injEq, Addr.mk.injEq, and_true] at e
    obtain ⟨rfl, rfl⟩ := e
    obtain ⟨rfl, c0, c1, c2, c3, ht⟩ := hK
    obtain ⟨_, c4, c5, c6, c7, ht2⟩ := hK2
    have e0 : o + 0 * 4 = o := by omega
    have e1 : o + 1 * 4 = o + 4 := by omega
    rw [e0] at c0 c1 c2 c3
    rw [e1] at c4 c5 c6 c7
    refine fold_two 0 t.kind t.n hk (ba t.name) (foM d x) (foM d y) (fo_nn d x hx) (fo_nn d y hy) b o cap hcap w _ _ _ _ _ _ _ _ _ _ _ _ ⟨⟨c0, c1, c2, c3⟩, c4, c5, c6, c7⟩ ?_
    rintro v t' w' (⟨rfl, rfl⟩ | ⟨rfl, rfl⟩) hb
    · exact ih P x _ w' hx (ht.below hb)
    · exact ih P y _ w' hy (ht2.below hb)
theorem folds_any : ∀ d, Folds d
  | 0 => folds_zero
  | d + 1 => folds_succ d (folds_any d)
end
section
open Go.RowKit
set_option linter.unusedVariables false

def foldM (t : Tr) : Tr × Nat := if (truthM t).2 ≠ 0 then (zeroT, (truthM t).2) else (foM 16 t, 0)
theorem truth_check {t : Tr} (h : (truthM t).2 = 0) : checkM 16 t = 0 := by
  unfold truthM at h
  split at h
  · exact h
  · omega
set_option maxRecDepth 100000 in
set_option maxHeartbeats 1000000 in
theorem Fold_any (P : Nat → Prop) (t : Tr) (k n : Int) (s : ByteArray) (a : Option Addr) (l c : Nat) (w : World) (hT : Tre w P (.agg #[.int .i64 k, .int .i64 n, .string s, .slice a l c]) t) :
    Calls Try.prog 17 #[.agg #[.int .i64 k, .int .i64 n, .string s, .slice a l c]] w (NPost w (foldM t).1 (foldM t).2) := by
  have HC : Hid (∀ w, Tre w P (.agg #[.int .i64 k, .int .i64 n, .string s, .slice a l c]) t → Calls Try.prog 9 #[.agg #[.int .i64 k, .int .i64 n, .string s, .slice a l c]] w fun e w' => e = .returned (.tuple #[.bool (truthM t).1, .int .i64 (truthM t).2]) ∧ Below w.heap.size w w') := fun w h => Truth_any P t k n s a l c w h
  have HT : Hid (Tre w P (.agg #[.int .i64 k, .int .i64 n, .string s, .slice a l c]) t) := hT
  clear hT
  by_cases h0 : (truthM t).2 = 0
  · have he : foldM t = (foM 16 t, 0) := by unfold foldM; rw [if_neg (by omega)]
    have HR : Hid (∀ w, Tre w P (.agg #[.int .i64 k, .int .i64 n, .string s, .slice a l c]) t → Calls Try.prog 35 #[.agg #[.int .i64 k, .int .i64 n, .string s, .slice a l c]] w (RPost w (foM 16 t))) := fun w h => folds_any 16 P t _ w (truth_check h0) h
    rw [he]
    rw [h0] at HC
    generalize foM 16 t = rt at *
    generalize (truthM t).1 = tb at *
    go_enter Try.func17, Try.ntmps17
    go_wp2_with (first
      | (go_at_call 35; have := HB1; refine (HR.out _ ((HT.out.below HB1.out.2.2))).mono ?_; rintro e w3 ⟨rk, rn, rs, ra, rl, rc, rfl, hrt, HB⟩; obtain ⟨q0, q1, q2, q3, q4⟩ := HB1.out.2.1.below HB; have HB3 : Hid (Tre w3 (fun g => w.heap.size + 2 ≤ g) (.agg #[.int .i64 rk, .int .i64 rn, .string rs, .slice ra rl rc]) rt ∧ Below w.heap.size w w3) := ⟨hrt.sub fun g hg => (by have := HB1.out.2.1.lt; omega), HB1.out.2.2.trans (HB.mono HB1.out.2.2.size)⟩; clear HB hrt)
      | (go_at_call 9; refine (HC.out _ ((HT.out.alloc _).alloc _)).mono ?_; rintro e w1 ⟨rfl, HB⟩; have HB1 : Hid (Cell4 w1 w.heap.size (.int .i64 k) (.int .i64 n) (.string s) (.slice a l c) ∧ Cell4 w1 (w.heap.size + 1) (.int .i64 0) (.int .i64 0) (.string ⟨#[]⟩) (.slice none 0 0) ∧ Below w.heap.size w w1) := two_next HB; obtain ⟨p0, p1, p2, p3, p4⟩ := HB1.out.1; have hlp := World.block_lt_of_cell? _ _ p0; clear HB))
    refine bodyPost_ret (v := .tuple #[.agg #[.int .i64 rk, .int .i64 rn, .string rs, .slice ra rl rc], .int .i64 0]) (by simp [results, Try.results17, go_sem, q0, q1, q2, q3]) rfl ⟨_, _, _, _, _, _, rfl, ?_, below_four HB3.out.2 (M := w.heap.size + 1) (o := 0) (Nat.le_succ _)⟩
    exact HB3.out.1.kept fun g hg _ => ⟨four_other (M := w.heap.size + 1) (o := 0) (by omega), by omega⟩
  · have he : foldM t = (zeroT, (truthM t).2) := by unfold foldM; rw [if_pos h0]
    rw [he]
    have h2 : (((truthM t).2 : Int) != 0) = true := by simp; omega
    generalize (truthM t).2 = ck at *
    generalize (truthM t).1 = tb at *
    go_enter Try.func17, Try.ntmps17
    go_wp2_with (go_at_call 9; refine (HC.out _ ((HT.out.alloc _).alloc _)).mono ?_; rintro e w1 ⟨rfl, HB⟩; obtain ⟨_, ⟨q0, q1, q2, q3, q4⟩, hb⟩ := two_next HB; have HB2 : Hid (Below w.heap.size w w1) := hb; clear HB hb)
    refine bodyPost_ret (v := .tuple #[.agg #[.int .i64 0, .int .i64 0, .string ⟨#[]⟩, .slice none 0 0], .int .i64 ck]) (by simp [results, Try.results17, go_sem, q0, q1, q2, q3]) rfl ⟨_, _, _, _, _, _, rfl, zero_tre _ _, below_four HB2.out (M := w.heap.size + 1) (o := 0) (Nat.le_succ _)⟩
end
end Go.Proofs.Ytdnpbnhfakjhoaa
