/-
  wordAt: contracts.
-/
import Derived.Test.YtlfeejjlcclbdaaGreatDoorText
namespace Go.Proofs.YtlfeejjlcclbdaaGreatDoor
open Go.RowKit
set_option linter.unusedVariables false


/-- The three blocks of a call of wordAt, behind a callee. -/
structure Three (w w1 : World) (a b c d : Value) : Prop where
  c0 : w1.cell? ⟨w.heap.size, 0, none⟩ = some (.int .i64 0)
  c1 : w1.cell? ⟨w.heap.size, 1, none⟩ = some (.string ⟨#[]⟩)
  c2 : w1.cell? ⟨w.heap.size, 2, none⟩ = some (.int .i64 0)
  c3 : w1.cell? ⟨w.heap.size, 3, none⟩ = some (.int .i64 0)
  d0 : w1.cell? ⟨w.heap.size + 1, 0, none⟩ = some (.int .i64 0)
  d1 : w1.cell? ⟨w.heap.size + 1, 1, none⟩ = some (.int .i64 0)
  e0 : w1.cell? ⟨w.heap.size + 1 + 1, 0, none⟩ = some a
  e1 : w1.cell? ⟨w.heap.size + 1 + 1, 1, none⟩ = some b
  e2 : w1.cell? ⟨w.heap.size + 1 + 1, 2, none⟩ = some c
  e3 : w1.cell? ⟨w.heap.size + 1 + 1, 3, none⟩ = some d
  fr : ∀ i, w1.frozen? ⟨w.heap.size, i, none⟩ = false
  fs : ∀ i, w1.frozen? ⟨w.heap.size + 1, i, none⟩ = false
  ft : ∀ i, w1.frozen? ⟨w.heap.size + 1 + 1, i, none⟩ = false
  bel : Below w.heap.size w w1
theorem three_of (w w1 : World) (a b c d : Value) (HB : Below (((w.alloc (.cells #[.int .i64 0, .string ⟨#[]⟩, .int .i64 0, .int .i64 0] 57)).alloc (.cells #[.int .i64 0, .int .i64 0] 33)).alloc (.cells #[a, b, c, d] 57)).heap.size (((w.alloc (.cells #[.int .i64 0, .string ⟨#[]⟩, .int .i64 0, .int .i64 0] 57)).alloc (.cells #[.int .i64 0, .int .i64 0] 33)).alloc (.cells #[a, b, c, d] 57)) w1) : Three w w1 a b c d := by
  have s1 := size_alloc w (.cells #[.int .i64 0, .string ⟨#[]⟩, .int .i64 0, .int .i64 0] 57)
  generalize hw1 : w.alloc (.cells #[.int .i64 0, .string ⟨#[]⟩, .int .i64 0, .int .i64 0] 57) = u1 at *
  have s2 := size_alloc u1 (.cells #[.int .i64 0, .int .i64 0] 33)
  generalize hw2 : u1.alloc (.cells #[.int .i64 0, .int .i64 0] 33) = u2 at *
  have s3 := size_alloc u2 (.cells #[a, b, c, d] 57)
  generalize hw3 : u2.alloc (.cells #[a, b, c, d] 57) = u3 at *
  have k1 : w1.heap[w.heap.size]? = some (.cells #[.int .i64 0, .string ⟨#[]⟩, .int .i64 0, .int .i64 0] 57 (0, 0)) := by
    rw [HB.block _ (by omega), ← hw3, heap_alloc_old _ _ (by omega), ← hw2, heap_alloc_old _ _ (by omega), ← hw1, heap_alloc_new]
  have k2 : w1.heap[w.heap.size + 1]? = some (.cells #[.int .i64 0, .int .i64 0] 33 (0, 0)) := by
    rw [HB.block _ (by omega), ← hw3, heap_alloc_old _ _ (by omega), ← hw2, ← s1, heap_alloc_new]
  have k3 : w1.heap[w.heap.size + 1 + 1]? = some (.cells #[a, b, c, d] 57 (0, 0)) := by
    rw [HB.block _ (by omega), ← hw3, ← s1, ← s2, heap_alloc_new]
  refine ⟨?_, ?_, ?_, ?_, ?_, ?_, ?_, ?_, ?_, ?_, ?_, ?_, ?_, ?_⟩
  · rw [cell_of_row w1 _ 0 _ 57 (0, 0) k1]; rfl
  · rw [cell_of_row w1 _ 1 _ 57 (0, 0) k1]; rfl
  · rw [cell_of_row w1 _ 2 _ 57 (0, 0) k1]; rfl
  · rw [cell_of_row w1 _ 3 _ 57 (0, 0) k1]; rfl
  · rw [cell_of_row w1 _ 0 _ 33 (0, 0) k2]; rfl
  · rw [cell_of_row w1 _ 1 _ 33 (0, 0) k2]; rfl
  · rw [cell_of_row w1 _ 0 _ 57 (0, 0) k3]; rfl
  · rw [cell_of_row w1 _ 1 _ 57 (0, 0) k3]; rfl
  · rw [cell_of_row w1 _ 2 _ 57 (0, 0) k3]; rfl
  · rw [cell_of_row w1 _ 3 _ 57 (0, 0) k3]; rfl
  · intro i; simp [World.frozen?, k1]
  · intro i; simp [World.frozen?, k2]
  · intro i; simp [World.frozen?, k3]
  · have h1 : Below w.heap.size w u1 := by rw [← hw1]; exact (Below.refl _ _).alloc (Nat.le_refl _) _
    have h2 : Below w.heap.size w u2 := by rw [← hw2]; exact h1.alloc (by omega) _
    have h3 : Below w.heap.size w u3 := by rw [← hw3]; exact h2.alloc (by omega) _
    exact h3.trans (HB.mono (by omega))
theorem Three.below {w w1 w2 : World} {a b c d : Value} (h : Three w w1 a b c d) (HB : Below w1.heap.size w1 w2) : Three w w2 a b c d := by
  have l0 : w.heap.size < w1.heap.size := World.block_lt_of_cell? w1 _ h.c0
  have l1 : w.heap.size + 1 < w1.heap.size := World.block_lt_of_cell? w1 _ h.d0
  have l2 : w.heap.size + 1 + 1 < w1.heap.size := World.block_lt_of_cell? w1 _ h.e0
  exact ⟨(HB.cell (p := ⟨w.heap.size, 0, none⟩) l0).trans h.c0, (HB.cell (p := ⟨w.heap.size, 1, none⟩) l0).trans h.c1, (HB.cell (p := ⟨w.heap.size, 2, none⟩) l0).trans h.c2, (HB.cell (p := ⟨w.heap.size, 3, none⟩) l0).trans h.c3,
    (HB.cell (p := ⟨w.heap.size + 1, 0, none⟩) l1).trans h.d0, (HB.cell (p := ⟨w.heap.size + 1, 1, none⟩) l1).trans h.d1,
    (HB.cell (p := ⟨w.heap.size + 1 + 1, 0, none⟩) l2).trans h.e0, (HB.cell (p := ⟨w.heap.size + 1 + 1, 1, none⟩) l2).trans h.e1, (HB.cell (p := ⟨w.heap.size + 1 + 1, 2, none⟩) l2).trans h.e2, (HB.cell (p := ⟨w.heap.size + 1 + 1, 3, none⟩) l2).trans h.e3,
    fun i => (HB.frozen (p := ⟨w.heap.size, i, none⟩) l0).trans (h.fr i), fun i => (HB.frozen (p := ⟨w.heap.size + 1, i, none⟩) l1).trans (h.fs i), fun i => (HB.frozen (p := ⟨w.heap.size + 1 + 1, i, none⟩) l2).trans (h.ft i), h.bel.trans (HB.mono (by omega))⟩
set_option maxRecDepth 100000 in
set_option maxHeartbeats 400000 in
theorem wa_num_end (s x : ByteArray) (p L v : Nat) (c : UInt8) (hlt : p < s.size) (hc : s[p]'hlt = c) (hx : x.size = L) (hs : s.size ≤ 4096) (hL : p + L = s.size) (hv : v < 9223372036854775808)
    (HK : Hid (∀ w, Calls Tryz.prog 46 #[.int .u8 c.toNat] w fun e w' => e = .returned (.int .i64 1) ∧ w' = w))
    (HT : Hid (∀ w, Calls Tryz.prog 47 #[.int .i64 1, .string (s.extract p s.size)] w fun e w' => e = .returned (.string x) ∧ w' = w))
    (HP : Hid (∀ w, Calls Tryz.prog 48 #[.string x, .int .i64 10, .int .i64 64] w fun e w' => e = .returned (.tuple #[.int .i64 v, .nilIface]) ∧ Below w.heap.size w w')) (w : World) :
    Calls Tryz.prog 35 #[.string s, .int .i64 p] w fun e w' => e = .returned (.tuple #[.agg #[.int .i64 1, .string ⟨#[]⟩, .int .i64 v, .int .i64 p], .int .i64 L, .agg #[.int .i64 0, .int .i64 0]]) ∧ Below w.heap.size w w' := by
  go_enter Tryz.func35, Tryz.ntmps35
  go_wp2_with (first
    | (go_at_call 48; refine (HP.out _).mono ?_; rintro e w1 ⟨rfl, HB⟩; have T := three_of w w1 _ _ _ _ HB; clear HB; obtain ⟨c0, c1, c2, c3, d0, d1, e0, e1, e2, e3, fr, fs, ft, bel⟩ := T)
    | (go_at_call 46; refine (HK.out _).mono ?_; rintro e w' ⟨rfl, rfl⟩)
    | (go_at_call 47; refine (HT.out _).mono ?_; rintro e w' ⟨rfl, rfl⟩))
  refine bodyPost_ret (v := .tuple #[.agg #[.int .i64 1, .string ⟨#[]⟩, .int .i64 v, .int .i64 p], .int .i64 L, .agg #[.int .i64 0, .int .i64 0]]) (by simp [results, Tryz.results35, go_sem, c0, c1, c2, c3, d0, d1]) rfl ⟨rfl, ?_⟩
  have h0 : w.heap.size ≤ w.heap.size := Nat.le_refl _
  have h1 : w.heap.size ≤ w.heap.size + 1 := Nat.le_succ _
  have h2 : w.heap.size ≤ w.heap.size + 1 + 1 := Nat.le_trans h1 (Nat.le_succ _)
  exact ((((((bel.setCell h2 _).setCell h0 _).setCell h0 _).setCell h0 _).setCell h0 _).setCell h1 _).setCell h1 _
set_option maxRecDepth 100000 in
set_option maxHeartbeats 400000 in
theorem wa_num_on (s x : ByteArray) (p L v : Nat) (c : UInt8) (hlt : p < s.size) (hc : s[p]'hlt = c) (hx : x.size = L) (hs : s.size ≤ 4096) (hL : p + L < s.size) (hv : v < 9223372036854775808)
    (HK : Hid (∀ w, Calls Tryz.prog 46 #[.int .u8 c.toNat] w fun e w' => e = .returned (.int .i64 1) ∧ w' = w))
    (HT : Hid (∀ w, Calls Tryz.prog 47 #[.int .i64 1, .string (s.extract p s.size)] w fun e w' => e = .returned (.string x) ∧ w' = w))
    (HP : Hid (∀ w, Calls Tryz.prog 48 #[.string x, .int .i64 10, .int .i64 64] w fun e w' => e = .returned (.tuple #[.int .i64 v, .nilIface]) ∧ Below w.heap.size w w'))
    (HI : Hid (∀ w, Calls Tryz.prog 50 #[.int .u8 (s[p + L]'hL).toNat] w fun e w' => e = .returned (.bool false) ∧ w' = w)) (w : World) :
    Calls Tryz.prog 35 #[.string s, .int .i64 p] w fun e w' => e = .returned (.tuple #[.agg #[.int .i64 1, .string ⟨#[]⟩, .int .i64 v, .int .i64 p], .int .i64 L, .agg #[.int .i64 0, .int .i64 0]]) ∧ Below w.heap.size w w' := by
  go_enter Tryz.func35, Tryz.ntmps35
  go_wp2_with (first
    | (go_at_call 50; refine (HI.out _).mono ?_; rintro e w' ⟨rfl, hw'⟩; have h2 := hw'.symm; subst h2)
    | (go_at_call 48; refine (HP.out _).mono ?_; rintro e w1 ⟨rfl, HB⟩; have T := three_of w w1 _ _ _ _ HB; clear HB; obtain ⟨c0, c1, c2, c3, d0, d1, e0, e1, e2, e3, fr, fs, ft, bel⟩ := T)
    | (go_at_call 46; refine (HK.out _).mono ?_; rintro e w' ⟨rfl, rfl⟩)
    | (go_at_call 47; refine (HT.out _).mono ?_; rintro e w' ⟨rfl, rfl⟩))
  refine bodyPost_ret (v := .tuple #[.agg #[.int .i64 1, .string ⟨#[]⟩, .int .i64 v, .int .i64 p], .int .i64 L, .agg #[.int .i64 0, .int .i64 0]]) (by simp [results, Tryz.results35, go_sem, c0, c1, c2, c3, d0, d1]) rfl ⟨rfl, ?_⟩
  have h0 : w.heap.size ≤ w.heap.size := Nat.le_refl _
  have h1 : w.heap.size ≤ w.heap.size + 1 := Nat.le_succ _
  have h2 : w.heap.size ≤ w.heap.size + 1 + 1 := Nat.le_trans h1 (Nat.le_succ _)
  exact ((((((bel.setCell h2 _).setCell h0 _).setCell h0 _).setCell h0 _).setCell h0 _).setCell h1 _).setCell h1 _
set_option maxRecDepth 100000 in
set_option maxHeartbeats 400000 in
theorem wa_num_letter (s x : ByteArray) (p L v : Nat) (c : UInt8) (hlt : p < s.size) (hc : s[p]'hlt = c) (hx : x.size = L) (hs : s.size ≤ 4096) (hL : p + L < s.size) (hv : v < 9223372036854775808)
    (HK : Hid (∀ w, Calls Tryz.prog 46 #[.int .u8 c.toNat] w fun e w' => e = .returned (.int .i64 1) ∧ w' = w))
    (HT : Hid (∀ w, Calls Tryz.prog 47 #[.int .i64 1, .string (s.extract p s.size)] w fun e w' => e = .returned (.string x) ∧ w' = w))
    (HP : Hid (∀ w, Calls Tryz.prog 48 #[.string x, .int .i64 10, .int .i64 64] w fun e w' => e = .returned (.tuple #[.int .i64 v, .nilIface]) ∧ Below w.heap.size w w'))
    (HI : Hid (∀ w, Calls Tryz.prog 50 #[.int .u8 (s[p + L]'hL).toNat] w fun e w' => e = .returned (.bool true) ∧ w' = w)) (w : World) :
    Calls Tryz.prog 35 #[.string s, .int .i64 p] w fun e w' => e = .returned (.tuple #[.agg #[.int .i64 0, .string ⟨#[]⟩, .int .i64 0, .int .i64 0], .int .i64 0, .agg #[.int .i64 3, .int .i64 (p + L : Int)]]) ∧ Below w.heap.size w w' := by
  go_enter Tryz.func35, Tryz.ntmps35
  go_wp2_with (first
    | (go_at_call 50; refine (HI.out _).mono ?_; rintro e w' ⟨rfl, hw'⟩; have h2 := hw'.symm; subst h2)
    | (go_at_call 49; refine (fault_any _ _ _).mono ?_; rintro e w2 ⟨rfl, HB⟩; have T2 := T.out.below HB; clear HB; obtain ⟨c0, c1, c2, c3, d0, d1, e0, e1, e2, e3, fr, fs, ft, bel⟩ := T2)
    | (go_at_call 48; refine (HP.out _).mono ?_; rintro e w1 ⟨rfl, HB⟩; have T : Hid (Three w w1 _ _ _ _) := three_of w w1 _ _ _ _ HB; clear HB)
    | (go_at_call 46; refine (HK.out _).mono ?_; rintro e w' ⟨rfl, rfl⟩)
    | (go_at_call 47; refine (HT.out _).mono ?_; rintro e w' ⟨rfl, rfl⟩))
  refine bodyPost_ret (v := .tuple #[.agg #[.int .i64 0, .string ⟨#[]⟩, .int .i64 0, .int .i64 0], .int .i64 0, .agg #[.int .i64 3, .int .i64 (p + L : Int)]]) (by simp [results, Tryz.results35, go_sem, c0, c1, c2, c3, d0, d1]) rfl ⟨rfl, ?_⟩
  have h0 : w.heap.size ≤ w.heap.size := Nat.le_refl _
  have h1 : w.heap.size ≤ w.heap.size + 1 := Nat.le_succ _
  have h2 : w.heap.size ≤ w.heap.size + 1 + 1 := Nat.le_trans h1 (Nat.le_succ _)
  exact (((((bel.setCell h0 _).setCell h0 _).setCell h0 _).setCell h0 _).setCell h1 _).setCell h1 _
set_option maxRecDepth 100000 in
set_option maxHeartbeats 400000 in
theorem wa_num_great (s x : ByteArray) (p L : Nat) (c : UInt8) (hlt : p < s.size) (hc : s[p]'hlt = c) (hx : x.size = L) (hs : s.size ≤ 4096)
    (HK : Hid (∀ w, Calls Tryz.prog 46 #[.int .u8 c.toNat] w fun e w' => e = .returned (.int .i64 1) ∧ w' = w))
    (HT : Hid (∀ w, Calls Tryz.prog 47 #[.int .i64 1, .string (s.extract p s.size)] w fun e w' => e = .returned (.string x) ∧ w' = w))
    (HP : Hid (∀ w, Held w → Calls Tryz.prog 48 #[.string x, .int .i64 10, .int .i64 64] w fun e w' => ∃ n N : Nat, e = .returned (.tuple #[.int .i64 n, .iface 105 (.pointer (some ⟨N, 0, none⟩))]) ∧ Below w.heap.size w w')) (w : World) (hw : Held w) :
    Calls Tryz.prog 35 #[.string s, .int .i64 p] w fun e w' => e = .returned (.tuple #[.agg #[.int .i64 0, .string ⟨#[]⟩, .int .i64 0, .int .i64 0], .int .i64 0, .agg #[.int .i64 13, .int .i64 p]]) ∧ Below w.heap.size w w' := by
  have HW : Hid (Held (((w.alloc (.cells #[.int .i64 0, .string ⟨#[]⟩, .int .i64 0, .int .i64 0] 57)).alloc (.cells #[.int .i64 0, .int .i64 0] 33)).alloc (.cells #[.int .i64 1, .string ⟨#[]⟩, .int .i64 0, .int .i64 p] 57))) := hw.below (Nat.le_refl _) ((((Below.refl _ _).alloc (Nat.le_refl _) _).alloc (le_alloc _ _) _).alloc (Nat.le_trans (le_alloc _ _) (le_alloc _ _)) _)
  clear hw
  go_enter Tryz.func35, Tryz.ntmps35
  go_wp2_with (first
    | (go_at_call 49; refine (fault_any _ _ _).mono ?_; rintro e w2 ⟨rfl, HB⟩; have T2 := T.out.below HB; clear HB; obtain ⟨c0, c1, c2, c3, d0, d1, e0, e1, e2, e3, fr, fs, ft, bel⟩ := T2)
    | (go_at_call 48; refine (HP.out _ HW.out).mono ?_; rintro e w1 ⟨n, N, rfl, HB⟩; have T : Hid (Three w w1 _ _ _ _) := three_of w w1 _ _ _ _ HB; clear HB)
    | (go_at_call 46; refine (HK.out _).mono ?_; rintro e w' ⟨rfl, rfl⟩)
    | (go_at_call 47; refine (HT.out _).mono ?_; rintro e w' ⟨rfl, rfl⟩))
  refine bodyPost_ret (v := .tuple #[.agg #[.int .i64 0, .string ⟨#[]⟩, .int .i64 0, .int .i64 0], .int .i64 0, .agg #[.int .i64 13, .int .i64 p]]) (by simp [results, Tryz.results35, go_sem, c0, c1, c2, c3, d0, d1]) rfl ⟨rfl, ?_⟩
  have h0 : w.heap.size ≤ w.heap.size := Nat.le_refl _
  have h1 : w.heap.size ≤ w.heap.size + 1 := Nat.le_succ _
  have h2 : w.heap.size ≤ w.heap.size + 1 + 1 := Nat.le_trans h1 (Nat.le_succ _)
  exact (((((bel.setCell h0 _).setCell h0 _).setCell h0 _).setCell h0 _).setCell h1 _).setCell h1 _
set_option maxRecDepth 100000 in
set_option maxHeartbeats 400000 in
theorem wa_name (s x : ByteArray) (p L : Nat) (c : UInt8) (hlt : p < s.size) (hc : s[p]'hlt = c) (hx : x.size = L) (hs : s.size ≤ 4096) (hL : L ≤ 32)
    (HK : Hid (∀ w, Calls Tryz.prog 46 #[.int .u8 c.toNat] w fun e w' => e = .returned (.int .i64 2) ∧ w' = w))
    (HT : Hid (∀ w, Calls Tryz.prog 47 #[.int .i64 2, .string (s.extract p s.size)] w fun e w' => e = .returned (.string x) ∧ w' = w))
    (HC : Hid (∀ w, Calls Tryz.prog 51 #[.string x] w fun e w' => e = .returned (.string x) ∧ Below w.heap.size w w')) (w : World) :
    Calls Tryz.prog 35 #[.string s, .int .i64 p] w fun e w' => e = .returned (.tuple #[.agg #[.int .i64 2, .string x, .int .i64 0, .int .i64 p], .int .i64 L, .agg #[.int .i64 0, .int .i64 0]]) ∧ Below w.heap.size w w' := by
  go_enter Tryz.func35, Tryz.ntmps35
  go_wp2_with (first
    | (go_at_call 51; refine (HC.out _).mono ?_; rintro e w1 ⟨rfl, HB⟩; have T := three_of w w1 _ _ _ _ HB; clear HB; obtain ⟨c0, c1, c2, c3, d0, d1, e0, e1, e2, e3, fr, fs, ft, bel⟩ := T)
    | (go_at_call 46; refine (HK.out _).mono ?_; rintro e w' ⟨rfl, rfl⟩)
    | (go_at_call 47; refine (HT.out _).mono ?_; rintro e w' ⟨rfl, rfl⟩))
  refine bodyPost_ret (v := .tuple #[.agg #[.int .i64 2, .string x, .int .i64 0, .int .i64 p], .int .i64 L, .agg #[.int .i64 0, .int .i64 0]]) (by simp [results, Tryz.results35, go_sem, c0, c1, c2, c3, d0, d1]) rfl ⟨rfl, ?_⟩
  have h0 : w.heap.size ≤ w.heap.size := Nat.le_refl _
  have h1 : w.heap.size ≤ w.heap.size + 1 := Nat.le_succ _
  have h2 : w.heap.size ≤ w.heap.size + 1 + 1 := Nat.le_trans h1 (Nat.le_succ _)
  exact ((((((bel.setCell h2 _).setCell h0 _).setCell h0 _).setCell h0 _).setCell h0 _).setCell h1 _).setCell h1 _
set_option maxRecDepth 100000 in
set_option maxHeartbeats 400000 in
theorem wa_name_long (s x : ByteArray) (p L : Nat) (c : UInt8) (hlt : p < s.size) (hc : s[p]'hlt = c) (hx : x.size = L) (hs : s.size ≤ 4096) (hL : 32 < L)
    (HK : Hid (∀ w, Calls Tryz.prog 46 #[.int .u8 c.toNat] w fun e w' => e = .returned (.int .i64 2) ∧ w' = w))
    (HT : Hid (∀ w, Calls Tryz.prog 47 #[.int .i64 2, .string (s.extract p s.size)] w fun e w' => e = .returned (.string x) ∧ w' = w)) (w : World) :
    Calls Tryz.prog 35 #[.string s, .int .i64 p] w fun e w' => e = .returned (.tuple #[.agg #[.int .i64 0, .string ⟨#[]⟩, .int .i64 0, .int .i64 0], .int .i64 0, .agg #[.int .i64 3, .int .i64 p]]) ∧ Below w.heap.size w w' := by
  go_enter Tryz.func35, Tryz.ntmps35
  go_wp2_with (first
    | (go_at_call 49; refine (fault_any _ _ _).mono ?_; rintro e w1 ⟨rfl, HB⟩; have T := three_of w w1 _ _ _ _ HB; clear HB; obtain ⟨c0, c1, c2, c3, d0, d1, e0, e1, e2, e3, fr, fs, ft, bel⟩ := T)
    | (go_at_call 46; refine (HK.out _).mono ?_; rintro e w' ⟨rfl, rfl⟩)
    | (go_at_call 47; refine (HT.out _).mono ?_; rintro e w' ⟨rfl, rfl⟩))
  refine bodyPost_ret (v := .tuple #[.agg #[.int .i64 0, .string ⟨#[]⟩, .int .i64 0, .int .i64 0], .int .i64 0, .agg #[.int .i64 3, .int .i64 p]]) (by simp [results, Tryz.results35, go_sem, c0, c1, c2, c3, d0, d1]) rfl ⟨rfl, ?_⟩
  have h0 : w.heap.size ≤ w.heap.size := Nat.le_refl _
  have h1 : w.heap.size ≤ w.heap.size + 1 := Nat.le_succ _
  have h2 : w.heap.size ≤ w.heap.size + 1 + 1 := Nat.le_trans h1 (Nat.le_succ _)
  exact (((((bel.setCell h0 _).setCell h0 _).setCell h0 _).setCell h0 _).setCell h1 _).setCell h1 _
set_option maxRecDepth 100000 in
set_option maxHeartbeats 400000 in
theorem wa_sign (s x : ByteArray) (p L : Nat) (c : UInt8) (hlt : p < s.size) (hc : s[p]'hlt = c) (hx : x.size = L) (hs : s.size ≤ 4096)
    (HK : Hid (∀ w, Calls Tryz.prog 46 #[.int .u8 c.toNat] w fun e w' => e = .returned (.int .i64 3) ∧ w' = w))
    (HT : Hid (∀ w, Calls Tryz.prog 47 #[.int .i64 3, .string (s.extract p s.size)] w fun e w' => e = .returned (.string x) ∧ w' = w))
    (HC : Hid (∀ w, Calls Tryz.prog 51 #[.string x] w fun e w' => e = .returned (.string x) ∧ Below w.heap.size w w')) (w : World) :
    Calls Tryz.prog 35 #[.string s, .int .i64 p] w fun e w' => e = .returned (.tuple #[.agg #[.int .i64 3, .string x, .int .i64 0, .int .i64 p], .int .i64 L, .agg #[.int .i64 0, .int .i64 0]]) ∧ Below w.heap.size w w' := by
  go_enter Tryz.func35, Tryz.ntmps35
  go_wp2_with (first
    | (go_at_call 51; refine (HC.out _).mono ?_; rintro e w1 ⟨rfl, HB⟩; have T := three_of w w1 _ _ _ _ HB; clear HB; obtain ⟨c0, c1, c2, c3, d0, d1, e0, e1, e2, e3, fr, fs, ft, bel⟩ := T)
    | (go_at_call 46; refine (HK.out _).mono ?_; rintro e w' ⟨rfl, rfl⟩)
    | (go_at_call 47; refine (HT.out _).mono ?_; rintro e w' ⟨rfl, rfl⟩))
  refine bodyPost_ret (v := .tuple #[.agg #[.int .i64 3, .string x, .int .i64 0, .int .i64 p], .int .i64 L, .agg #[.int .i64 0, .int .i64 0]]) (by simp [results, Tryz.results35, go_sem, c0, c1, c2, c3, d0, d1]) rfl ⟨rfl, ?_⟩
  have h0 : w.heap.size ≤ w.heap.size := Nat.le_refl _
  have h1 : w.heap.size ≤ w.heap.size + 1 := Nat.le_succ _
  have h2 : w.heap.size ≤ w.heap.size + 1 + 1 := Nat.le_trans h1 (Nat.le_succ _)
  exact ((((((bel.setCell h2 _).setCell h0 _).setCell h0 _).setCell h0 _).setCell h0 _).setCell h1 _).setCell h1 _
set_option maxRecDepth 100000 in
set_option maxHeartbeats 400000 in
theorem wa_none (s x : ByteArray) (p L : Nat) (c : UInt8) (hlt : p < s.size) (hc : s[p]'hlt = c) (hx : x.size = L) (hs : s.size ≤ 4096)
    (HK : Hid (∀ w, Calls Tryz.prog 46 #[.int .u8 c.toNat] w fun e w' => e = .returned (.int .i64 0) ∧ w' = w))
    (HT : Hid (∀ w, Calls Tryz.prog 47 #[.int .i64 0, .string (s.extract p s.size)] w fun e w' => e = .returned (.string x) ∧ w' = w)) (w : World) :
    Calls Tryz.prog 35 #[.string s, .int .i64 p] w fun e w' => e = .returned (.tuple #[.agg #[.int .i64 0, .string ⟨#[]⟩, .int .i64 0, .int .i64 0], .int .i64 0, .agg #[.int .i64 3, .int .i64 p]]) ∧ Below w.heap.size w w' := by
  go_enter Tryz.func35, Tryz.ntmps35
  go_wp2_with (first
    | (go_at_call 49; refine (fault_any _ _ _).mono ?_; rintro e w1 ⟨rfl, HB⟩; have T := three_of w w1 _ _ _ _ HB; clear HB; obtain ⟨c0, c1, c2, c3, d0, d1, e0, e1, e2, e3, fr, fs, ft, bel⟩ := T)
    | (go_at_call 46; refine (HK.out _).mono ?_; rintro e w' ⟨rfl, rfl⟩)
    | (go_at_call 47; refine (HT.out _).mono ?_; rintro e w' ⟨rfl, rfl⟩))
  refine bodyPost_ret (v := .tuple #[.agg #[.int .i64 0, .string ⟨#[]⟩, .int .i64 0, .int .i64 0], .int .i64 0, .agg #[.int .i64 3, .int .i64 p]]) (by simp [results, Tryz.results35, go_sem, c0, c1, c2, c3, d0, d1]) rfl ⟨rfl, ?_⟩
  have h0 : w.heap.size ≤ w.heap.size := Nat.le_refl _
  have h1 : w.heap.size ≤ w.heap.size + 1 := Nat.le_succ _
  have h2 : w.heap.size ≤ w.heap.size + 1 + 1 := Nat.le_trans h1 (Nat.le_succ _)
  exact (((((bel.setCell h0 _).setCell h0 _).setCell h0 _).setCell h0 _).setCell h1 _).setCell h1 _
end Go.Proofs.YtlfeejjlcclbdaaGreatDoor
