/-
  PacketTurned: its walk.
-/
import Derived.Test.YtcaddedkodjgcaaKpo
namespace Go.Proofs.Ytcaddedkodjgcaa
open Go.RowKit Pack
set_option linter.unusedVariables false
set_option linter.unusedSimpArgs false

theorem place3 (a : Int) (n : Nat) (h : 5 ≤ n) : ∃ K : Nat, (IntKind.u64.wrap a).tmod ((n : Int) - 3) = (K : Int) ∧ K + 3 < n := by
  have h0 : 0 ≤ IntKind.u64.wrap a := by rw [IntKind.wrap_u64]; omega
  refine ⟨((IntKind.u64.wrap a).tmod ((n : Int) - 3)).toNat, ?_, ?_⟩
  · rw [Int.toNat_of_nonneg]
    exact Int.tmod_nonneg _ h0
  · have h1 := Int.tmod_lt_of_pos (IntKind.u64.wrap a) (show (0 : Int) < (n : Int) - 3 by omega)
    have h2 := Int.tmod_nonneg ((n : Int) - 3) h0
    omega
def bt4 (b : BitVec 32) (j : Nat) : BitVec 8 := (b >>> (8 * j)).setWidth 8
def bx4 (a b : BitVec 8) : BitVec 8 := a ^^^ b
/-- The first j of the four bytes from K on turned. -/
def tn4 (l : BB) (K : Nat) (b : BitVec 32) : Nat → BB
  | 0 => l
  | j + 1 => (tn4 l K b j).set (K + j) (bx4 (nth (tn4 l K b j) (K + j)) (bt4 b j))
theorem tn4_len (l : BB) (K : Nat) (b : BitVec 32) (j : Nat) : (tn4 l K b j).length = l.length := by
  induction j with
  | zero => rfl
  | succ j ih => simp [tn4, ih]
theorem byte4_eq (x : BitVec 32) (n : Nat) : Crc.W x / 2 ^ n % 256 = B ((x >>> n).setWidth 8) := by
  unfold Crc.W B
  rw [Crc.shr_word, BitVec.toNat_setWidth]
  omega
theorem value4_eq (x : BitVec 8) (b : BitVec 32) (j : Nat) : bits .xor .u8 (B x) (Crc.W b / 2 ^ (8 * j) % 256) = B (bx4 x (bt4 b j)) := by
  rw [byte4_eq, Crc.xor_B]; rfl
theorem rel_turn4 {w0 wr : World} {S g len cap K j : Nat} {l : BB} {b : BitVec 32} (hl : l.length = len)
    (ho : Owns wr S (.slice (some ⟨g, 0, none⟩) len cap) (tn4 l K b j)) (hB : Below S w0 wr) (hg : S ≤ g) :
    Owns (wr.setCell ⟨g, K + j, none⟩ (.int .u8 (bits .xor .u8 (B (nth (tn4 l K b j) (K + j))) (Crc.W b / 2 ^ (8 * j) % 256)))).drew S (.slice (some ⟨g, 0, none⟩) len cap) (tn4 l K b (j + 1)) ∧
    Below S w0 (wr.setCell ⟨g, K + j, none⟩ (.int .u8 (bits .xor .u8 (B (nth (tn4 l K b j) (K + j))) (Crc.W b / 2 ^ (8 * j) % 256)))).drew := by
  refine ⟨?_, (hB.setCell (p := ⟨g, K + j, none⟩) hg _).drew⟩
  unfold Owns at ho ⊢
  rw [value4_eq, tn4, bytesV_set, List.length_set]
  rw [tn4_len, hl] at ho ⊢
  exact World.ownsRow.drew (World.ownsRow.stored ho (K + j) _).1
theorem own_cell4 {wr : World} {S g len cap i : Nat} {l : BB} (hl : l.length = len) (h : Owns wr S (.slice (some ⟨g, 0, none⟩) len cap) l) (hi : i < l.length) : wr.cell? ⟨g, i, none⟩ = some (.int .u8 (B (nth l i))) ∧ wr.frozen? ⟨g, i, none⟩ = false := by
  unfold Owns at h
  rw [hl] at h
  have hh := h
  exact ⟨by rw [hh.cellAt i (by omega), bytesV_at hi], hh.frozenAt i⟩
theorem x8b (a b c d e f g h : Bool) : ((((a ^^ b) ^^ (c ^^ d)) ^^ (e ^^ f)) ^^ (g ^^ h)) = ((((a ^^ c) ^^ e) ^^ g) ^^ (((b ^^ d) ^^ f) ^^ h)) := by
  cases a <;> cases b <;> cases c <;> cases d <;> cases e <;> cases f <;> cases g <;> cases h <;> rfl
theorem word_xor4 (a0 a1 a2 a3 b0 b1 b2 b3 : BitVec 8) : Crc.word (bx4 a0 b0) (bx4 a1 b1) (bx4 a2 b2) (bx4 a3 b3) = Crc.word a0 a1 a2 a3 ^^^ Crc.word b0 b1 b2 b3 := by
  apply BitVec.eq_of_getLsbD_eq
  intro i hi
  unfold Crc.word bx4
  simp only [BitVec.getLsbD_xor, BitVec.getLsbD_shiftLeft, BitVec.getLsbD_setWidth, hi, decide_true, Bool.true_and]
  simp only [Bool.and_xor_distrib_left]
  exact x8b _ _ _ _ _ _ _ _
theorem burst4_ne (b0 b1 b2 b3 : BitVec 8) (b : BitVec 32) (h : b ≠ 0#32) : Crc.word b0 b1 b2 b3 ≠ Crc.word (bx4 b0 (bt4 b 0)) (bx4 b1 (bt4 b 1)) (bx4 b2 (bt4 b 2)) (bx4 b3 (bt4 b 3)) := by
  intro e
  have hw : Crc.word (bt4 b 0) (bt4 b 1) (bt4 b 2) (bt4 b 3) = b := by
    have := Crc.word_of b
    simpa [bt4] using this
  rw [word_xor4, hw] at e
  apply h
  have e2 : Crc.word b0 b1 b2 b3 ^^^ Crc.word b0 b1 b2 b3 = Crc.word b0 b1 b2 b3 ^^^ (Crc.word b0 b1 b2 b3 ^^^ b) := by rw [← e]
  rw [BitVec.xor_self, ← BitVec.xor_assoc, BitVec.xor_self, BitVec.zero_xor] at e2
  exact e2.symm
theorem split4 (l : BB) (K : Nat) (h : K + 3 < l.length) : ∃ p b0 b1 b2 b3 q, l = p ++ [b0, b1, b2, b3] ++ q ∧ p.length = K := by
  refine ⟨l.take K, l[K], l[K + 1], l[K + 2], l[K + 3], l.drop (K + 4), ?_, by simp; omega⟩
  have e0 : l.drop K = l[K] :: l.drop (K + 1) := List.drop_eq_getElem_cons (by omega)
  have e1 : l.drop (K + 1) = l[K + 1] :: l.drop (K + 2) := List.drop_eq_getElem_cons (by omega)
  have e2 : l.drop (K + 2) = l[K + 2] :: l.drop (K + 3) := List.drop_eq_getElem_cons (by omega)
  have e3 : l.drop (K + 3) = l[K + 3] :: l.drop (K + 4) := List.drop_eq_getElem_cons (by omega)
  have : l = l.take K ++ l.drop K := (List.take_append_drop K l).symm
  rw [e0, e1, e2, e3] at this
  rw [List.append_assoc]
  exact this
theorem tn4_four (p q : BB) (b0 b1 b2 b3 : BitVec 8) (b : BitVec 32) : tn4 (p ++ [b0, b1, b2, b3] ++ q) p.length b 4 = p ++ [bx4 b0 (bt4 b 0), bx4 b1 (bt4 b 1), bx4 b2 (bt4 b 2), bx4 b3 (bt4 b 3)] ++ q := by
  simp [tn4, nth]
/-- A packet of which some within four side by side were turned is none. -/
theorem turned_none {x : BB} {K : Nat} {b : BitVec 32} (h : K + 3 < (sealB x).length) (hb : b ≠ 0#32) : readM (tn4 (sealB x) K b 4) = (zPk, 4) := by
  refine read_none (by rw [tn4_len]; omega) fun e => ?_
  obtain ⟨p, b0, b1, b2, b3, q, hs, rfl⟩ := split4 (sealB x) K h
  have hs2 : p ++ b0 :: b1 :: b2 :: b3 :: q = sealB x := by rw [hs, List.append_assoc]; rfl
  refine turned (burst4_ne b0 b1 b2 b3 b hb) hs2 (y := (tn4 (sealB x) p.length b 4).take ((tn4 (sealB x) p.length b 4).length - 4)) ?_
  rw [e, hs, tn4_four, List.append_assoc]
  rfl
set_option maxRecDepth 100000 in
set_option maxHeartbeats 1600000 in
theorem turned_zero {w : World} {P : Nat → Prop} {f t : Int} {a : Option Addr} {c : Nat} {l : List Ms} (H : PgOk) (HW : ∀ wr, Calls Try.prog 10 #[] wr fun e w' => e = .returned (.bool true) ∧ Below wr.heap.size wr w') (hl : RwV msR w P a c l) (hm : ∀ m ∈ l, MsR m) (hf : InR f) (ht : InR t) (kk bz : Int) (hz : bz = 0) : Calls Try.prog 7 #[.agg #[.int .i64 f, .int .i64 t, .slice a l.length c], .int .i64 kk, .int .u32 bz] w fun e w' => e = .returned (.bool true) ∧ Below w.heap.size w w' := by
  subst hz
  have HS := pack_box w f t a l.length c
  have HB0 : Hid (Below w.heap.size w (w.alloc (Obj.cells #[.int .i64 f, .int .i64 t, .slice a l.length c] 24))) := HS.2
  have hsz : (w.alloc (Obj.cells #[.int .i64 f, .int .i64 t, .slice a l.length c] 24)).heap.size = w.heap.size + 1 := size_alloc _ _
  obtain ⟨p0, p1, p2, pf⟩ := id HS.1
  have HX : Hid (∀ wr, Below (w.heap.size + 1) (w.alloc (Obj.cells #[.int .i64 f, .int .i64 t, .slice a l.length c] 24)) wr → Below w.heap.size w wr ∧ (wr.cell? ⟨w.heap.size, 0, none⟩ = some (.int .i64 f) ∧ wr.cell? ⟨w.heap.size, 1, none⟩ = some (.int .i64 t) ∧ wr.cell? ⟨w.heap.size, 2, none⟩ = some (.slice a l.length c)) ∧ w.heap.size + 1 ≤ wr.heap.size) := fun wr q => ⟨HS.2.trans (q.mono (Nat.le_succ _)), ⟨(cell_kept (q.block _ (Nat.lt_succ_self _)) _).trans p0, (cell_kept (q.block _ (Nat.lt_succ_self _)) _).trans p1, (cell_kept (q.block _ (Nat.lt_succ_self _)) _).trans p2⟩, by have := q.size; omega⟩
  have HLt : Hid (Calls Try.prog 9 #[.slice a l.length c] (w.alloc (Obj.cells #[.int .i64 f, .int .i64 t, .slice a l.length c] 24)) fun e w' => ∃ b : Bool, e = .returned (.bool b) ∧ (b = true → wtMs l ≤ 300) ∧ w' = (w.alloc (Obj.cells #[.int .i64 f, .int .i64 t, .slice a l.length c] 24))) := light_any (hl.below HS.2)
  have HPut : Hid (wtMs l ≤ 300 → Calls Try.prog 11 #[.agg #[.int .i64 f, .int .i64 t, .slice a l.length c]] (w.alloc (Obj.cells #[.int .i64 f, .int .i64 t, .slice a l.length c] 24)) fun e w' => ∃ v', e = .returned (.tuple #[v', .int .i64 (pchk f t l)]) ∧ ReadsV w' v' (pput f t l) ∧ Below (w.heap.size + 1) (w.alloc (Obj.cells #[.int .i64 f, .int .i64 t, .slice a l.length c] 24)) w') := fun hw => (H.put (hl.below HS.2) (by omega) hm hf ht).mono fun e w' ⟨v, q1, q2, q3⟩ => ⟨v, q1, q2, q3.mono (Nat.le_of_eq hsz.symm)⟩
  have HWk : Hid (∀ wr, Below w.heap.size w wr → Calls Try.prog 10 #[] wr fun e w' => e = .returned (.bool true) ∧ Below w.heap.size w w') := fun wr q => (HW wr).mono fun e w' ⟨q1, q2⟩ => ⟨q1, q.trans (q2.mono q.size)⟩
  have HWk2 : Hid (∀ wr, Below (w.heap.size + 1) (w.alloc (Obj.cells #[.int .i64 f, .int .i64 t, .slice a l.length c] 24)) wr → Calls Try.prog 10 #[] wr fun e w' => e = .returned (.bool true) ∧ Below (w.heap.size + 1) (w.alloc (Obj.cells #[.int .i64 f, .int .i64 t, .slice a l.length c] 24)) w') := fun wr q => (HW wr).mono fun e w' ⟨q1, q2⟩ => ⟨q1, q.trans (q2.mono (HX.out wr q).2.2)⟩
  have h1 := hl.cap1
  have h2 := hl.cap2
  clear HS hl hm hf ht H HW HPut HWk2
  generalize l.length = n at *
  go_enter Try.func7, Try.ntmps7
  go_wp2_with (first
    | (go_at_call 10; refine (HWk.out _ HB0.out).mono ?_; rintro e wz ⟨rfl, qz⟩; have HZ : Hid (Below w.heap.size w wz) := qz; clear qz)
    | (go_at_call 9; refine HLt.out.mono ?_; rintro e w1 ⟨b, rfl, hb, rfl⟩; have HLb : Hid (b = true → wtMs l ≤ 300) := hb; clear hb; cases b))
  all_goals first | (go_ret; exact ⟨rfl, HZ.out⟩) | skip
set_option maxRecDepth 100000 in
set_option maxHeartbeats 1600000 in
theorem turned_bad {w : World} {P : Nat → Prop} {f t : Int} {a : Option Addr} {c : Nat} {l : List Ms} (H : PgOk) (HW : ∀ wr, Calls Try.prog 10 #[] wr fun e w' => e = .returned (.bool true) ∧ Below wr.heap.size wr w') (hl : RwV msR w P a c l) (hm : ∀ m ∈ l, MsR m) (hf : InR f) (ht : InR t) (kk bz : Int) (hz : ¬ bz = 0) (hk : ¬ pchk f t l = 0) : Calls Try.prog 7 #[.agg #[.int .i64 f, .int .i64 t, .slice a l.length c], .int .i64 kk, .int .u32 bz] w fun e w' => e = .returned (.bool true) ∧ Below w.heap.size w w' := by
  have HS := pack_box w f t a l.length c
  have HB0 : Hid (Below w.heap.size w (w.alloc (Obj.cells #[.int .i64 f, .int .i64 t, .slice a l.length c] 24))) := HS.2
  have hsz : (w.alloc (Obj.cells #[.int .i64 f, .int .i64 t, .slice a l.length c] 24)).heap.size = w.heap.size + 1 := size_alloc _ _
  obtain ⟨p0, p1, p2, pf⟩ := id HS.1
  have HX : Hid (∀ wr, Below (w.heap.size + 1) (w.alloc (Obj.cells #[.int .i64 f, .int .i64 t, .slice a l.length c] 24)) wr → Below w.heap.size w wr ∧ (wr.cell? ⟨w.heap.size, 0, none⟩ = some (.int .i64 f) ∧ wr.cell? ⟨w.heap.size, 1, none⟩ = some (.int .i64 t) ∧ wr.cell? ⟨w.heap.size, 2, none⟩ = some (.slice a l.length c)) ∧ w.heap.size + 1 ≤ wr.heap.size) := fun wr q => ⟨HS.2.trans (q.mono (Nat.le_succ _)), ⟨(cell_kept (q.block _ (Nat.lt_succ_self _)) _).trans p0, (cell_kept (q.block _ (Nat.lt_succ_self _)) _).trans p1, (cell_kept (q.block _ (Nat.lt_succ_self _)) _).trans p2⟩, by have := q.size; omega⟩
  have HLt : Hid (Calls Try.prog 9 #[.slice a l.length c] (w.alloc (Obj.cells #[.int .i64 f, .int .i64 t, .slice a l.length c] 24)) fun e w' => ∃ b : Bool, e = .returned (.bool b) ∧ (b = true → wtMs l ≤ 300) ∧ w' = (w.alloc (Obj.cells #[.int .i64 f, .int .i64 t, .slice a l.length c] 24))) := light_any (hl.below HS.2)
  have HPut : Hid (wtMs l ≤ 300 → Calls Try.prog 11 #[.agg #[.int .i64 f, .int .i64 t, .slice a l.length c]] (w.alloc (Obj.cells #[.int .i64 f, .int .i64 t, .slice a l.length c] 24)) fun e w' => ∃ v', e = .returned (.tuple #[v', .int .i64 (pchk f t l)]) ∧ ReadsV w' v' (pput f t l) ∧ Below (w.heap.size + 1) (w.alloc (Obj.cells #[.int .i64 f, .int .i64 t, .slice a l.length c] 24)) w') := fun hw => (H.put (hl.below HS.2) (by omega) hm hf ht).mono fun e w' ⟨v, q1, q2, q3⟩ => ⟨v, q1, q2, q3.mono (Nat.le_of_eq hsz.symm)⟩
  have HWk : Hid (∀ wr, Below w.heap.size w wr → Calls Try.prog 10 #[] wr fun e w' => e = .returned (.bool true) ∧ Below w.heap.size w w') := fun wr q => (HW wr).mono fun e w' ⟨q1, q2⟩ => ⟨q1, q.trans (q2.mono q.size)⟩
  have HWk2 : Hid (∀ wr, Below (w.heap.size + 1) (w.alloc (Obj.cells #[.int .i64 f, .int .i64 t, .slice a l.length c] 24)) wr → Calls Try.prog 10 #[] wr fun e w' => e = .returned (.bool true) ∧ Below (w.heap.size + 1) (w.alloc (Obj.cells #[.int .i64 f, .int .i64 t, .slice a l.length c] 24)) w') := fun wr q => (HW wr).mono fun e w' ⟨q1, q2⟩ => ⟨q1, q.trans (q2.mono (HX.out wr q).2.2)⟩
  have h1 := hl.cap1
  have h2 := hl.cap2
  have HPut2 : Hid (wtMs l ≤ 300 → Calls Try.prog 11 #[.agg #[.int .i64 f, .int .i64 t, .slice a l.length c]] (w.alloc (Obj.cells #[.int .i64 f, .int .i64 t, .slice a l.length c] 24)) fun e w' => ∃ a' c', e = .returned (.tuple #[.slice a' 0 c', .int .i64 (pchk f t l)]) ∧ Below (w.heap.size + 1) (w.alloc (Obj.cells #[.int .i64 f, .int .i64 t, .slice a l.length c] 24)) w') := fun hw => (HPut.out hw).mono fun e w' ⟨v, q1, q2, q3⟩ => by
    unfold pput at q2
    rw [if_neg hk] at q2
    obtain ⟨a', c', rfl, _⟩ := q2
    exact ⟨a', c', q1, q3⟩
  have HK : Hid (¬ pchk f t l = 0) := hk
  have hz1 : (bz == 0) = false := beq_eq_false_iff_ne.2 hz
  clear HPut hk
  generalize pchk f t l = k at *
  have hk2 : ((k : Int) == 0) = false := beq_eq_false_iff_ne.2 HK.out
  clear HS hl hm hf ht H HW
  generalize l.length = n at *
  go_enter Try.func7, Try.ntmps7
  go_wp2_with (first
    | (go_at_call 10; refine (HWk.out _ (HX.out _ HB2.out).1).mono ?_; rintro e wz ⟨rfl, qz⟩; have HZ : Hid (Below w.heap.size w wz) := qz; clear qz)
    | (go_at_call 11; refine (HPut2.out (HLb.out (by trivial))).mono ?_; rintro e w2 ⟨a2, c2, rfl, qB⟩; have HB2 : Hid (Below (w.heap.size + 1) _ w2) := qB; have hk3 : ¬ (k = 0) := HK.out; clear qB)
    | (go_at_call 10; refine (HWk.out _ HB0.out).mono ?_; rintro e wz ⟨rfl, qz⟩; have HZ : Hid (Below w.heap.size w wz) := qz; clear qz)
    | (go_at_call 9; refine HLt.out.mono ?_; rintro e w1 ⟨b, rfl, hb, rfl⟩; have HLb : Hid (b = true → wtMs l ≤ 300) := hb; clear hb; cases b))
  all_goals first | (go_ret; exact ⟨rfl, HZ.out⟩) | skip
set_option maxRecDepth 100000 in
set_option maxHeartbeats 1600000 in
theorem turned_good {w : World} {P : Nat → Prop} {f t : Int} {a : Option Addr} {c : Nat} {l : List Ms} (H : PgOk) (HW : ∀ wr, Calls Try.prog 10 #[] wr fun e w' => e = .returned (.bool true) ∧ Below wr.heap.size wr w') (hl : RwV msR w P a c l) (hm : ∀ m ∈ l, MsR m) (hf : InR f) (ht : InR t) (kk : Int) (bu : BitVec 32) (hz : ¬ bu = 0#32) (hk : pchk f t l = 0) : Calls Try.prog 7 #[.agg #[.int .i64 f, .int .i64 t, .slice a l.length c], .int .i64 kk, .int .u32 (Crc.W bu)] w fun e w' => e = .returned (.bool true) ∧ Below w.heap.size w w' := by
  have HS := pack_box w f t a l.length c
  have HB0 : Hid (Below w.heap.size w (w.alloc (Obj.cells #[.int .i64 f, .int .i64 t, .slice a l.length c] 24))) := HS.2
  have hsz : (w.alloc (Obj.cells #[.int .i64 f, .int .i64 t, .slice a l.length c] 24)).heap.size = w.heap.size + 1 := size_alloc _ _
  obtain ⟨p0, p1, p2, pf⟩ := id HS.1
  have HX : Hid (∀ wr, Below (w.heap.size + 1) (w.alloc (Obj.cells #[.int .i64 f, .int .i64 t, .slice a l.length c] 24)) wr → Below w.heap.size w wr ∧ (wr.cell? ⟨w.heap.size, 0, none⟩ = some (.int .i64 f) ∧ wr.cell? ⟨w.heap.size, 1, none⟩ = some (.int .i64 t) ∧ wr.cell? ⟨w.heap.size, 2, none⟩ = some (.slice a l.length c)) ∧ w.heap.size + 1 ≤ wr.heap.size) := fun wr q => ⟨HS.2.trans (q.mono (Nat.le_succ _)), ⟨(cell_kept (q.block _ (Nat.lt_succ_self _)) _).trans p0, (cell_kept (q.block _ (Nat.lt_succ_self _)) _).trans p1, (cell_kept (q.block _ (Nat.lt_succ_self _)) _).trans p2⟩, by have := q.size; omega⟩
  have HLt : Hid (Calls Try.prog 9 #[.slice a l.length c] (w.alloc (Obj.cells #[.int .i64 f, .int .i64 t, .slice a l.length c] 24)) fun e w' => ∃ b : Bool, e = .returned (.bool b) ∧ (b = true → wtMs l ≤ 300) ∧ w' = (w.alloc (Obj.cells #[.int .i64 f, .int .i64 t, .slice a l.length c] 24))) := light_any (hl.below HS.2)
  have HPut : Hid (wtMs l ≤ 300 → Calls Try.prog 11 #[.agg #[.int .i64 f, .int .i64 t, .slice a l.length c]] (w.alloc (Obj.cells #[.int .i64 f, .int .i64 t, .slice a l.length c] 24)) fun e w' => ∃ v', e = .returned (.tuple #[v', .int .i64 (pchk f t l)]) ∧ ReadsV w' v' (pput f t l) ∧ Below (w.heap.size + 1) (w.alloc (Obj.cells #[.int .i64 f, .int .i64 t, .slice a l.length c] 24)) w') := fun hw => (H.put (hl.below HS.2) (by omega) hm hf ht).mono fun e w' ⟨v, q1, q2, q3⟩ => ⟨v, q1, q2, q3.mono (Nat.le_of_eq hsz.symm)⟩
  have HWk : Hid (∀ wr, Below w.heap.size w wr → Calls Try.prog 10 #[] wr fun e w' => e = .returned (.bool true) ∧ Below w.heap.size w w') := fun wr q => (HW wr).mono fun e w' ⟨q1, q2⟩ => ⟨q1, q.trans (q2.mono q.size)⟩
  have HWk2 : Hid (∀ wr, Below (w.heap.size + 1) (w.alloc (Obj.cells #[.int .i64 f, .int .i64 t, .slice a l.length c] 24)) wr → Calls Try.prog 10 #[] wr fun e w' => e = .returned (.bool true) ∧ Below (w.heap.size + 1) (w.alloc (Obj.cells #[.int .i64 f, .int .i64 t, .slice a l.length c] 24)) w') := fun wr q => (HW wr).mono fun e w' ⟨q1, q2⟩ => ⟨q1, q.trans (q2.mono (HX.out wr q).2.2)⟩
  have h1 := hl.cap1
  have h2 := hl.cap2
  have HLe : Hid (wtMs l ≤ 300 → (sealB (bodyB f t l)).length ≤ 1000000) := fun hw => pkt_len hk hw
  obtain ⟨n5, hn5⟩ : ∃ n5 : Nat, (sealB (bodyB f t l)).length = n5 := ⟨_, rfl⟩
  have HPut2 : Hid (wtMs l ≤ 300 → Calls Try.prog 11 #[.agg #[.int .i64 f, .int .i64 t, .slice a l.length c]] (w.alloc (Obj.cells #[.int .i64 f, .int .i64 t, .slice a l.length c] 24)) fun e w' => ∃ a' c', e = .returned (.tuple #[.slice a' n5 c', .int .i64 0]) ∧ ReadsV w' (.slice a' n5 c') (sealB (bodyB f t l)) ∧ Below (w.heap.size + 1) (w.alloc (Obj.cells #[.int .i64 f, .int .i64 t, .slice a l.length c] 24)) w') := fun hw => (HPut.out hw).mono fun e w' ⟨v, q1, q2, q3⟩ => by
    rw [hk] at q1
    unfold pput at q2
    rw [if_pos hk] at q2
    have hq2 := q2
    obtain ⟨a', c', rfl, _⟩ := q2
    rw [hn5] at hq2 q1
    exact ⟨a', c', q1, hq2, q3⟩
  have HNo : Hid (∀ K, K + 3 < n5 → readM (tn4 (sealB (bodyB f t l)) K bu 4) = (zPk, 4)) := fun K q => turned_none (by rw [hn5]; exact q) hz
  have HRd : Hid (∀ K wr v, K + 3 < n5 → n5 ≤ 1000000 → ReadsV wr v (tn4 (sealB (bodyB f t l)) K bu 4) → Below (w.heap.size + 1) (w.alloc (Obj.cells #[.int .i64 f, .int .i64 t, .slice a l.length c] 24)) wr → Calls Try.prog 16 #[v] wr fun e w' => ∃ a' c', e = .returned (.tuple #[.agg #[.int .i64 0, .int .i64 0, .slice a' 0 c'], .int .i64 4]) ∧ Below (w.heap.size + 1) (w.alloc (Obj.cells #[.int .i64 f, .int .i64 t, .slice a l.length c] 24)) w') := fun K wr v q0 q4 q1 q => by
    have := H.rd q1 (by rw [tn4_len, hn5]; exact q4)
    replace this := this.mono fun e w' q => ReadP.plain q
    rw [HNo.out K q0] at this
    exact this.mono fun e w' ⟨a', c', h1, h2, h3⟩ => ⟨a', c', h1, q.trans (h3.mono (HX.out wr q).2.2)⟩
  have HL5 : Hid ((sealB (bodyB f t l)).length = n5) := hn5
  rw [hn5] at HLe
  have hz0 : ¬ Crc.W bu = 0 := fun e => hz (Crc.W_inj (e.trans (by rfl)))
  obtain ⟨hb0, hb1⟩ := Crc.W_range bu
  have hz1 : (Crc.W bu == 0) = false := beq_eq_false_iff_ne.2 hz0
  clear HPut hk hn5 HNo HWk2 hz hz0
  clear HS hl hm hf ht H HW
  generalize sealB (bodyB f t l) = pb at *
  generalize l.length = n at *
  by_cases h5 : n5 < 5
  · go_enter Try.func7, Try.ntmps7
    go_wp2_with (first
      | (go_at_call 10; refine (HWk.out _ (HX.out _ HB2.out).1).mono ?_; rintro e wz ⟨rfl, qz⟩; have HZ : Hid (Below w.heap.size w wz) := qz; clear qz)
      | (go_at_call 11; refine (HPut2.out (HLb.out (by trivial))).mono ?_; rintro e w2 ⟨a2, c2, rfl, hr, qB⟩; have HB2 : Hid (Below (w.heap.size + 1) _ w2) := qB; clear hr qB)
      | (go_at_call 10; refine (HWk.out _ HB0.out).mono ?_; rintro e wz ⟨rfl, qz⟩; have HZ : Hid (Below w.heap.size w wz) := qz; clear qz)
      | (go_at_call 9; refine HLt.out.mono ?_; rintro e w1 ⟨b, rfl, hb, rfl⟩; have HLb : Hid (b = true → wtMs l ≤ 300) := hb; clear hb; cases b))
    all_goals first | (go_ret; exact ⟨rfl, HZ.out⟩) | skip
  · by_cases hw : wtMs l ≤ 300
    · have h5m := HLe.out hw
      obtain ⟨K, hK, hK3⟩ := place3 kk n5 (by omega)
      go_enter Try.func7, Try.ntmps7
      go_wp2_with (first
        | (at_builtin; refine wpList_append_bytes rfl (.tmp 44) (.tmp 45) 27 rfl (w.heap.size + 1) Try.underlying27 Try.info5 _ [] rfl (Owns.nil _ _) _ pb rfl HV2.out (by have := HL5.out; simp; omega) hz2 ?_; intro v3 w3 hown hgr; rw [List.nil_append] at hown; obtain ⟨g, cap, hv3⟩ := own_form hown (by have := HL5.out; omega); have HO : Hid (Owns w3 (w.heap.size + 1) (.slice (some ⟨g, 0, none⟩) n5 cap) pb) := (by rw [HL5.out] at hv3; rw [← hv3]; exact hown); rw [HL5.out] at hv3; subst hv3; have HB3 : Hid (Below (w.heap.size + 1) (w.alloc (Obj.cells #[.int .i64 f, .int .i64 t, .slice a n c] 24)) w3) := HB2.out.trans hgr; clear hown hgr)
        | (go_at_call 11; refine (HPut2.out hw).mono ?_; rintro e w2 ⟨a2, c2, rfl, hr, qB⟩; have HV2 : Hid (ReadsV w2 (.slice a2 n5 c2) pb) := hr; have HB2 : Hid (Below (w.heap.size + 1) (w.alloc (Obj.cells #[.int .i64 f, .int .i64 t, .slice a n c] 24)) w2) := qB; have hz2 := (HX.out w2 HB2.out).2.2; have hcc := hr.cap; clear qB hr)
        | (go_at_call 10; refine (HWk.out _ HB0.out).mono ?_; rintro e wz ⟨rfl, qz⟩; have HZ : Hid (Below w.heap.size w wz) := qz; clear qz)
        | (go_at_call 9; refine HLt.out.mono ?_; rintro e w1 ⟨b, rfl, hb, rfl⟩; have HLb : Hid (b = true → wtMs l ≤ 300) := hb; clear hb; cases b))
      all_goals first | (go_ret; exact ⟨rfl, HZ.out⟩) | skip
      have hgl : Hid (w.heap.size + 1 ≤ g) := (HO.out.lt g rfl).1
      generalize (w.alloc (Obj.cells #[.int .i64 f, .int .i64 t, .slice a n c] 24)) = wb at *
      go_loopw [11] (fun i wr => ∃ j : Nat, j ≤ 4 ∧ i = .int .i64 j ∧ Owns wr (w.heap.size + 1) (.slice (some ⟨g, 0, none⟩) n5 cap) (tn4 pb K bu j) ∧ Below (w.heap.size + 1) wb wr) (fun i _ => 4 - (intOf i).toNat)
      case atStart => exact ⟨0, Nat.zero_le _, rfl, HO.out, HB3.out⟩
      case round =>
        obtain ⟨j, hj, rfl, hown, hB⟩ := hrel
        have HO : Hid (Owns wr (w.heap.size + 1) (.slice (some ⟨g, 0, none⟩) n5 cap) (tn4 pb K bu j)) := hown
        have HB : Hid (Below (w.heap.size + 1) wb wr) := hB
        clear hown hB
        by_cases hlt : j < 4
        · have hc : wr.cell? ⟨g, K + j, none⟩ = some (.int .u8 (B (nth (tn4 pb K bu j) (K + j)))) := (own_cell4 (by rw [tn4_len, HL5.out]) HO.out (by rw [tn4_len, HL5.out]; omega)).1
          have hf : wr.frozen? ⟨g, K + j, none⟩ = false := (own_cell4 (by rw [tn4_len, HL5.out]) HO.out (by rw [tn4_len, HL5.out]; omega)).2
          have HT := Hid.out (show Hid _ from rel_turn4 HL5.out HO.out HB.out hgl.out)
          have R : Hid _ := HT
          clear HT
          go_wp2
          go_region
          all_goals
            go_wp2
            go_roundw
            case rel => exact ⟨j + 1, by omega, by go_num, (Hid.out R).1, (Hid.out R).2⟩
            case measure => simp [intOf]; omega
        · have hj4 : j = 4 := by omega
          subst hj4
          have hzr := (HX.out wr HB.out).2.2
          go_wp2_with (first
            | (go_at_call 10; refine (HWk.out _ (HX.out _ HB6.out).1).mono ?_; rintro e wz ⟨rfl, qz⟩; have HZ : Hid (Below w.heap.size w wz) := qz; clear qz)
            | (go_at_call 16; refine (HRd.out K _ _ hK3 h5m (ReadsV.of_own HO.out) HB.out).mono ?_; rintro e w5 ⟨a5, c5, rfl, qB⟩; have hz5 := (HX.out w5 qB).2.2; have HB6 : Hid (Below (w.heap.size + 1) wb (w5.alloc (Obj.cells #[.int .i64 0, .int .i64 0, .slice a5 0 c5] 24))) := qB.alloc hz5 _; clear qB))
          go_ret
          exact ⟨rfl, HZ.out⟩
    · go_enter Try.func7, Try.ntmps7
      go_wp2_with (first
        | (go_at_call 10; refine (HWk.out _ HB0.out).mono ?_; rintro e wz ⟨rfl, qz⟩; have HZ : Hid (Below w.heap.size w wz) := qz; clear qz)
        | (go_at_call 9; refine HLt.out.mono ?_; rintro e w1 ⟨b, rfl, hb, rfl⟩; have HLb : Hid (b = true → wtMs l ≤ 300) := hb; clear hb; cases b))
      all_goals first | (go_ret; exact ⟨rfl, HZ.out⟩) | (exact absurd (HLb.out (by trivial)) hw) | skip
theorem turned_walk {w : World} {P : Nat → Prop} {f t : Int} {a : Option Addr} {c : Nat} {l : List Ms} (H : PgOk) (HW : ∀ wr, Calls Try.prog 10 #[] wr fun e w' => e = .returned (.bool true) ∧ Below wr.heap.size wr w') (hl : RwV msR w P a c l) (hm : ∀ m ∈ l, MsR m) (hf : InR f) (ht : InR t) (kk : Int) (bu : BitVec 32) : Calls Try.prog 7 #[.agg #[.int .i64 f, .int .i64 t, .slice a l.length c], .int .i64 kk, .int .u32 (Crc.W bu)] w fun e w' => e = .returned (.bool true) ∧ Below w.heap.size w w' := by
  by_cases hz : bu = 0#32
  · exact turned_zero H HW hl hm hf ht kk _ (by rw [hz]; rfl)
  · by_cases hk : pchk f t l = 0
    · exact turned_good H HW hl hm hf ht kk bu hz hk
    · exact turned_bad H HW hl hm hf ht kk _ (fun e => hz (Crc.W_inj (e.trans (by rfl)))) hk
end Go.Proofs.Ytcaddedkodjgcaa
