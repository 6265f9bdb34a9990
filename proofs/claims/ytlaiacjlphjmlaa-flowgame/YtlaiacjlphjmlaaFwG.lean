/-
  The program's Of: its contract.
-/
import Derived.Test.YtlaiacjlphjmlaaFwF
namespace Go.Proofs.Ytlaiacjlphjmlaa
open Go.RowKit
set_option linter.unusedVariables false

def ofE (d : Df) : Nat := if checkD d ≠ 0 then checkD d else throughS d.places (beginS d.places.length)
def ofS (d : Df) : Fs := (goS d.places (d.places.length + 1) 0 (beginS d.places.length)).2
structure Cell3 (w : World) (b : Nat) (v0 v1 v2 : Value) : Prop where
  c0 : w.cell? ⟨b, 0, none⟩ = some v0
  c1 : w.cell? ⟨b, 1, none⟩ = some v1
  c2 : w.cell? ⟨b, 2, none⟩ = some v2
  free : ∀ i, w.frozen? ⟨b, i, none⟩ = false
theorem Cell3.new (w : World) (v0 v1 v2 : Value) (t : TypeId) : Cell3 (w.alloc (.cells #[v0, v1, v2] t)) w.heap.size v0 v1 v2 := by
  have k := heap_alloc_new w (.cells #[v0, v1, v2] t)
  refine ⟨?_, ?_, ?_, fun i => by simp only [World.frozen?]; rw [k]; simp⟩ <;> (rw [cell_of_row _ _ _ _ t (0, 0) k]; rfl)
theorem Cell3.kept {w w' : World} {b : Nat} {v0 v1 v2 : Value} (h : Cell3 w b v0 v1 v2) (e : w'.heap[b]? = w.heap[b]?) : Cell3 w' b v0 v1 v2 := ⟨(cell_kept e _).trans h.c0, (cell_kept e _).trans h.c1, (cell_kept e _).trans h.c2, fun i => (frozen_kept e _).trans (h.free i)⟩
theorem Cell3.lt {w : World} {b : Nat} {v0 v1 v2 : Value} (h : Cell3 w b v0 v1 v2) : b < w.heap.size := World.block_lt_of_cell? w _ h.c0
theorem Cell3.put {w : World} {b : Nat} {v0 v1 v2 : Value} (h : Cell3 w b v0 v1 v2) (j : Nat) (x : Value) : Cell3 (w.setCell ⟨b, j, none⟩ x) b (if j = 0 then x else v0) (if j = 1 then x else v1) (if j = 2 then x else v2) :=
  ⟨cell_set h.c0, cell_set h.c1, cell_set h.c2, fun i => by simp only [World.frozen?_setCell]; exact h.free i⟩
theorem three_other {w : World} {M o g : Nat} {u0 u1 u2 : Value} (hg : g ≠ M) : (((w.setCell ⟨M, o, none⟩ u0).setCell ⟨M, o + 1, none⟩ u1).setCell ⟨M, o + 2, none⟩ u2).heap[g]? = w.heap[g]? := by
  rw [Below.heap_setCell _ _ _ _ hg, Below.heap_setCell _ _ _ _ hg, Below.heap_setCell _ _ _ _ hg]
theorem three_below {B : Nat} {a w : World} {M o : Nat} {u0 u1 u2 : Value} (h : Below B a w) (hM : B ≤ M) : Below B a (((w.setCell ⟨M, o, none⟩ u0).setCell ⟨M, o + 1, none⟩ u1).setCell ⟨M, o + 2, none⟩ u2) := ((h.setCell (p := ⟨M, o, none⟩) hM _).setCell (p := ⟨M, o + 1, none⟩) hM _).setCell (p := ⟨M, o + 2, none⟩) hM _
/-- What Of answers. -/
def OfP (d : Df) (w : World) (e : Ending) (w' : World) : Prop :=
  Below w.heap.size w w' ∧ ((ofE d ≠ 0 ∧ e = .returned (.tuple #[.agg #[.slice none 0 0, .slice none 0 0, .slice none 0 0], .int .i64 (ofE d : Nat)])) ∨
    (ofE d = 0 ∧ ∃ fb db jb, e = .returned (.tuple #[.agg #[.slice (some ⟨fb, 0, none⟩) d.places.length d.places.length, .slice (some ⟨db, 0, none⟩) d.places.length d.places.length, .slice (some ⟨jb, 0, none⟩) d.places.length d.places.length], .int .i64 0]) ∧ w.heap.size ≤ fb ∧ w.heap.size ≤ db ∧ w.heap.size ≤ jb ∧ RowN w' fb (ofS d).fk ∧ RowN w' db (ofS d).dp ∧ RowN w' jb (ofS d).jn ∧ Fok d.places.length (ofS d)))
theorem flows_in {d : Df} (h : checkD d = 0) : ∀ p, p < d.places.length → ∀ x ∈ outP d.places p, 0 ≤ x.to ∧ x.to.toNat < d.places.length := fun p hp x hx => by
  have hf := (def_facts h).place (d.places[p]) (List.getElem_mem hp)
  have he : outP d.places p = d.places[p].out := by unfold outP; rw [getD_memP hp]
  rw [he] at hx
  obtain ⟨last, hq⟩ := hf.flow x hx
  obtain ⟨g1, g2, _⟩ := flow_facts hq
  omega
set_option maxRecDepth 100000 in
set_option maxHeartbeats 800000 in
theorem Of_any (P : Nat → Prop) (d : Df) (a : Option Addr) (c : Nat) (w : World) (hd : DfV w P d a c) : Calls Try.prog 8 #[.agg #[.string (ba d.id), .slice a d.places.length c]] w (OfP d w) := by
  have HC : Hid (∀ o o2, Calls Try.prog 18 #[.agg #[.string (ba d.id), .slice a d.places.length c]] ((w.alloc o).alloc o2) fun e w' => e = .returned (.int .i64 (checkD d : Nat)) ∧ Below ((w.alloc o).alloc o2).heap.size ((w.alloc o).alloc o2) w') := fun o o2 => MCheck_any _ d a c _ (hd.kept (kept_below (((Below.refl _ _).alloc (Nat.le_refl _) o).alloc (le_alloc _ _) o2)))
  obtain ⟨hcap1, hcap2⟩ := hd.places.cap
  by_cases hz : checkD d = 0
  · have hfa := def_facts hz
    have hn : d.places.length ≤ 4096 := hfa.len
    have hn0 : 0 < d.places.length := hfa.pos
    have HB : Hid (∀ w1, Calls Try.prog 19 #[.slice a d.places.length c] w1 fun e w' => ∃ wb fb db jb cb B0, e = .returned (.pointer (some ⟨wb, 0, none⟩)) ∧ Wn w' w1.heap.size B0 wb fb db jb cb a c d.places.length (beginS d.places.length) ∧ Below w1.heap.size w1 w') := fun w1 => begin_any a c d.places.length w1 hn0 hn hcap1
    have HPl : Hid (∀ w1, Below w.heap.size w w1 → Plz w1 w1.heap.size a c d.places.length d.places) := fun w1 q => ⟨hd.places.kept fun g hg hl => ⟨q.block g hl, Nat.lt_of_lt_of_le hl q.size⟩, rfl⟩
    have HT : Hid (∀ B B0 wb fb db jb cb w1, Wn w1 B B0 wb fb db jb cb a c d.places.length (beginS d.places.length) → Plz w1 B a c d.places.length d.places → B ≤ w1.heap.size → Calls Try.prog 20 #[.pointer (some ⟨wb, 0, none⟩)] w1 fun e w' => e = .returned (.int .i64 (throughS d.places (beginS d.places.length) : Nat)) ∧ Wn w' B B0 wb fb db jb cb a c d.places.length (ofS d) ∧ Below B w1 w') := fun B B0 wb fb db jb cb w1 q1 q2 q3 => through_any B B0 wb fb db jb cb a c d.places.length d.places _ w1 q1 q2 hn q3 (flows_in hz)
    have HE : Hid (ofE d = throughS d.places (beginS d.places.length)) := by show _ = _; unfold ofE; rw [if_neg (by omega)]
    rw [hz] at HC
    have ht : throughS d.places (beginS d.places.length) = 0 ∨ throughS d.places (beginS d.places.length) ≠ 0 := by omega
    have HOfP : Hid (∀ e w', Below w.heap.size w w' ∧ ((throughS d.places (beginS d.places.length) ≠ 0 ∧ e = .returned (.tuple #[.agg #[.slice none 0 0, .slice none 0 0, .slice none 0 0], .int .i64 (throughS d.places (beginS d.places.length) : Nat)])) ∨ (throughS d.places (beginS d.places.length) = 0 ∧ ∃ fb db jb, e = .returned (.tuple #[.agg #[.slice (some ⟨fb, 0, none⟩) d.places.length d.places.length, .slice (some ⟨db, 0, none⟩) d.places.length d.places.length, .slice (some ⟨jb, 0, none⟩) d.places.length d.places.length], .int .i64 0]) ∧ w.heap.size ≤ fb ∧ w.heap.size ≤ db ∧ w.heap.size ≤ jb ∧ RowN w' fb (ofS d).fk ∧ RowN w' db (ofS d).dp ∧ RowN w' jb (ofS d).jn ∧ Fok d.places.length (ofS d))) → OfP d w e w') := fun e w' q => by unfold OfP; rw [HE.out]; exact q
    clear hd hfa hz HE
    generalize throughS d.places (beginS d.places.length) = er at *
    generalize d.places.length = n at *
    generalize ba d.id = ds at *
    rcases ht with rfl | ht
    · go_enter Try.func8, Try.ntmps8
      go_wp2_with (first
        | (go_at_call 20; have := G2; refine (HT.out _ _ _ _ _ _ _ _ G2.out.1 G2.out.2.1 G2.out.2.2.1).mono ?_; rintro e w4 ⟨rfl, q1, q2⟩; have G3 : Hid (Wn w4 w2.heap.size B0 wb fb db jb cb a c n (ofS d) ∧ Below w.heap.size w w4 ∧ Cell3 w4 (w.heap.size + 1) (.slice none 0 0) (.slice none 0 0) (.slice none 0 0) ∧ w.heap.size + 1 < w2.heap.size) := ⟨q1, G2.out.2.2.2.1.trans (q2.mono (Nat.le_trans (Nat.le_succ _) (Nat.le_of_lt G2.out.2.2.2.2.2))), G2.out.2.2.2.2.1.kept (q2.block _ G2.out.2.2.2.2.2), G2.out.2.2.2.2.2⟩; obtain ⟨⟨ov, hk⟩, hok⟩ := q1; have k1 := hk.c1; have k2 := hk.c2; have k3 := hk.c3; have hlk := World.block_lt_of_cell? _ _ k1; obtain ⟨z0, z1, z2, z3⟩ := G3.out.2.2.1; have hlz := World.block_lt_of_cell? _ _ z0; have hwz : w.heap.size + 1 < wb := Nat.lt_of_lt_of_le G3.out.2.2.2 hk.dis.l1; clear q2 hk G2)
        | (go_at_call 19; have := G1; refine (HB.out _).mono ?_; rintro e w3 ⟨wb, fb, db, jb, cb, B0, rfl, q1, q2⟩; have G2 : Hid (Wn w3 w2.heap.size B0 wb fb db jb cb a c n (beginS n) ∧ Plz w3 w2.heap.size a c n d.places ∧ w2.heap.size ≤ w3.heap.size ∧ Below w.heap.size w w3 ∧ Cell3 w3 (w.heap.size + 1) (.slice none 0 0) (.slice none 0 0) (.slice none 0 0) ∧ w.heap.size + 1 < w2.heap.size) := ⟨q1, (HPl.out _ G1.out.1).below q2, q2.size, G1.out.1.trans (q2.mono G1.out.1.size), G1.out.2.kept (q2.block _ G1.out.2.lt), G1.out.2.lt⟩; clear q1 q2 G1)
        | (go_at_call 18; refine (HC.out _ _).mono ?_; rintro e w2 ⟨rfl, q1⟩; have C3 := Cell3.new (w.alloc (.cells #[.string ds, .slice a n c] 24)) (.slice none 0 0) (.slice none 0 0) (.slice none 0 0) 29; rw [size_alloc] at C3; have G1 : Hid (Below w.heap.size w w2 ∧ Cell3 w2 (w.heap.size + 1) (.slice none 0 0) (.slice none 0 0) (.slice none 0 0)) := ⟨below_new (below_new q1), C3.kept (q1.block _ C3.lt)⟩; obtain ⟨x0, x1, x2⟩ := ((Cell2.new w (.string ds) (.slice a n c) 24).below ((Below.refl _ _).alloc (Nat.le_refl _) (.cells #[.slice none 0 0, .slice none 0 0, .slice none 0 0] 29))).below q1; have hlx := World.block_lt_of_cell? _ _ x0; clear q1 C3))
      have hz4 : Cell3 _ (w.heap.size + 1) (.slice (some ⟨fb, 0, none⟩) n n) (.slice (some ⟨db, 0, none⟩) n n) (.slice (some ⟨jb, 0, none⟩) n n) := ((G3.out.2.2.1.put 0 (.slice (some ⟨fb, 0, none⟩) n n)).put 1 (.slice (some ⟨db, 0, none⟩) n n)).put 2 (.slice (some ⟨jb, 0, none⟩) n n)
      obtain ⟨e0, e1, e2, _⟩ := hz4
      refine bodyPost_ret (v := .tuple #[.agg #[.slice (some ⟨fb, 0, none⟩) n n, .slice (some ⟨db, 0, none⟩) n n, .slice (some ⟨jb, 0, none⟩) n n], .int .i64 0]) (by simp [results, Try.results8, go_sem, e0, e1, e2]) rfl (HOfP.out _ _ ⟨three_below (o := 0) G3.out.2.1 (Nat.le_succ _), .inr ⟨(by first | rfl | trivial), fb, db, jb, rfl, ?_⟩⟩)
      obtain ⟨⟨ov3, hk3⟩, hok3⟩ := G3.out.1
      have hd3 := hk3.dis
      have h9 := G3.out.2.2.2
      have l2 := hd3.l2
      have l3 := hd3.l3
      have l4 := hd3.l4
      exact ⟨by omega, by omega, by omega, hk3.fk.kept (three_other (M := w.heap.size + 1) (o := 0) (by omega)), hk3.dp.kept (three_other (M := w.heap.size + 1) (o := 0) (by omega)), hk3.jn.kept (three_other (M := w.heap.size + 1) (o := 0) (by omega)), hok3⟩
    · have ht2 : ¬ (er : Int) = 0 := by omega
      go_enter Try.func8, Try.ntmps8
      go_wp2_with (first
        | (go_at_call 20; have := G2; refine (HT.out _ _ _ _ _ _ _ _ G2.out.1 G2.out.2.1 G2.out.2.2.1).mono ?_; rintro e w4 ⟨rfl, q1, q2⟩; have G3 : Hid (Wn w4 w2.heap.size B0 wb fb db jb cb a c n (ofS d) ∧ Below w.heap.size w w4 ∧ Cell3 w4 (w.heap.size + 1) (.slice none 0 0) (.slice none 0 0) (.slice none 0 0) ∧ w.heap.size + 1 < w2.heap.size) := ⟨q1, G2.out.2.2.2.1.trans (q2.mono (Nat.le_trans (Nat.le_succ _) (Nat.le_of_lt G2.out.2.2.2.2.2))), G2.out.2.2.2.2.1.kept (q2.block _ G2.out.2.2.2.2.2), G2.out.2.2.2.2.2⟩; obtain ⟨⟨ov, hk⟩, hok⟩ := q1; have k1 := hk.c1; have k2 := hk.c2; have k3 := hk.c3; have hlk := World.block_lt_of_cell? _ _ k1; obtain ⟨z0, z1, z2, z3⟩ := G3.out.2.2.1; have hlz := World.block_lt_of_cell? _ _ z0; have hwz : w.heap.size + 1 < wb := Nat.lt_of_lt_of_le G3.out.2.2.2 hk.dis.l1; clear q2 hk G2)
        | (go_at_call 19; have := G1; refine (HB.out _).mono ?_; rintro e w3 ⟨wb, fb, db, jb, cb, B0, rfl, q1, q2⟩; have G2 : Hid (Wn w3 w2.heap.size B0 wb fb db jb cb a c n (beginS n) ∧ Plz w3 w2.heap.size a c n d.places ∧ w2.heap.size ≤ w3.heap.size ∧ Below w.heap.size w w3 ∧ Cell3 w3 (w.heap.size + 1) (.slice none 0 0) (.slice none 0 0) (.slice none 0 0) ∧ w.heap.size + 1 < w2.heap.size) := ⟨q1, (HPl.out _ G1.out.1).below q2, q2.size, G1.out.1.trans (q2.mono G1.out.1.size), G1.out.2.kept (q2.block _ G1.out.2.lt), G1.out.2.lt⟩; clear q1 q2 G1)
        | (go_at_call 18; refine (HC.out _ _).mono ?_; rintro e w2 ⟨rfl, q1⟩; have C3 := Cell3.new (w.alloc (.cells #[.string ds, .slice a n c] 24)) (.slice none 0 0) (.slice none 0 0) (.slice none 0 0) 29; rw [size_alloc] at C3; have G1 : Hid (Below w.heap.size w w2 ∧ Cell3 w2 (w.heap.size + 1) (.slice none 0 0) (.slice none 0 0) (.slice none 0 0)) := ⟨below_new (below_new q1), C3.kept (q1.block _ C3.lt)⟩; obtain ⟨x0, x1, x2⟩ := ((Cell2.new w (.string ds) (.slice a n c) 24).below ((Below.refl _ _).alloc (Nat.le_refl _) (.cells #[.slice none 0 0, .slice none 0 0, .slice none 0 0] 29))).below q1; have hlx := World.block_lt_of_cell? _ _ x0; clear q1 C3))
      have hz4 : Cell3 _ (w.heap.size + 1) (.slice none 0 0) (.slice none 0 0) (.slice none 0 0) := ((G3.out.2.2.1.put 0 (.slice none 0 0)).put 1 (.slice none 0 0)).put 2 (.slice none 0 0)
      obtain ⟨e0, e1, e2, _⟩ := hz4
      exact bodyPost_ret (v := .tuple #[.agg #[.slice none 0 0, .slice none 0 0, .slice none 0 0], .int .i64 er]) (by simp [results, Try.results8, go_sem, e0, e1, e2]) rfl (HOfP.out _ _ ⟨three_below (o := 0) G3.out.2.1 (Nat.le_succ _), .inl ⟨ht, rfl⟩⟩)
  · have HE : Hid (ofE d = checkD d) := by show _ = _; unfold ofE; rw [if_pos hz]
    have HOfP : Hid (∀ e w', Below w.heap.size w w' ∧ e = .returned (.tuple #[.agg #[.slice none 0 0, .slice none 0 0, .slice none 0 0], .int .i64 (checkD d : Nat)]) → OfP d w e w') := fun e w' q => ⟨q.1, .inl ⟨by rw [HE.out]; exact hz, by rw [HE.out]; exact q.2⟩⟩
    have hz2 : ¬ ((checkD d : Nat) : Int) = 0 := by omega
    clear hd HE hz
    generalize checkD d = ck at *
    generalize d.places.length = n at *
    generalize ba d.id = ds at *
    go_enter Try.func8, Try.ntmps8
    go_wp2_with (go_at_call 18; refine (HC.out _ _).mono ?_; rintro e w2 ⟨rfl, q1⟩; have C3 := Cell3.new (w.alloc (.cells #[.string ds, .slice a n c] 24)) (.slice none 0 0) (.slice none 0 0) (.slice none 0 0) 29; rw [size_alloc] at C3; have G1 : Hid (Below w.heap.size w w2 ∧ Cell3 w2 (w.heap.size + 1) (.slice none 0 0) (.slice none 0 0) (.slice none 0 0)) := ⟨below_new (below_new q1), C3.kept (q1.block _ C3.lt)⟩; obtain ⟨z0, z1, z2, z3⟩ := G1.out.2; have hlz := World.block_lt_of_cell? _ _ z0; clear q1 C3)
    have hz4 : Cell3 _ (w.heap.size + 1) (.slice none 0 0) (.slice none 0 0) (.slice none 0 0) := ((G1.out.2.put 0 (.slice none 0 0)).put 1 (.slice none 0 0)).put 2 (.slice none 0 0)
    obtain ⟨e0, e1, e2, _⟩ := hz4
    exact bodyPost_ret (v := .tuple #[.agg #[.slice none 0 0, .slice none 0 0, .slice none 0 0], .int .i64 ck]) (by simp [results, Try.results8, go_sem, e0, e1, e2]) rfl (HOfP.out _ _ ⟨three_below (o := 0) G1.out.1 (Nat.le_succ _), rfl⟩)
end Go.Proofs.Ytlaiacjlphjmlaa
