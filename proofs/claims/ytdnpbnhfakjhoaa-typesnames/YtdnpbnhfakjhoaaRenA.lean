/-
  A leaf of new memory, strings.Clone: contracts.
-/
import Derived.Test.YtdnpbnhfakjhoaaTruA
import Derived.Test.YtdnpbnhfakjhoaaLaid
import Derived.Deep.RegionHeld3
import Derived.OwnWalk
namespace Go.Proofs.Ytdnpbnhfakjhoaa
section
open Go.RowKit
set_option linter.unusedVariables false

set_option maxRecDepth 100000 in
set_option maxHeartbeats 400000 in
theorem clone_any (s : ByteArray) (hs : s.size ≤ 281474976710656) (w : World) : Calls Try.prog 33 #[.string s] w fun e w' => e = .returned (.string s) ∧ Below w.heap.size w w' := by
  have HC : Hid (∀ w, Calls Try.prog 48 #[.string s] w fun e w' => e = .returned (.string s) ∧ Below w.heap.size w w') := fun w => Try.stringslite_Clone s w hs
  go_enter Try.func33, Try.ntmps33
  go_wp2_with (go_at_call 48; refine (HC.out _).mono ?_; rintro e w1 ⟨rfl, HB⟩)
  go_ret
  exact ⟨rfl, HB⟩
set_option maxRecDepth 100000 in
set_option maxHeartbeats 800000 in
theorem leaf_any (k n : Int) (s : ByteArray) (hs : s.size ≤ 281474976710656) (a : Option Addr) (l c : Nat) (w : World) : Calls Try.prog 45 #[.agg #[.int .i64 k, .int .i64 n, .string s, .slice a l c]] w fun e w' => e = .returned (.agg #[.int .i64 k, .int .i64 n, .string s, .slice none 0 0]) ∧ Below w.heap.size w w' := by
  have HC : Hid (∀ w, Calls Try.prog 33 #[.string s] w fun e w' => e = .returned (.string s) ∧ Below w.heap.size w w') := clone_any s hs
  have HX : Hid (∀ w', Below ((w.alloc (.cells #[.int .i64 k, .int .i64 n, .string s, .slice a l c] 24)).alloc (.cells #[.int .i64 0, .int .i64 0, .string ⟨#[]⟩, .slice none 0 0] 24)).heap.size ((w.alloc (.cells #[.int .i64 k, .int .i64 n, .string s, .slice a l c] 24)).alloc (.cells #[.int .i64 0, .int .i64 0, .string ⟨#[]⟩, .slice none 0 0] 24)) w' → Cell4 w' w.heap.size (.int .i64 k) (.int .i64 n) (.string s) (.slice a l c) ∧ Cell4 w' (w.heap.size + 1) (.int .i64 0) (.int .i64 0) (.string ⟨#[]⟩) (.slice none 0 0) ∧ Below w.heap.size w w') := fun w' h => by
    refine ⟨((Cell4.new w _ _ _ _ 24).alloc _).below h, ?_, (((Below.refl _ _).alloc (Nat.le_refl _) _).alloc (le_alloc _ _) _).trans (h.mono (by rw [size_alloc, size_alloc]; omega))⟩
    have := Cell4.new (w.alloc (.cells #[.int .i64 k, .int .i64 n, .string s, .slice a l c] 24)) (.int .i64 0) (.int .i64 0) (.string ⟨#[]⟩) (.slice none 0 0) 24
    rw [size_alloc] at this
    exact this.below h
  go_enter Try.func45, Try.ntmps45
  go_wp2_with fail
  obtain ⟨⟨p0, p1, p2, p3, p4⟩, ⟨q0, q1, q2, q3, q4⟩, _⟩ := HX.out _ (Below.refl _ _)
  have HS : Hid (Below ((w.alloc (.cells #[.int .i64 k, .int .i64 n, .string s, .slice a l c] 24)).alloc (.cells #[.int .i64 0, .int .i64 0, .string ⟨#[]⟩, .slice none 0 0] 24)).heap.size ((w.alloc (.cells #[.int .i64 k, .int .i64 n, .string s, .slice a l c] 24)).alloc (.cells #[.int .i64 0, .int .i64 0, .string ⟨#[]⟩, .slice none 0 0] 24)) ((w.alloc (.cells #[.int .i64 k, .int .i64 n, .string s, .slice a l c] 24)).alloc (.cells #[.int .i64 0, .int .i64 0, .string ⟨#[]⟩, .slice none 0 0] 24)).drew) := Below.drew (Below.refl _ _)
  go_region_held3 (fun w' => w'.cell? ⟨w.heap.size, 0, none⟩ = some (.int .i64 k) ∧ w'.cell? ⟨w.heap.size, 1, none⟩ = some (.int .i64 n) ∧ w'.cell? ⟨w.heap.size, 2, none⟩ = some (.string s)) (go_keep) (first
    | (go_at_call 33; refine (HC.out _).mono ?_; rintro e w4 ⟨rfl, HB⟩; have HB4 : Hid (Below _ _ w4) := HS.out.trans (HB.mono HS.out.size); obtain ⟨⟨p0, p1, p2, p3, p4⟩, ⟨q0, q1, q2, q3, q4⟩, _⟩ := HX.out _ HB4.out; clear HB))
  have hl4 : w.heap.size + 1 < w4.heap.size := World.block_lt_of_cell? _ _ q0
  all_goals go_wp2
  refine bodyPost_ret (v := .agg #[.int .i64 k, .int .i64 n, .string s, .slice none 0 0]) (by simp [results, Try.results45, go_sem, q0, q1, q2, q3]) rfl ⟨rfl, ?_⟩
  have h := (HX.out _ HB4.out).2.2
  exact (((h.setCell (p := ⟨w.heap.size + 1, 0, none⟩) (Nat.le_succ _) _).setCell (p := ⟨w.heap.size + 1, 1, none⟩) (Nat.le_succ _) _).setCell (p := ⟨w.heap.size + 1, 2, none⟩) (Nat.le_succ _) _).setCell (p := ⟨w.heap.size + 1, 3, none⟩) (Nat.le_succ _) _
end
section
open Go.RowKit
set_option linter.unusedVariables false

def renM (fr to : Bs) : Nat → Tr → Tr
  | 0, t => t
  | d + 1, t => if t.kids = [] then (if t.kind = 2 ∧ t.name = fr then ⟨t.kind, t.n, to, []⟩ else ⟨t.kind, t.n, t.name, []⟩) else ⟨t.kind, 0, [], t.kids.map (renM fr to d)⟩
/-- A row of kids that is being laid. -/
structure Made (w wr : World) (M n i : Nat) (ts : List Tr) : Prop where
  low : w.heap.size ≤ M
  lt : M < wr.heap.size
  cells : ∀ j, j < n * 4 → ∃ v, wr.cell? ⟨M, j, none⟩ = some v
  free : ∀ j, wr.frozen? ⟨M, j, none⟩ = false
  kids : ∀ j, j < i → ∃ u0 u1 u2 u3, wr.cell? ⟨M, j * 4, none⟩ = some u0 ∧ wr.cell? ⟨M, j * 4 + 1, none⟩ = some u1 ∧ wr.cell? ⟨M, j * 4 + 2, none⟩ = some u2 ∧ wr.cell? ⟨M, j * 4 + 3, none⟩ = some u3 ∧ Tre wr (fun g => w.heap.size ≤ g ∧ g ≠ M) (.agg #[u0, u1, u2, u3]) (ts.getD j zeroT)
theorem Made.below {w wr w' : World} {M n i : Nat} {ts : List Tr} (h : Made w wr M n i ts) (hb : Below wr.heap.size wr w') : Made w w' M n i ts := by
  refine ⟨h.low, Nat.lt_of_lt_of_le h.lt hb.size, fun j hj => ?_, fun j => (hb.frozen (p := ⟨M, j, none⟩) h.lt).trans (h.free j), fun j hj => ?_⟩
  · obtain ⟨v, hv⟩ := h.cells j hj
    exact ⟨v, (hb.cell (p := ⟨M, j, none⟩) h.lt).trans hv⟩
  · obtain ⟨u0, u1, u2, u3, h0, h1, h2, h3, ht⟩ := h.kids j hj
    exact ⟨u0, u1, u2, u3, (hb.cell (p := ⟨M, _, none⟩) h.lt).trans h0, (hb.cell (p := ⟨M, _, none⟩) h.lt).trans h1, (hb.cell (p := ⟨M, _, none⟩) h.lt).trans h2, (hb.cell (p := ⟨M, _, none⟩) h.lt).trans h3, ht.below hb⟩
theorem cell_put {w : World} {M j k : Nat} {v u : Value} (h : w.cell? ⟨M, j, none⟩ = some u) : (w.setCell ⟨M, k, none⟩ v).cell? ⟨M, j, none⟩ = some (if k = j then v else u) := by
  by_cases e : k = j
  · subst e
    rw [if_pos rfl]
    exact World.cell?_setCell_same' _ _ _ (by rw [h]; rfl)
  · rw [if_neg e]
    have hne : (⟨M, k, none⟩ : Addr) ≠ ⟨M, j, none⟩ := by intro h; injection h with _ h _; exact e h
    exact (World.cell?_setCell_other w _ _ v hne).trans h
/-- Four cells are written. -/
theorem four_put {w : World} {M o : Nat} {u0 u1 u2 u3 : Value} (h : ∀ j, j < 4 → ∃ v, w.cell? ⟨M, o + j, none⟩ = some v) :
    ((((w.setCell ⟨M, o, none⟩ u0).setCell ⟨M, o + 1, none⟩ u1).setCell ⟨M, o + 2, none⟩ u2).setCell ⟨M, o + 3, none⟩ u3).cell? ⟨M, o, none⟩ = some u0 ∧
    ((((w.setCell ⟨M, o, none⟩ u0).setCell ⟨M, o + 1, none⟩ u1).setCell ⟨M, o + 2, none⟩ u2).setCell ⟨M, o + 3, none⟩ u3).cell? ⟨M, o + 1, none⟩ = some u1 ∧
    ((((w.setCell ⟨M, o, none⟩ u0).setCell ⟨M, o + 1, none⟩ u1).setCell ⟨M, o + 2, none⟩ u2).setCell ⟨M, o + 3, none⟩ u3).cell? ⟨M, o + 2, none⟩ = some u2 ∧
    ((((w.setCell ⟨M, o, none⟩ u0).setCell ⟨M, o + 1, none⟩ u1).setCell ⟨M, o + 2, none⟩ u2).setCell ⟨M, o + 3, none⟩ u3).cell? ⟨M, o + 3, none⟩ = some u3 := by
  obtain ⟨a0, h0⟩ := h 0 (by omega)
  obtain ⟨a1, h1⟩ := h 1 (by omega)
  obtain ⟨a2, h2⟩ := h 2 (by omega)
  obtain ⟨a3, h3⟩ := h 3 (by omega)
  rw [Nat.add_zero] at h0
  refine ⟨?_, ?_, ?_, ?_⟩
  · rw [cell_put (cell_put (cell_put (cell_put h0)))]; simp
  · rw [cell_put (cell_put (cell_put (cell_put h1)))]; simp
  · rw [cell_put (cell_put (cell_put (cell_put h2)))]; simp
  · rw [cell_put (cell_put (cell_put (cell_put h3)))]; simp
theorem four_far {w : World} {M o k : Nat} {u0 u1 u2 u3 x : Value} (h : w.cell? ⟨M, k, none⟩ = some x) (hk : k < o ∨ o + 4 ≤ k) : ((((w.setCell ⟨M, o, none⟩ u0).setCell ⟨M, o + 1, none⟩ u1).setCell ⟨M, o + 2, none⟩ u2).setCell ⟨M, o + 3, none⟩ u3).cell? ⟨M, k, none⟩ = some x := by
  rw [cell_put (cell_put (cell_put (cell_put h))), if_neg (by omega), if_neg (by omega), if_neg (by omega), if_neg (by omega)]
theorem four_other {w : World} {M o g : Nat} {u0 u1 u2 u3 : Value} (hg : g ≠ M) : ((((w.setCell ⟨M, o, none⟩ u0).setCell ⟨M, o + 1, none⟩ u1).setCell ⟨M, o + 2, none⟩ u2).setCell ⟨M, o + 3, none⟩ u3).heap[g]? = w.heap[g]? := by
  rw [Below.heap_setCell _ _ _ _ hg, Below.heap_setCell _ _ _ _ hg, Below.heap_setCell _ _ _ _ hg, Below.heap_setCell _ _ _ _ hg]
theorem four_size {w : World} {M o : Nat} {u0 u1 u2 u3 : Value} : ((((w.setCell ⟨M, o, none⟩ u0).setCell ⟨M, o + 1, none⟩ u1).setCell ⟨M, o + 2, none⟩ u2).setCell ⟨M, o + 3, none⟩ u3).heap.size = w.heap.size := by simp [World.setCell]
theorem Made.step {w wr : World} {M n i : Nat} {ts : List Tr} (h : Made w wr M n i ts) (hi : i < n) {u0 u1 u2 u3 : Value} (ht : Tre wr (fun g => w.heap.size ≤ g ∧ g ≠ M) (.agg #[u0, u1, u2, u3]) (ts.getD i zeroT)) :
    Made w ((((wr.setCell ⟨M, i * 4, none⟩ u0).setCell ⟨M, i * 4 + 1, none⟩ u1).setCell ⟨M, i * 4 + 2, none⟩ u2).setCell ⟨M, i * 4 + 3, none⟩ u3) M n (i + 1) ts := by
  have key : ∀ {v : Value} {t : Tr}, Tre wr (fun g => w.heap.size ≤ g ∧ g ≠ M) v t → Tre ((((wr.setCell ⟨M, i * 4, none⟩ u0).setCell ⟨M, i * 4 + 1, none⟩ u1).setCell ⟨M, i * 4 + 2, none⟩ u2).setCell ⟨M, i * 4 + 3, none⟩ u3) (fun g => w.heap.size ≤ g ∧ g ≠ M) v t := fun hv => hv.kept fun g hg _ => ⟨four_other hg.2, hg⟩
  refine ⟨h.low, by rw [four_size]; exact h.lt, fun j hj => ?_, fun j => ?_, fun j hj => ?_⟩
  · obtain ⟨v, hv⟩ := h.cells j hj
    exact ⟨_, cell_put (cell_put (cell_put (cell_put hv)))⟩
  · simp only [World.frozen?_setCell]; exact h.free j
  · rcases Nat.lt_succ_iff_lt_or_eq.1 hj with hj | rfl
    · obtain ⟨x0, x1, x2, x3, h0, h1, h2, h3, hx⟩ := h.kids j hj
      exact ⟨x0, x1, x2, x3, four_far h0 (by omega), four_far h1 (by omega), four_far h2 (by omega), four_far h3 (by omega), key hx⟩
    · obtain ⟨h0, h1, h2, h3⟩ := four_put (w := wr) (M := M) (o := j * 4) (u0 := u0) (u1 := u1) (u2 := u2) (u3 := u3) (fun q hq => h.cells (j * 4 + q) (by omega))
      exact ⟨u0, u1, u2, u3, h0, h1, h2, h3, key ht⟩
theorem Made.new {w w2 : World} {base M n : Nat} {xs : List Value} {ts : List Tr} (h : w2.ownsRow base 24 4 (.slice (some ⟨M, 0, none⟩) n n) n xs) (hM : w.heap.size ≤ M) : Made w w2 M n 0 ts := by
  refine ⟨hM, (World.ownsRow.lt h M rfl).2, fun j hj => ?_, fun j => World.ownsRow.frozenAt h j, fun j hj => absurd hj (by omega)⟩
  have hl := h.1
  rw [World.ownsRow.cellAt h j (by omega)]
  exact ⟨_, List.getElem?_eq_getElem (by omega)⟩
theorem tre_depth {w : World} {P : Nat → Prop} {v : Nat → Value → Prop} {ts : List Tr} : ∀ n, (∀ i, i < n → ∃ u, v i u ∧ Tre w P u (ts.getD i zeroT)) → ∃ d, ∀ i, i < n → ∃ u, v i u ∧ TrV w P d u (ts.getD i zeroT)
  | 0, _ => ⟨0, fun i hi => by omega⟩
  | n + 1, h => by
    obtain ⟨d, hd⟩ := tre_depth n (fun i hi => h i (by omega))
    obtain ⟨u, hu, e, he⟩ := h n (by omega)
    refine ⟨max d e, fun i hi => ?_⟩
    rcases Nat.lt_succ_iff_lt_or_eq.1 hi with hi | rfl
    · obtain ⟨x, hx, hx2⟩ := hd i hi
      exact ⟨x, hx, hx2.mono (Nat.le_max_left _ _)⟩
    · exact ⟨u, hu, he.mono (Nat.le_max_right _ _)⟩
theorem Made.done {w wr : World} {M n : Nat} {ts : List Tr} (h : Made w wr M n n ts) (hn : ts.length = n) (hl : n ≤ 9223372036854775807) {k : Int} (hk : InR k) : Tre wr (fun g => w.heap.size ≤ g) (.agg #[.int .i64 k, .int .i64 0, .string ⟨#[]⟩, .slice (some ⟨M, 0, none⟩) n n]) ⟨k, 0, [], ts⟩ := by
  obtain ⟨d, hd⟩ := tre_depth (w := wr) (P := fun g => w.heap.size ≤ g) (ts := ts) (v := fun i u => ∃ u0 u1 u2 u3, u = .agg #[u0, u1, u2, u3] ∧ wr.cell? ⟨M, i * 4, none⟩ = some u0 ∧ wr.cell? ⟨M, i * 4 + 1, none⟩ = some u1 ∧ wr.cell? ⟨M, i * 4 + 2, none⟩ = some u2 ∧ wr.cell? ⟨M, i * 4 + 3, none⟩ = some u3) n (fun i hi => by
    obtain ⟨u0, u1, u2, u3, h0, h1, h2, h3, ht⟩ := h.kids i hi
    exact ⟨_, ⟨u0, u1, u2, u3, rfl, h0, h1, h2, h3⟩, ht.sub fun g hg => hg.1⟩)
  subst hn
  refine ⟨d + 1, some ⟨M, 0, none⟩, ts.length, rfl, Nat.le_refl _, hk, inR_zero, (by show (0 : Nat) ≤ _; decide), hl, fun i hi => ?_⟩
  obtain ⟨u, ⟨u0, u1, u2, u3, rfl, h0, h1, h2, h3⟩, ht⟩ := hd i hi
  exact ⟨M, 0, u0, u1, u2, u3, rfl, h.low, by rw [Nat.zero_add]; exact h0, by rw [Nat.zero_add]; exact h1, by rw [Nat.zero_add]; exact h2, by rw [Nat.zero_add]; exact h3, ht⟩
end
section
open Go.RowKit
set_option linter.unusedVariables false

theorem Cell4.four {w : World} {M o b : Nat} {u0 u1 u2 u3 v0 v1 v2 v3 : Value} (h : Cell4 w b v0 v1 v2 v3) (hb : b ≠ M) : Cell4 ((((w.setCell ⟨M, o, none⟩ u0).setCell ⟨M, o + 1, none⟩ u1).setCell ⟨M, o + 2, none⟩ u2).setCell ⟨M, o + 3, none⟩ u3) b v0 v1 v2 v3 := by
  have e := four_other (w := w) (M := M) (o := o) (u0 := u0) (u1 := u1) (u2 := u2) (u3 := u3) hb
  have hc : ∀ j, ((((w.setCell ⟨M, o, none⟩ u0).setCell ⟨M, o + 1, none⟩ u1).setCell ⟨M, o + 2, none⟩ u2).setCell ⟨M, o + 3, none⟩ u3).cell? ⟨b, j, none⟩ = w.cell? ⟨b, j, none⟩ := fun j => by simp only [World.cell?]; rw [e]
  exact ⟨(hc _).trans h.c0, (hc _).trans h.c1, (hc _).trans h.c2, (hc _).trans h.c3, fun i => by simp only [World.frozen?_setCell]; exact h.free i⟩
theorem below_four {B : Nat} {a w : World} {M o : Nat} {u0 u1 u2 u3 : Value} (h : Below B a w) (hM : B ≤ M) : Below B a ((((w.setCell ⟨M, o, none⟩ u0).setCell ⟨M, o + 1, none⟩ u1).setCell ⟨M, o + 2, none⟩ u2).setCell ⟨M, o + 3, none⟩ u3) :=
  (((h.setCell (p := ⟨M, o, none⟩) hM _).setCell (p := ⟨M, o + 1, none⟩) hM _).setCell (p := ⟨M, o + 2, none⟩) hM _).setCell (p := ⟨M, o + 3, none⟩) hM _
/-- A tree that was made. -/
def RPost (w : World) (t : Tr) (e : Ending) (w' : World) : Prop := ∃ k n s a l c, e = .returned (.agg #[.int .i64 k, .int .i64 n, .string s, .slice a l c]) ∧ Tre w' (fun g => w.heap.size ≤ g) (.agg #[.int .i64 k, .int .i64 n, .string s, .slice a l c]) t ∧ Below w.heap.size w w'
theorem infoE : (Try.prog.info? 24).map (fun i => (i.zero, i.size, i.bytes)) = some (some (.agg #[.int .i64 0, .int .i64 0, .string ⟨#[]⟩, .slice none 0 0]), 4, 56) := by kernel_rfl
theorem two_blocks (w : World) (x0 x1 x2 x3 : Value) : Cell4 ((w.alloc (.cells #[x0, x1, x2, x3] 24)).alloc (.cells #[.int .i64 0, .int .i64 0, .string ⟨#[]⟩, .slice none 0 0] 24)) w.heap.size x0 x1 x2 x3 ∧ Cell4 ((w.alloc (.cells #[x0, x1, x2, x3] 24)).alloc (.cells #[.int .i64 0, .int .i64 0, .string ⟨#[]⟩, .slice none 0 0] 24)) (w.heap.size + 1) (.int .i64 0) (.int .i64 0) (.string ⟨#[]⟩) (.slice none 0 0) ∧ Below w.heap.size w ((w.alloc (.cells #[x0, x1, x2, x3] 24)).alloc (.cells #[.int .i64 0, .int .i64 0, .string ⟨#[]⟩, .slice none 0 0] 24)) := by
  refine ⟨(Cell4.new w _ _ _ _ 24).alloc _, ?_, ((Below.refl _ _).alloc (Nat.le_refl _) _).alloc (le_alloc _ _) _⟩
  have := Cell4.new (w.alloc (.cells #[x0, x1, x2, x3] 24)) (.int .i64 0) (.int .i64 0) (.string ⟨#[]⟩) (.slice none 0 0) 24
  rw [size_alloc] at this
  exact this
theorem name_short {d : Nat} {t : Tr} (h : checkM (d + 1) t = 0) : t.name.length ≤ 32 := by
  have hs := shape h
  by_cases e : t.kind = 2
  · have hf := (check_fits h).1
    unfold fitsM at hf
    simp only [if_pos e] at hf
    have h1 : nameOk t.name = true := by
      split at hf
      · cases hf
      · split at hf
        · cases hf
        · simp only [Bool.and_eq_true] at hf
          exact hf.1.1
    unfold nameOk at h1
    split at h1
    · cases h1
    · rename_i c r hcr
      simp only [Bool.and_eq_true, decide_eq_true_eq] at h1
      rw [hcr]; exact h1.2
  · rw [hs.name e]; exact Nat.zero_le _
def Rens (fr to : Bs) (d : Nat) : Prop := ∀ (P : Nat → Prop) (t : Tr) (v : Value) (w : World), checkM d t = 0 → Tre w P v t →
  Calls Try.prog 27 #[v, .string (ba fr), .string (ba to)] w (RPost w (renM fr to d t))
theorem rens_zero (fr to : Bs) : Rens fr to 0 := fun P t v w h => by cases h
theorem ba_size (l : Bs) : (ba l).size = l.length := by simp [ba, ByteArray.size]
theorem Cell4.far {w : World} {b : Nat} {v0 v1 v2 v3 : Value} (h : Cell4 w b v0 v1 v2 v3) {p : Addr} (hp : b ≠ p.block) (x : Value) : Cell4 (w.setCell p x) b v0 v1 v2 v3 := by
  have e := Below.heap_setCell w p x b hp
  have hc : ∀ j, (w.setCell p x).cell? ⟨b, j, none⟩ = w.cell? ⟨b, j, none⟩ := fun j => by simp only [World.cell?]; rw [e]
  exact ⟨(hc _).trans h.c0, (hc _).trans h.c1, (hc _).trans h.c2, (hc _).trans h.c3, fun i => by simp only [World.frozen?_setCell]; exact h.free i⟩
theorem two_next {w w4 : World} {x0 x1 x2 x3 : Value} (HB : Below ((w.alloc (.cells #[x0, x1, x2, x3] 24)).alloc (.cells #[.int .i64 0, .int .i64 0, .string ⟨#[]⟩, .slice none 0 0] 24)).heap.size ((w.alloc (.cells #[x0, x1, x2, x3] 24)).alloc (.cells #[.int .i64 0, .int .i64 0, .string ⟨#[]⟩, .slice none 0 0] 24)) w4) : Cell4 w4 w.heap.size x0 x1 x2 x3 ∧ Cell4 w4 (w.heap.size + 1) (.int .i64 0) (.int .i64 0) (.string ⟨#[]⟩) (.slice none 0 0) ∧ Below w.heap.size w w4 := by
  obtain ⟨h1, h2, h3⟩ := two_blocks w x0 x1 x2 x3
  exact ⟨h1.below HB, h2.below HB, h3.trans (HB.mono h3.size)⟩
set_option maxRecDepth 100000 in
set_option maxHeartbeats 1000000 in
theorem ren_leaf (fr to : Bs) (hto : to.length ≤ 4096) (tk tn : Int) (hk : InR tk) (hn : InR tn) (nm : Bs) (hnm : nm.length ≤ 32) (a : Option Addr) (cap : Nat) (w : World) :
    Calls Try.prog 27 #[.agg #[.int .i64 tk, .int .i64 tn, .string (ba nm), .slice a 0 cap], .string (ba fr), .string (ba to)] w (RPost w (if tk = 2 ∧ nm = fr then ⟨tk, tn, to, []⟩ else ⟨tk, tn, nm, []⟩)) := by
  have hb : ((ba nm).toList == (ba fr).toList) = decide (nm = fr) := by
    rw [ba_toList, ba_toList]
    by_cases h : nm = fr
    · rw [decide_eq_true h]; simpa using h
    · rw [decide_eq_false h]; simpa using h
  by_cases h2 : tk = 2 ∧ nm = fr
  · rw [if_pos h2]
    obtain ⟨rfl, rfl⟩ := h2
    have HC : Hid (∀ w, Calls Try.prog 45 #[.agg #[.int .i64 2, .int .i64 tn, .string (ba to), .slice a 0 cap]] w fun e w' => e = .returned (.agg #[.int .i64 2, .int .i64 tn, .string (ba to), .slice none 0 0]) ∧ Below w.heap.size w w') := fun w => leaf_any _ _ _ (by rw [ba_size]; omega) a 0 cap w
    have HT : Hid (∀ w P, Tre w P (.agg #[.int .i64 2, .int .i64 tn, .string (ba to), .slice none 0 0]) ⟨2, tn, to, []⟩) := fun w P => Tre.leaf w P hk hn to (by omega)
    clear hb
    generalize ba to = sto at *
    generalize ba nm = snm at *
    go_enter Try.func27, Try.ntmps27
    go_wp2_with (go_at_call 45; refine (HC.out _).mono ?_; rintro e w4 ⟨rfl, HB4⟩; obtain ⟨_, ⟨q0, q1, q2, q3, q4⟩, hb5⟩ := two_next HB4; have HB5 : Hid (Below w.heap.size w w4) := hb5; clear HB4 hb5)
    refine bodyPost_ret (v := .agg #[.int .i64 2, .int .i64 tn, .string sto, .slice none 0 0]) (by simp [results, Try.results27, go_sem, q0, q1, q2, q3]) rfl ⟨_, _, _, _, _, _, rfl, HT.out _ _, below_four HB5.out (M := w.heap.size + 1) (o := 0) (Nat.le_succ _)⟩
  · rw [if_neg h2]
    have HC : Hid (∀ w, Calls Try.prog 45 #[.agg #[.int .i64 tk, .int .i64 tn, .string (ba nm), .slice a 0 cap]] w fun e w' => e = .returned (.agg #[.int .i64 tk, .int .i64 tn, .string (ba nm), .slice none 0 0]) ∧ Below w.heap.size w w') := fun w => leaf_any _ _ _ (by rw [ba_size]; omega) a 0 cap w
    have HT : Hid (∀ w P, Tre w P (.agg #[.int .i64 tk, .int .i64 tn, .string (ba nm), .slice none 0 0]) ⟨tk, tn, nm, []⟩) := fun w P => Tre.leaf w P hk hn nm (by omega)
    by_cases hk2 : tk = 2
    · subst hk2
      rw [decide_eq_false (fun h => h2 ⟨rfl, h⟩)] at hb
      clear h2
      generalize ba to = sto at *
      generalize ba nm = snm at *
      generalize ba fr = sfr at *
      go_enter Try.func27, Try.ntmps27
      go_wp2_with (go_at_call 45; refine (HC.out _).mono ?_; rintro e w4 ⟨rfl, HB4⟩; obtain ⟨_, ⟨q0, q1, q2, q3, q4⟩, hb5⟩ := two_next HB4; have HB5 : Hid (Below w.heap.size w w4) := hb5; clear HB4 hb5)
      refine bodyPost_ret (v := .agg #[.int .i64 2, .int .i64 tn, .string snm, .slice none 0 0]) (by simp [results, Try.results27, go_sem, q0, q1, q2, q3]) rfl ⟨_, _, _, _, _, _, rfl, HT.out _ _, below_four HB5.out (M := w.heap.size + 1) (o := 0) (Nat.le_succ _)⟩
    · clear h2 hb
      generalize ba to = sto at *
      generalize ba nm = snm at *
      generalize ba fr = sfr at *
      go_enter Try.func27, Try.ntmps27
      go_wp2_with (go_at_call 45; refine (HC.out _).mono ?_; rintro e w4 ⟨rfl, HB4⟩; obtain ⟨_, ⟨q0, q1, q2, q3, q4⟩, hb5⟩ := two_next HB4; have HB5 : Hid (Below w.heap.size w w4) := hb5; clear HB4 hb5)
      refine bodyPost_ret (v := .agg #[.int .i64 tk, .int .i64 tn, .string snm, .slice none 0 0]) (by simp [results, Try.results27, go_sem, q0, q1, q2, q3]) rfl ⟨_, _, _, _, _, _, rfl, HT.out _ _, below_four HB5.out (M := w.heap.size + 1) (o := 0) (Nat.le_succ _)⟩
set_option maxRecDepth 100000 in
set_option maxHeartbeats 1000000 in
theorem rens_succ (fr to : Bs) (hto : to.length ≤ 4096) (d : Nat) (ih : Rens fr to d) : Rens fr to (d + 1) := by
  intro P t v w hck hT
  obtain ⟨a, cap, rfl, hcap, hk, hn, hnm, hlen, hkids⟩ := hT.opened
  have hs := shape hck
  by_cases hk0 : t.kids = []
  · have he : renM fr to (d + 1) t = if t.kind = 2 ∧ t.name = fr then ⟨t.kind, t.n, to, []⟩ else ⟨t.kind, t.n, t.name, []⟩ := by
      unfold renM; rw [if_pos hk0]
    rw [he, hk0]
    exact ren_leaf fr to hto t.kind t.n hk hn t.name (name_short hck) a cap w
  have he : renM fr to (d + 1) t = ⟨t.kind, 0, [], t.kids.map (renM fr to d)⟩ := by unfold renM; rw [if_neg hk0]
  rw [he]
  have hkd := (check_fits hck).2
  have hl2 : t.kids.length ≤ 2 := by
    rcases hs.kids with ⟨_, h⟩ | ⟨_, x, h, _⟩ | ⟨_, x, y, h, _⟩ <;> rw [h] <;> simp
  have hl1 : 0 < t.kids.length := List.length_pos_iff.2 hk0
  have HI : Hid (∀ (y : Tr) (v : Value) (w : World), checkM d y = 0 → Tre w P v y → Calls Try.prog 27 #[v, .string (ba fr), .string (ba to)] w (RPost w (renM fr to d y))) := fun y v w h1 h2 => ih P y v w h1 h2
  have HK : Hid (∀ i, i < t.kids.length → ∃ b o ka kc, KidAt w P a i (t.kids.getD i zeroT) b o ka kc) := hkids
  have HD : Hid (∀ y ∈ t.kids, checkM d y = 0) := hkd
  have HKi : Hid (InR t.kind) := hk
  clear hkids hT ih hk hn hnm hck hkd hs he hk0
  generalize t.n = tn at *
  generalize ba t.name = tsn at *
  generalize t.kind = tk at *
  generalize t.kids = ks at *
  generalize ba fr = sfr at *
  generalize ba to = sto at *
  have hl0 : ¬ ks.length = 0 := by omega
  obtain ⟨i, hi, hz, hsz, hby⟩ := info_parts infoE
  obtain ⟨w0, hw0⟩ : ∃ w0, w0 = (w.alloc (.cells #[.int .i64 tk, .int .i64 tn, .string tsn, .slice a ks.length cap] 24)).alloc (.cells #[.int .i64 0, .int .i64 0, .string ⟨#[]⟩, .slice none 0 0] 24) := ⟨_, rfl⟩
  have HB0 : Hid (Cell4 w0 w.heap.size (.int .i64 tk) (.int .i64 tn) (.string tsn) (.slice a ks.length cap) ∧ Cell4 w0 (w.heap.size + 1) (.int .i64 0) (.int .i64 0) (.string ⟨#[]⟩) (.slice none 0 0) ∧ Below w.heap.size w w0 ∧ w0.heap.size = w.heap.size + 2) := by rw [hw0]; exact ⟨(two_blocks w _ _ _ _).1, (two_blocks w _ _ _ _).2.1, (two_blocks w _ _ _ _).2.2, by rw [size_alloc, size_alloc]⟩
  go_enter Try.func27, Try.ntmps27
  go_wp2_with (at_make; rw [← hw0]; (refine wpList_make_full _ rfl (.tmp 29) (.tmp 29) 22 rfl w0.heap.size 24 i _ 4 Try.underlying22 hi hz hsz _ _ _ _ ks.length rfl rfl rfl rfl (by rw [hby]; omega) (by unfold maxLen; omega) (Nat.le_refl _) ?_); intro w2 hown hg; have HB2 : Hid (Made w0 w2 w0.heap.size ks.length 0 (ks.map (renM fr to d)) ∧ Below w0.heap.size w0 w2) := ⟨Made.new hown (Nat.le_refl _), (Below.refl _ _).grown hg (Nat.le_refl _) (by simp)⟩; obtain ⟨p0, p1, p2, p3, p4⟩ := HB0.out.1.below HB2.out.2; have hlp := World.block_lt_of_cell? _ _ p0; clear hown hg)
  rw [show w.heap.size + 1 + 1 = w0.heap.size from by have := HB0.out.2.2.2; omega]
  clear hw0
  go_loopw [34] (fun v wr => ∃ (i : Nat), i ≤ ks.length ∧ v = .int .i64 i ∧ Hid (Below w0.heap.size w0 wr ∧ Made w0 wr w0.heap.size ks.length i (ks.map (renM fr to d)))) (fun v _ => ks.length - (intOf v).toNat)
  case atStart => exact ⟨0, Nat.zero_le _, rfl, HB2.out.2, HB2.out.1⟩
  case round =>
    obtain ⟨i, hi2, rfl, HR⟩ := hrel
    have HW : Hid (Below w.heap.size w wr) := HB0.out.2.2.1.trans (HR.out.1.mono HB0.out.2.2.1.size)
    obtain ⟨p0, p1, p2, p3, p4⟩ := HB0.out.1.below HR.out.1
    obtain ⟨q0, q1, q2, q3, q4⟩ := HB0.out.2.1.below HR.out.1
    have hlp := World.block_lt_of_cell? _ _ p0
    have hlq := World.block_lt_of_cell? _ _ q0
    by_cases hlt : i < ks.length
    · obtain ⟨b, o, ka, kc, hKA⟩ := HK.out i hlt
      have HKA : Hid (KidAt wr P a i (ks.getD i zeroT) b o ka kc) := hKA.below HW.out
      obtain ⟨rfl, m0, m1, m2, m3, hkt⟩ := HKA.out
      have hbl : b < wr.heap.size := World.block_lt_of_cell? wr _ m0
      have HY0 : Hid (checkM d (ks.getD i zeroT) = 0) := HD.out _ (by rw [List.getD_eq_getElem?_getD, List.getElem?_eq_getElem hlt]; exact List.getElem_mem hlt)
      have HKT : Hid (Tre wr P (.agg #[.int .i64 (ks.getD i zeroT).kind, .int .i64 (ks.getD i zeroT).n, .string (ba (ks.getD i zeroT).name), .slice ka (ks.getD i zeroT).kids.length kc]) (ks.getD i zeroT)) := hkt
      have HM : Hid ((ks.map (renM fr to d)).getD i zeroT = renM fr to d (ks.getD i zeroT)) := by
        unfold Hid
        simp only [List.getD_eq_getElem?_getD, List.getElem?_map, List.getElem?_eq_getElem hlt, Option.map_some, Option.getD_some]
      have HC : Hid (∀ w, Tre w P (.agg #[.int .i64 (ks.getD i zeroT).kind, .int .i64 (ks.getD i zeroT).n, .string (ba (ks.getD i zeroT).name), .slice ka (ks.getD i zeroT).kids.length kc]) (ks.getD i zeroT) → Calls Try.prog 27 #[.agg #[.int .i64 (ks.getD i zeroT).kind, .int .i64 (ks.getD i zeroT).n, .string (ba (ks.getD i zeroT).name), .slice ka (ks.getD i zeroT).kids.length kc], .string sfr, .string sto] w (RPost w (renM fr to d (ks.getD i zeroT)))) := fun w h => HI.out _ _ w HY0.out h
      clear hkt hKA HKA HK HD HI HY0
      generalize renM fr to d (ks.getD i zeroT) = ry at *
      generalize (ks.getD i zeroT).kind = yk at *
      generalize (ks.getD i zeroT).n = yn at *
      generalize ba (ks.getD i zeroT).name = ys at *
      generalize (ks.getD i zeroT).kids.length = yl at *
      generalize ks.getD i zeroT = y at *
      go_wp2_with (go_at_call 27; refine (HC.out _ (HKT.out.alloc _)).mono ?_; rintro e w3 ⟨rk, rn, rs, ra, rl, rc, rfl, hrt, HB⟩; have HB3 : Hid (Below wr.heap.size wr w3 ∧ Made w0 w3 w0.heap.size ks.length i (ks.map (renM fr to d)) ∧ Tre w3 (fun g => w0.heap.size ≤ g ∧ g ≠ w0.heap.size) (.agg #[.int .i64 rk, .int .i64 rn, .string rs, .slice ra rl rc]) ry) := ⟨((Below.refl _ _).alloc (Nat.le_refl _) _).trans (HB.mono (le_alloc _ _)), (HR.out.2.below ((Below.refl _ _).alloc (Nat.le_refl _) _)).below HB, hrt.sub fun g hg => (by rw [size_alloc] at hg; have := HR.out.2.lt; constructor <;> omega)⟩; have e0 := HB3.out.2.1.cells (i * 4) (by omega); have e1 := HB3.out.2.1.cells (i * 4 + 1) (by omega); have e2 := HB3.out.2.1.cells (i * 4 + 2) (by omega); have e3 := HB3.out.2.1.cells (i * 4 + 3) (by omega); obtain ⟨z0, e0⟩ := e0; obtain ⟨z1, e1⟩ := e1; obtain ⟨z2, e2⟩ := e2; obtain ⟨z3, e3⟩ := e3; have ef := HB3.out.2.1.free; have el := HB3.out.2.1.lt; clear HB hrt)
      go_roundw
      case rel =>
        refine ⟨i + 1, by omega, by go_num, ?_, ?_⟩
        · exact below_four (HR.out.1.trans (HB3.out.1.mono HR.out.1.size)) (Nat.le_refl _)
        · exact HB3.out.2.1.step hlt (by rw [HM.out]; exact HB3.out.2.2)
      case measure => simp [intOf]; omega
    · have he : i = ks.length := by omega
      subst he
      have HT : Hid (Tre wr (fun g => w0.heap.size ≤ g) (.agg #[.int .i64 tk, .int .i64 0, .string ⟨#[]⟩, .slice (some ⟨w0.heap.size, 0, none⟩) ks.length ks.length]) ⟨tk, 0, [], ks.map (renM fr to d)⟩) := HR.out.2.done (by simp) (by omega) HKi.out
      go_wp2
      refine bodyPost_ret (v := .agg #[.int .i64 tk, .int .i64 0, .string ⟨#[]⟩, .slice (some ⟨w0.heap.size, 0, none⟩) ks.length ks.length]) (by simp [results, Try.results27, go_sem, q0, q1, q2, q3]) rfl ⟨_, _, _, _, _, _, rfl, ?_, below_four HW.out (M := w.heap.size + 1) (o := 0) (Nat.le_succ _)⟩
      have hw2 := HB0.out.2.2.2
      exact HT.out.kept fun g hg _ => ⟨four_other (M := w.heap.size + 1) (o := 0) (by omega), by omega⟩
theorem rens_any (fr to : Bs) (hto : to.length ≤ 4096) : ∀ d, Rens fr to d
  | 0 => rens_zero fr to
  | d + 1 => rens_succ fr to hto d (rens_any fr to hto d)
end
section
open Go.RowKit
set_option linter.unusedVariables false

def renameM (fr to : Bs) (t : Tr) : Tr × Nat := if checkM 16 t ≠ 0 then (zeroT, checkM 16 t) else if checkM 16 ⟨2, 0, to, []⟩ ≠ 0 then (zeroT, checkM 16 ⟨2, 0, to, []⟩) else (renM fr to 16 t, 0)
/-- A tree that was made, and an error. -/
def NPost (w : World) (t : Tr) (x : Nat) (e : Ending) (w' : World) : Prop := ∃ k n s a l c, e = .returned (.tuple #[.agg #[.int .i64 k, .int .i64 n, .string s, .slice a l c], .int .i64 x]) ∧ Tre w' (fun g => w.heap.size ≤ g) (.agg #[.int .i64 k, .int .i64 n, .string s, .slice a l c]) t ∧ Below w.heap.size w w'
theorem zero_tre (w : World) (P : Nat → Prop) : Tre w P (.agg #[.int .i64 0, .int .i64 0, .string ⟨#[]⟩, .slice none 0 0]) zeroT := Tre.leaf w P inR_zero inR_zero [] (by decide)
set_option maxRecDepth 100000 in
set_option maxHeartbeats 1000000 in
theorem Rename_any (fr to : Bs) (hto : to.length ≤ 9223372036854775807) (P : Nat → Prop) (t : Tr) (k n : Int) (s : ByteArray) (a : Option Addr) (l c : Nat) (w : World) (hT : Tre w P (.agg #[.int .i64 k, .int .i64 n, .string s, .slice a l c]) t) :
    Calls Try.prog 11 #[.agg #[.int .i64 k, .int .i64 n, .string s, .slice a l c], .string (ba fr), .string (ba to)] w (NPost w (renameM fr to t).1 (renameM fr to t).2) := by
  have HC : Hid (∀ w, Tre w P (.agg #[.int .i64 k, .int .i64 n, .string s, .slice a l c]) t → Calls Try.prog 22 #[.agg #[.int .i64 k, .int .i64 n, .string s, .slice a l c]] w fun e w' => e = .returned (.int .i64 (checkM 16 t)) ∧ Below w.heap.size w w') := fun w h => Check_any P t k n s a l c w h
  have HV : Hid (∀ w, Calls Try.prog 22 #[.agg #[.int .i64 2, .int .i64 0, .string (ba to), .slice none 0 0]] w fun e w' => e = .returned (.int .i64 (checkM 16 ⟨2, 0, to, []⟩)) ∧ Below w.heap.size w w') := fun w => Check_any (fun _ => True) ⟨2, 0, to, []⟩ 2 0 (ba to) none 0 0 w (Tre.leaf w _ ⟨by decide, by decide⟩ inR_zero to hto)
  have HT : Hid (Tre w P (.agg #[.int .i64 k, .int .i64 n, .string s, .slice a l c]) t) := hT
  clear hT
  by_cases h0 : checkM 16 t = 0
  · by_cases h1 : checkM 16 ⟨2, 0, to, []⟩ = 0
    · have hs : to.length ≤ 32 := name_short (d := 15) (t := ⟨2, 0, to, []⟩) h1
      have he : renameM fr to t = (renM fr to 16 t, 0) := by unfold renameM; rw [if_neg (by omega), if_neg (by omega)]
      have HR : Hid (∀ w, Tre w P (.agg #[.int .i64 k, .int .i64 n, .string s, .slice a l c]) t → Calls Try.prog 27 #[.agg #[.int .i64 k, .int .i64 n, .string s, .slice a l c], .string (ba fr), .string (ba to)] w (RPost w (renM fr to 16 t))) := fun w h => rens_any fr to (by omega) 16 P t _ w h0 h
      rw [he]
      rw [h0] at HC
      rw [h1] at HV
      generalize renM fr to 16 t = rt at *
      generalize ba fr = sfr at *
      generalize ba to = sto at *
      go_enter Try.func11, Try.ntmps11
      go_wp2_with (first
        | (go_at_call 27; have := HB2; refine (HR.out _ ((HT.out.below HB2.out.2.2))).mono ?_; rintro e w3 ⟨rk, rn, rs, ra, rl, rc, rfl, hrt, HB⟩; obtain ⟨q0, q1, q2, q3, q4⟩ := HB2.out.2.1.below HB; have HB3 : Hid (Tre w3 (fun g => w.heap.size + 2 ≤ g) (.agg #[.int .i64 rk, .int .i64 rn, .string rs, .slice ra rl rc]) rt ∧ Below w.heap.size w w3) := ⟨hrt.sub fun g hg => (by have := HB2.out.2.1.lt; omega), HB2.out.2.2.trans (HB.mono HB2.out.2.2.size)⟩; clear HB hrt)
        | (go_at_call 22; have := HB1; refine (HV.out _).mono ?_; rintro e w2 ⟨rfl, HB⟩; obtain ⟨p0, p1, p2, p3, p4⟩ := HB1.out.1.below HB; have HB2 : Hid (Cell4 w2 w.heap.size (.int .i64 k) (.int .i64 n) (.string s) (.slice a l c) ∧ Cell4 w2 (w.heap.size + 1) (.int .i64 0) (.int .i64 0) (.string ⟨#[]⟩) (.slice none 0 0) ∧ Below w.heap.size w w2) := ⟨HB1.out.1.below HB, HB1.out.2.1.below HB, HB1.out.2.2.trans (HB.mono HB1.out.2.2.size)⟩; have hlp := World.block_lt_of_cell? _ _ p0; clear HB HB1)
        | (go_at_call 22; refine (HC.out _ ((HT.out.alloc _).alloc _)).mono ?_; rintro e w1 ⟨rfl, HB⟩; have HB1 : Hid (Cell4 w1 w.heap.size (.int .i64 k) (.int .i64 n) (.string s) (.slice a l c) ∧ Cell4 w1 (w.heap.size + 1) (.int .i64 0) (.int .i64 0) (.string ⟨#[]⟩) (.slice none 0 0) ∧ Below w.heap.size w w1) := two_next HB; clear HB))
      refine bodyPost_ret (v := .tuple #[.agg #[.int .i64 rk, .int .i64 rn, .string rs, .slice ra rl rc], .int .i64 0]) (by simp [results, Try.results11, go_sem, q0, q1, q2, q3]) rfl ⟨_, _, _, _, _, _, rfl, ?_, below_four HB3.out.2 (M := w.heap.size + 1) (o := 0) (Nat.le_succ _)⟩
      exact HB3.out.1.kept fun g hg _ => ⟨four_other (M := w.heap.size + 1) (o := 0) (by omega), by omega⟩
    · have he : renameM fr to t = (zeroT, checkM 16 ⟨2, 0, to, []⟩) := by unfold renameM; rw [if_neg (by omega), if_pos h1]
      rw [he]
      rw [h0] at HC
      have h2 : ((checkM 16 ⟨2, 0, to, []⟩ : Int) != 0) = true := by simp; omega
      generalize checkM 16 ⟨2, 0, to, []⟩ = ck at *
      generalize ba fr = sfr at *
      generalize ba to = sto at *
      go_enter Try.func11, Try.ntmps11
      go_wp2_with (first
        | (go_at_call 22; have := HB1; refine (HV.out _).mono ?_; rintro e w2 ⟨rfl, HB⟩; obtain ⟨q0, q1, q2, q3, q4⟩ := HB1.out.2.1.below HB; have HB2 : Hid (Below w.heap.size w w2) := HB1.out.2.2.trans (HB.mono HB1.out.2.2.size); clear HB HB1)
        | (go_at_call 22; refine (HC.out _ ((HT.out.alloc _).alloc _)).mono ?_; rintro e w1 ⟨rfl, HB⟩; have HB1 : Hid (Cell4 w1 w.heap.size (.int .i64 k) (.int .i64 n) (.string s) (.slice a l c) ∧ Cell4 w1 (w.heap.size + 1) (.int .i64 0) (.int .i64 0) (.string ⟨#[]⟩) (.slice none 0 0) ∧ Below w.heap.size w w1) := two_next HB; clear HB))
      refine bodyPost_ret (v := .tuple #[.agg #[.int .i64 0, .int .i64 0, .string ⟨#[]⟩, .slice none 0 0], .int .i64 ck]) (by simp [results, Try.results11, go_sem, q0, q1, q2, q3]) rfl ⟨_, _, _, _, _, _, rfl, zero_tre _ _, below_four HB2.out (M := w.heap.size + 1) (o := 0) (Nat.le_succ _)⟩
  · have he : renameM fr to t = (zeroT, checkM 16 t) := by unfold renameM; rw [if_pos h0]
    rw [he]
    have h2 : ((checkM 16 t : Int) != 0) = true := by simp; omega
    generalize checkM 16 t = ck at *
    generalize ba fr = sfr at *
    generalize ba to = sto at *
    go_enter Try.func11, Try.ntmps11
    go_wp2_with (go_at_call 22; refine (HC.out _ ((HT.out.alloc _).alloc _)).mono ?_; rintro e w1 ⟨rfl, HB⟩; obtain ⟨_, ⟨q0, q1, q2, q3, q4⟩, hb⟩ := two_next HB; have HB2 : Hid (Below w.heap.size w w1) := hb; clear HB hb)
    refine bodyPost_ret (v := .tuple #[.agg #[.int .i64 0, .int .i64 0, .string ⟨#[]⟩, .slice none 0 0], .int .i64 ck]) (by simp [results, Try.results11, go_sem, q0, q1, q2, q3]) rfl ⟨_, _, _, _, _, _, rfl, zero_tre _ _, below_four HB2.out (M := w.heap.size + 1) (o := 0) (Nat.le_succ _)⟩
end
end Go.Proofs.Ytdnpbnhfakjhoaa
