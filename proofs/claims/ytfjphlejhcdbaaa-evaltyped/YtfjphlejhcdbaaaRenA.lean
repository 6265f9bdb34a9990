/-
  A leaf of new memory, strings.Clone: contracts.
-/
import Derived.Test.YtfjphlejhcdbaaaTruA
import Derived.Test.YtfjphlejhcdbaaaRows
import Derived.Deep.RegionHeld3
import Derived.OwnWalk
namespace Go.Proofs.Ytfjphlejhcdbaaa
section
open Go.RowKit
set_option linter.unusedVariables false


def renM (fr to : Bs) : Nat → Tr → Tr
  | 0, t => t
  | d + 1, t => if t.kids = [] then (if t.kind = 2 ∧ t.name = fr then ⟨t.kind, t.n, to, []⟩ else ⟨t.kind, t.n, t.name, []⟩) else ⟨t.kind, 0, [], t.kids.map (renM fr to d)⟩
/-- A row of kids that is being laid. -/
structure Made (w wr : World) (M n i : Nat) (ts : List Tr) : Prop where
  low : w.heap.size ≤ M
  lt : M < wr.heap.size
  cells : ∀ j, j < n * 4 → ∃ v, wr.cell? ⟨M, j, none⟩ = some v
  free : ∀ j, wr.frozen? ⟨M, j, none⟩ = false
  kids : ∀ j, j < i → ∃ u0 u1 u2 u3, wr.cell? ⟨M, j * 4, none⟩ = some u0 ∧ wr.cell? ⟨M, j * 4 + 1, none⟩ = some u1 ∧ wr.cell? ⟨M, j * 4 + 2, none⟩ = some u2 ∧ wr.cell? ⟨M, j * 4 + 3, none⟩ = some u3 ∧ Tre wr (fun g => w.heap.size ≤ g ∧ g ≠ M) (.agg #[u0, u1, u2, u3]) (ts.getD j zeroT)
theorem Made.below {w wr w' : World} {M n i : Nat} {ts : List Tr} (h : Made w wr M n i ts) (hb : Below wr.heap.size wr w') : Made w w' M n i ts := by
  refine ⟨h.low, Nat.lt_of_lt_of_le h.lt hb.size, fun j hj => ?_, fun j => (hb.frozen (p := ⟨M, j, none⟩) h.lt).trans (h.free j), fun j hj => ?_⟩
  · obtain ⟨v, hv⟩ := h.cells j hj
    exact ⟨v, (hb.cell (p := ⟨M, j, none⟩) h.lt).trans hv⟩
  · obtain ⟨u0, u1, u2, u3, h0, h1, h2, h3, ht⟩ := h.kids j hj
    exact ⟨u0, u1, u2, u3, (hb.cell (p := ⟨M, _, none⟩) h.lt).trans h0, (hb.cell (p := ⟨M, _, none⟩) h.lt).trans h1, (hb.cell (p := ⟨M, _, none⟩) h.lt).trans h2, (hb.cell (p := ⟨M, _, none⟩) h.lt).trans h3, ht.below hb⟩
theorem cell_put {w : World} {M j k : Nat} {v u : Value} (h : w.cell? ⟨M, j, none⟩ = some u) : (w.setCell ⟨M, k, none⟩ v).cell? ⟨M, j, none⟩ = some (if k = j then v else u) := by
  by_cases e : k = j
  · subst e
    rw [if_pos rfl]
    exact World.cell?_setCell_same' _ _ _ (by rw [h]; rfl)
  · rw [if_neg e]
    have hne : (⟨M, k, none⟩ : Addr) ≠ ⟨M, j, none⟩ := by intro h; injection h with _ h _; exact e h
    exact (World.cell?_setCell_other w _ _ v hne).trans h
/-- Four cells are written. -/
theorem four_put {w : World} {M o : Nat} {u0 u1 u2 u3 : Value} (h : ∀ j, j < 4 → ∃ v, w.cell? ⟨M, o + j, none⟩ = some v) :
    ((((w.setCell ⟨M, o, none⟩ u0).setCell ⟨M, o + 1, none⟩ u1).setCell ⟨M, o + 2, none⟩ u2).setCell ⟨M, o + 3, none⟩ u3).cell? ⟨M, o, none⟩ = some u0 ∧
    ((((w.setCell ⟨M, o, none⟩ u0).setCell ⟨M, o + 1, none⟩ u1).setCell ⟨M, o + 2, none⟩ u2).setCell ⟨M, o + 3, none⟩ u3).cell? ⟨M, o + 1, none⟩ = some u1 ∧
    ((((w.setCell ⟨M, o, none⟩ u0).setCell ⟨M, o + 1, none⟩ u1).setCell ⟨M, o + 2, none⟩ u2).setCell ⟨M, o + 3, none⟩ u3).cell? ⟨M, o + 2, none⟩ = some u2 ∧
    ((((w.setCell ⟨M, o, none⟩ u0).setCell ⟨M, o + 1, none⟩ u1).setCell ⟨M, o + 2, none⟩ u2).setCell ⟨M, o + 3, none⟩ u3).cell? ⟨M, o + 3, none⟩ = some u3 := by
  obtain ⟨a0, h0⟩ := h 0 (by omega)
  obtain ⟨a1, h1⟩ := h 1 (by omega)
  obtain ⟨a2, h2⟩ := h 2 (by omega)
  obtain ⟨a3, h3⟩ := h 3 (by omega)
  rw [Nat.add_zero] at h0
  refine ⟨?_, ?_, ?_, ?_⟩
  · rw [cell_put (cell_put (cell_put (cell_put h0)))]; simp
  · rw [cell_put (cell_put (cell_put (cell_put h1)))]; simp
  · rw [cell_put (cell_put (cell_put (cell_put h2)))]; simp
  · rw [cell_put (cell_put (cell_put (cell_put h3)))]; simp
theorem four_other {w : World} {M o g : Nat} {u0 u1 u2 u3 : Value} (hg : g ≠ M) : ((((w.setCell ⟨M, o, none⟩ u0).setCell ⟨M, o + 1, none⟩ u1).setCell ⟨M, o + 2, none⟩ u2).setCell ⟨M, o + 3, none⟩ u3).heap[g]? = w.heap[g]? := by
  rw [Below.heap_setCell _ _ _ _ hg, Below.heap_setCell _ _ _ _ hg, Below.heap_setCell _ _ _ _ hg, Below.heap_setCell _ _ _ _ hg]
theorem four_size {w : World} {M o : Nat} {u0 u1 u2 u3 : Value} : ((((w.setCell ⟨M, o, none⟩ u0).setCell ⟨M, o + 1, none⟩ u1).setCell ⟨M, o + 2, none⟩ u2).setCell ⟨M, o + 3, none⟩ u3).heap.size = w.heap.size := by simp [World.setCell]
theorem Made.new {w w2 : World} {base M n : Nat} {xs : List Value} {ts : List Tr} (h : w2.ownsRow base 24 4 (.slice (some ⟨M, 0, none⟩) n n) n xs) (hM : w.heap.size ≤ M) : Made w w2 M n 0 ts := by
  refine ⟨hM, (World.ownsRow.lt h M rfl).2, fun j hj => ?_, fun j => World.ownsRow.frozenAt h j, fun j hj => absurd hj (by omega)⟩
  have hl := h.1
  rw [World.ownsRow.cellAt h j (by omega)]
  exact ⟨_, List.getElem?_eq_getElem (by omega)⟩
theorem tre_depth {w : World} {P : Nat → Prop} {v : Nat → Value → Prop} {ts : List Tr} : ∀ n, (∀ i, i < n → ∃ u, v i u ∧ Tre w P u (ts.getD i zeroT)) → ∃ d, ∀ i, i < n → ∃ u, v i u ∧ TrV w P d u (ts.getD i zeroT)
  | 0, _ => ⟨0, fun i hi => by omega⟩
  | n + 1, h => by
    obtain ⟨d, hd⟩ := tre_depth n (fun i hi => h i (by omega))
    obtain ⟨u, hu, e, he⟩ := h n (by omega)
    refine ⟨max d e, fun i hi => ?_⟩
    rcases Nat.lt_succ_iff_lt_or_eq.1 hi with hi | rfl
    · obtain ⟨x, hx, hx2⟩ := hd i hi
      exact ⟨x, hx, hx2.mono (Nat.le_max_left _ _)⟩
    · exact ⟨u, hu, he.mono (Nat.le_max_right _ _)⟩
theorem Made.done {w wr : World} {M n : Nat} {ts : List Tr} (h : Made w wr M n n ts) (hn : ts.length = n) (hl : n ≤ 9223372036854775807) {k : Int} (hk : InR k) : Tre wr (fun g => w.heap.size ≤ g) (.agg #[.int .i64 k, .int .i64 0, .string ⟨#[]⟩, .slice (some ⟨M, 0, none⟩) n n]) ⟨k, 0, [], ts⟩ := by
  obtain ⟨d, hd⟩ := tre_depth (w := wr) (P := fun g => w.heap.size ≤ g) (ts := ts) (v := fun i u => ∃ u0 u1 u2 u3, u = .agg #[u0, u1, u2, u3] ∧ wr.cell? ⟨M, i * 4, none⟩ = some u0 ∧ wr.cell? ⟨M, i * 4 + 1, none⟩ = some u1 ∧ wr.cell? ⟨M, i * 4 + 2, none⟩ = some u2 ∧ wr.cell? ⟨M, i * 4 + 3, none⟩ = some u3) n (fun i hi => by
    obtain ⟨u0, u1, u2, u3, h0, h1, h2, h3, ht⟩ := h.kids i hi
    exact ⟨_, ⟨u0, u1, u2, u3, rfl, h0, h1, h2, h3⟩, ht.sub fun g hg => hg.1⟩)
  subst hn
  refine ⟨d + 1, some ⟨M, 0, none⟩, ts.length, rfl, Nat.le_refl _, hk, inR_zero, (by show (0 : Nat) ≤ _; decide), hl, fun i hi => ?_⟩
  obtain ⟨u, ⟨u0, u1, u2, u3, rfl, h0, h1, h2, h3⟩, ht⟩ := hd i hi
  exact ⟨M, 0, u0, u1, u2, u3, rfl, h.low, by rw [Nat.zero_add]; exact h0, by rw [Nat.zero_add]; exact h1, by rw [Nat.zero_add]; exact h2, by rw [Nat.zero_add]; exact h3, ht⟩
end
section
open Go.RowKit
set_option linter.unusedVariables false
theorem Cell4.four {w : World} {M o b : Nat} {u0 u1 u2 u3 v0 v1 v2 v3 : Value} (h : Cell4 w b v0 v1 v2 v3) (hb : b ≠ M) : Cell4 ((((w.setCell ⟨M, o, none⟩ u0).setCell ⟨M, o + 1, none⟩ u1).setCell ⟨M, o + 2, none⟩ u2).setCell ⟨M, o + 3, none⟩ u3) b v0 v1 v2 v3 := by
  have e := four_other (w := w) (M := M) (o := o) (u0 := u0) (u1 := u1) (u2 := u2) (u3 := u3) hb
  have hc : ∀ j, ((((w.setCell ⟨M, o, none⟩ u0).setCell ⟨M, o + 1, none⟩ u1).setCell ⟨M, o + 2, none⟩ u2).setCell ⟨M, o + 3, none⟩ u3).cell? ⟨b, j, none⟩ = w.cell? ⟨b, j, none⟩ := fun j => by simp only [World.cell?]; rw [e]
  exact ⟨(hc _).trans h.c0, (hc _).trans h.c1, (hc _).trans h.c2, (hc _).trans h.c3, fun i => by simp only [World.frozen?_setCell]; exact h.free i⟩
theorem below_four {B : Nat} {a w : World} {M o : Nat} {u0 u1 u2 u3 : Value} (h : Below B a w) (hM : B ≤ M) : Below B a ((((w.setCell ⟨M, o, none⟩ u0).setCell ⟨M, o + 1, none⟩ u1).setCell ⟨M, o + 2, none⟩ u2).setCell ⟨M, o + 3, none⟩ u3) :=
  (((h.setCell (p := ⟨M, o, none⟩) hM _).setCell (p := ⟨M, o + 1, none⟩) hM _).setCell (p := ⟨M, o + 2, none⟩) hM _).setCell (p := ⟨M, o + 3, none⟩) hM _
/-- A tree that was made. -/
def RPost (w : World) (t : Tr) (e : Ending) (w' : World) : Prop := ∃ k n s a l c, e = .returned (.agg #[.int .i64 k, .int .i64 n, .string s, .slice a l c]) ∧ Tre w' (fun g => w.heap.size ≤ g) (.agg #[.int .i64 k, .int .i64 n, .string s, .slice a l c]) t ∧ Below w.heap.size w w'
theorem infoE : (Try.prog.info? 24).map (fun i => (i.zero, i.size, i.bytes)) = some (some (.agg #[.int .i64 0, .int .i64 0, .string ⟨#[]⟩, .slice none 0 0]), 4, 56) := by kernel_rfl
theorem two_blocks (w : World) (x0 x1 x2 x3 : Value) : Cell4 ((w.alloc (.cells #[x0, x1, x2, x3] 24)).alloc (.cells #[.int .i64 0, .int .i64 0, .string ⟨#[]⟩, .slice none 0 0] 24)) w.heap.size x0 x1 x2 x3 ∧ Cell4 ((w.alloc (.cells #[x0, x1, x2, x3] 24)).alloc (.cells #[.int .i64 0, .int .i64 0, .string ⟨#[]⟩, .slice none 0 0] 24)) (w.heap.size + 1) (.int .i64 0) (.int .i64 0) (.string ⟨#[]⟩) (.slice none 0 0) ∧ Below w.heap.size w ((w.alloc (.cells #[x0, x1, x2, x3] 24)).alloc (.cells #[.int .i64 0, .int .i64 0, .string ⟨#[]⟩, .slice none 0 0] 24)) := by
  refine ⟨(Cell4.new w _ _ _ _ 24).alloc _, ?_, ((Below.refl _ _).alloc (Nat.le_refl _) _).alloc (le_alloc _ _) _⟩
  have := Cell4.new (w.alloc (.cells #[x0, x1, x2, x3] 24)) (.int .i64 0) (.int .i64 0) (.string ⟨#[]⟩) (.slice none 0 0) 24
  rw [size_alloc] at this
  exact this
theorem name_short {d : Nat} {t : Tr} (h : checkM (d + 1) t = 0) : t.name.length ≤ 32 := by
  have hs := shape h
  by_cases e : t.kind = 2
  · have hf := (check_fits h).1
    unfold fitsM at hf
    simp only [if_pos e] at hf
    have h1 : nameOk t.name = true := by
      split at hf
      · cases hf
      · split at hf
        · cases hf
        · simp only [Bool.and_eq_true] at hf
          exact hf.1.1
    unfold nameOk at h1
    split at h1
    · cases h1
    · rename_i c r hcr
      simp only [Bool.and_eq_true, decide_eq_true_eq] at h1
      rw [hcr]; exact h1.2
  · rw [hs.name e]; exact Nat.zero_le _
theorem ba_size (l : Bs) : (ba l).size = l.length := by simp [ba, ByteArray.size]
theorem Cell4.far {w : World} {b : Nat} {v0 v1 v2 v3 : Value} (h : Cell4 w b v0 v1 v2 v3) {p : Addr} (hp : b ≠ p.block) (x : Value) : Cell4 (w.setCell p x) b v0 v1 v2 v3 := by
  have e := Below.heap_setCell w p x b hp
  have hc : ∀ j, (w.setCell p x).cell? ⟨b, j, none⟩ = w.cell? ⟨b, j, none⟩ := fun j => by simp only [World.cell?]; rw [e]
  exact ⟨(hc _).trans h.c0, (hc _).trans h.c1, (hc _).trans h.c2, (hc _).trans h.c3, fun i => by simp only [World.frozen?_setCell]; exact h.free i⟩
theorem two_next {w w4 : World} {x0 x1 x2 x3 : Value} (HB : Below ((w.alloc (.cells #[x0, x1, x2, x3] 24)).alloc (.cells #[.int .i64 0, .int .i64 0, .string ⟨#[]⟩, .slice none 0 0] 24)).heap.size ((w.alloc (.cells #[x0, x1, x2, x3] 24)).alloc (.cells #[.int .i64 0, .int .i64 0, .string ⟨#[]⟩, .slice none 0 0] 24)) w4) : Cell4 w4 w.heap.size x0 x1 x2 x3 ∧ Cell4 w4 (w.heap.size + 1) (.int .i64 0) (.int .i64 0) (.string ⟨#[]⟩) (.slice none 0 0) ∧ Below w.heap.size w w4 := by
  obtain ⟨h1, h2, h3⟩ := two_blocks w x0 x1 x2 x3
  exact ⟨h1.below HB, h2.below HB, h3.trans (HB.mono h3.size)⟩
def renameM (fr to : Bs) (t : Tr) : Tr × Nat := if checkM 16 t ≠ 0 then (zeroT, checkM 16 t) else if checkM 16 ⟨2, 0, to, []⟩ ≠ 0 then (zeroT, checkM 16 ⟨2, 0, to, []⟩) else (renM fr to 16 t, 0)
/-- A tree that was made, and an error. -/
def NPost (w : World) (t : Tr) (x : Nat) (e : Ending) (w' : World) : Prop := ∃ k n s a l c, e = .returned (.tuple #[.agg #[.int .i64 k, .int .i64 n, .string s, .slice a l c], .int .i64 x]) ∧ Tre w' (fun g => w.heap.size ≤ g) (.agg #[.int .i64 k, .int .i64 n, .string s, .slice a l c]) t ∧ Below w.heap.size w w'
theorem zero_tre (w : World) (P : Nat → Prop) : Tre w P (.agg #[.int .i64 0, .int .i64 0, .string ⟨#[]⟩, .slice none 0 0]) zeroT := Tre.leaf w P inR_zero inR_zero [] (by decide)
end
end Go.Proofs.Ytfjphlejhcdbaaa
