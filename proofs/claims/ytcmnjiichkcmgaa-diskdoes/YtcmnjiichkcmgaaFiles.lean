/-
  The document's files: rows of them, as lists; rows that a call makes.
-/
import Derived.Test.YtcmnjiichkcmgaaTwice
import Derived.BigQuiet
namespace Go.Proofs.Ytcmnjiichkcmgaa
open Go.RowKit Go.Maps Go.Sort
set_option linter.unusedVariables false
variable {fp : Nat → Prop}

abbrev Row := List (BitVec 8)
/-- A file, as the document has it. -/
structure Fl where
  name : ByteArray
  firm : Row
  loose : Row
def noFl : Fl := ⟨ByteArray.empty, [], []⟩

/-- Bytes that lie in no block that fp names. -/
def Off (fp : Nat → Prop) (x : Value) (l : Row) : Prop := l = [] ∨ ∃ b off n c, x = .slice (some ⟨b, off, none⟩) n c ∧ ¬ fp b
def ReadsF (fp : Nat → Prop) (w : World) (x : Value) (l : Row) : Prop := ReadsV w x l ∧ Off fp x l
theorem ReadsF.below {w w' : World} {x : Value} {l : Row} (h : ReadsF fp w x l) (hb : Below w.heap.size w w') : ReadsF fp w' x l := ⟨h.1.below hb, h.2⟩
theorem ReadsF.nil (w : World) : ReadsF fp w (.slice none 0 0) [] := ⟨ReadsV.nil _, .inl rfl⟩
theorem ReadsF.of_own {w : World} {base : Nat} {x : Value} {l : Row} (h : Owns w base x l) (hfp : ∀ g, fp g → g < base) : ReadsF fp w x l := by
  refine ⟨ReadsV.of_own h, ?_⟩
  rcases h.2 with ⟨_, h0⟩ | ⟨g, cap, cur, hv2, hb, _⟩
  · exact .inl (List.length_eq_zero_iff.1 h0)
  · exact .inr ⟨g, 0, _, cap, hv2, fun e => by have := hfp g e; omega⟩
/-- What lies at a file's three cells. -/
structure FlAt (fp : Nat → Prop) (w : World) (b off : Nat) (f : Fl) : Prop where
  c0 : w.cell? ⟨b, off, none⟩ = some (.string f.name)
  ex : ∃ fa fc la lc, w.cell? ⟨b, off + 1, none⟩ = some (.slice fa f.firm.length fc) ∧ w.cell? ⟨b, off + 2, none⟩ = some (.slice la f.loose.length lc) ∧ ReadsF fp w (.slice fa f.firm.length fc) f.firm ∧ ReadsF fp w (.slice la f.loose.length lc) f.loose
theorem FlAt.below {w w' : World} {b off : Nat} {f : Fl} (h : FlAt fp w b off f) (hb : Below w.heap.size w w') : FlAt fp w' b off f := by
  have hlt : b < w.heap.size := World.block_lt_of_cell? w _ h.c0
  obtain ⟨fa, fc, la, lc, h1, h2, h3, h4⟩ := h.ex
  exact ⟨(hb.cell (p := ⟨b, off, none⟩) hlt).trans h.c0, fa, fc, la, lc, (hb.cell (p := ⟨b, off + 1, none⟩) hlt).trans h1, (hb.cell (p := ⟨b, off + 2, none⟩) hlt).trans h2, h3.below hb, h4.below hb⟩

/-- A slice of files that reads as fs. -/
def FilesV (fp : Nat → Prop) (w : World) (v : Value) (fs : List Fl) : Prop :=
  ∃ a cap, v = .slice a fs.length cap ∧ fs.length ≤ maxLen ∧ (fs = [] ∨ ∃ b off, a = some ⟨b, off, none⟩ ∧ ¬ fp b ∧ ∀ i, i < fs.length → FlAt fp w b (off + i * 3) (fs.getD i noFl))
theorem FilesV.nil (w : World) : FilesV fp w (.slice none 0 0) [] := ⟨none, 0, rfl, by decide, .inl rfl⟩
theorem FilesV.below {w w' : World} {v : Value} {fs : List Fl} (h : FilesV fp w v fs) (hb : Below w.heap.size w w') : FilesV fp w' v fs := by
  obtain ⟨a, cap, h1, h3, h4⟩ := h
  refine ⟨a, cap, h1, h3, ?_⟩
  rcases h4 with h | ⟨b, off, ha, hnb, hc⟩
  · exact .inl h
  · exact .inr ⟨b, off, ha, hnb, fun i hi => (hc i hi).below hb⟩
theorem FilesV.cells {w : World} {a : Option Addr} {n c : Nat} {fs : List Fl} (h : FilesV fp w (.slice a n c) fs) (hp : 0 < n) : ∃ b off, a = some ⟨b, off, none⟩ ∧ ∀ i, i < n → FlAt fp w b (off + i * 3) (fs.getD i noFl) := by
  obtain ⟨a', c', hv, _, hr⟩ := h
  simp only [Value.slice.injEq] at hv
  obtain ⟨rfl, hl, rfl⟩ := hv
  rcases hr with h0 | ⟨b, off, ha, _, hc⟩
  · subst h0; simp at hl; omega
  · exact ⟨b, off, ha, fun i hi => hc i (by omega)⟩
theorem FilesV.len {w : World} {a : Option Addr} {n c : Nat} {fs : List Fl} (h : FilesV fp w (.slice a n c) fs) : fs.length = n := by
  obtain ⟨a', c', hv, _, _⟩ := h
  simp only [Value.slice.injEq] at hv
  exact hv.2.1.symm

/-- A file's value. -/
structure FV where
  name : ByteArray
  vf : Value
  vl : Value
def noFV : FV := ⟨ByteArray.empty, .slice none 0 0, .slice none 0 0⟩
def flat : List FV → List Value
  | [] => []
  | x :: r => .string x.name :: x.vf :: x.vl :: flat r
theorem flat_len (l : List FV) : (flat l).length = l.length * 3 := by
  induction l with
  | nil => rfl
  | cons x r ih => simp [flat, ih]; omega
theorem flat_append (l m : List FV) : flat (l ++ m) = flat l ++ flat m := by
  induction l with
  | nil => rfl
  | cons x r ih => simp [flat, ih]
theorem flat_at (l : List FV) {i : Nat} (h : i < l.length) : (flat l)[i * 3]? = some (.string (l.getD i noFV).name) ∧ (flat l)[i * 3 + 1]? = some (l.getD i noFV).vf ∧ (flat l)[i * 3 + 2]? = some (l.getD i noFV).vl := by
  induction l generalizing i with
  | nil => simp at h
  | cons x r ih =>
    cases i with
    | zero => simp [flat]
    | succ i =>
      have := ih (i := i) (by simpa using h)
      rw [show (i + 1) * 3 = i * 3 + 3 by omega]
      simpa [flat] using this

/-- Bytes that are read, and lie elsewhere than in v's own block. -/
def Safe (fp : Nat → Prop) (w : World) (v x : Value) (l : Row) : Prop := ReadsV w x l ∧ (l = [] ∨ ∃ b off n c, x = .slice (some ⟨b, off, none⟩) n c ∧ v.ownBlock ≠ some b ∧ ¬ fp b)
theorem ReadsV.stays {w w' : World} {b off n c : Nat} {l : Row} (h : ReadsV w (.slice (some ⟨b, off, none⟩) n c) l) (hb : w'.heap[b]? = w.heap[b]?) : ReadsV w' (.slice (some ⟨b, off, none⟩) n c) l := by
  obtain ⟨a', c', hv, h1, h2, h3, hm, hr⟩ := h
  simp only [Value.slice.injEq] at hv
  obtain ⟨rfl, rfl, rfl⟩ := hv
  refine ⟨_, c, rfl, h1, h2, h3, hm, ?_⟩
  rcases hr with hr | ⟨b', off', e, hc⟩
  · exact .inl hr
  · cases e
    exact .inr ⟨b, off, rfl, fun i hi => (World.cell?_of_block (a := ⟨b, off + i, none⟩) hb).trans (hc i hi)⟩
theorem ReadsV.empty {w w' : World} {x : Value} (h : ReadsV w x []) : ReadsV w' x [] := by
  obtain ⟨a', c', hv, h1, h2, h3, hm, hr⟩ := h
  exact ⟨a', c', hv, h1, h2, h3, hm, .inl rfl⟩
theorem Safe.below {w w' : World} {v x : Value} {l : Row} (h : Safe fp w v x l) (hb : Below w.heap.size w w') : Safe fp w' v x l := ⟨h.1.below hb, h.2⟩
theorem Safe.step {w w' : World} {v v' x : Value} {l : Row} (h : Safe fp w v x l) (hg : w.grownBy w' v.ownBlock) (hl : v'.ownBlock = v.ownBlock ∨ v'.ownBlock = some w.heap.size) : Safe fp w' v' x l := by
  obtain ⟨hr, h2⟩ := h
  rcases h2 with rfl | ⟨b, off, n, c, rfl, hne, hnb⟩
  · exact ⟨hr.empty, .inl rfl⟩
  · by_cases hp : l = []
    · subst hp; exact ⟨hr.empty, .inl rfl⟩
    · have hlen : l.length = n := by
        obtain ⟨_, _, hv, _⟩ := hr
        simp only [Value.slice.injEq] at hv
        exact hv.2.1.symm
      have hpos : 0 < n := by
        rw [← hlen]; exact List.length_pos_iff.2 hp
      obtain ⟨b', off', e, hlt, _⟩ := cells_of hr hpos
      cases e
      refine ⟨hr.stays (hg.block b hlt (fun e => hne e.symm)), .inr ⟨b, off, n, c, rfl, ?_, hnb⟩⟩
      rcases hl with hl | hl
      · rw [hl]; exact hne
      · rw [hl]; intro e; simp at e; omega
/-- What was read before v's block was made. -/
theorem Safe.old {w0 w : World} {v x : Value} {l : Row} (h : ReadsF fp w0 x l) (hb : Below w0.heap.size w0 w) (hv : ∀ g, v.ownBlock = some g → w0.heap.size ≤ g) : Safe fp w v x l := by
  refine ⟨h.1.below hb, ?_⟩
  by_cases hp : l = []
  · exact .inl hp
  · rcases h.2 with h0 | ⟨b2, off2, n2, c2, e2, hnb⟩
    · exact absurd h0 hp
    subst e2
    have hpos : 0 < n2 := by
      obtain ⟨_, _, hv2, _⟩ := h.1
      simp only [Value.slice.injEq] at hv2
      rw [hv2.2.1]; exact List.length_pos_iff.2 hp
    obtain ⟨b, off, e, hlt, _⟩ := cells_of h.1 hpos
    cases e
    refine .inr ⟨b2, off2, _, c2, rfl, fun e => ?_, hnb⟩
    have := hv b2 e
    omega
/-- What is made behind v's block. -/
theorem Safe.new {w w1 : World} {v x : Value} {l : Row} (h : Owns w1 w.heap.size x l) (hv : ∀ g, v.ownBlock = some g → g < w.heap.size) (hfp : ∀ g, fp g → g < w.heap.size) : Safe fp w1 v x l := by
  refine ⟨ReadsV.of_own h, ?_⟩
  rcases h.2 with ⟨_, h0⟩ | ⟨g, cap, cur, hv2, hb, _⟩
  · exact .inl (List.length_eq_zero_iff.1 h0)
  · exact .inr ⟨g, 0, _, cap, hv2, fun e => by have := hv g e; omega, fun e => by have := hfp g e; omega⟩

theorem Safe.readsF {w : World} {v x : Value} {l : Row} (h : Safe fp w v x l) : ReadsF fp w x l := by
  refine ⟨h.1, ?_⟩
  rcases h.2 with h0 | ⟨b, off, n, c, e, _, hnb⟩
  · exact .inl h0
  · exact .inr ⟨b, off, n, c, e, hnb⟩

/-- A row of files that the call makes. -/
structure Outs (fp : Nat → Prop) (w wr : World) (v : Value) (vals : List FV) (gs : List Fl) : Prop where
  own : wr.ownsRow w.heap.size 58 3 v vals.length (flat vals)
  len : vals.length = gs.length
  rd : ∀ i, i < gs.length → (vals.getD i noFV).name = (gs.getD i noFl).name ∧ Safe fp wr v (vals.getD i noFV).vf (gs.getD i noFl).firm ∧ Safe fp wr v (vals.getD i noFV).vl (gs.getD i noFl).loose
  bel : Below w.heap.size w wr
  off : ∀ g, fp g → g < w.heap.size

theorem Outs.start (w : World) (hfp : ∀ g, fp g → g < w.heap.size) : Outs fp w w (.slice none 0 0) [] [] := ⟨World.ownsRow_nil _ _ _ _, rfl, fun i hi => by simp at hi, Below.refl _ _, hfp⟩
theorem Outs.moved {w wr w' : World} {v : Value} {vals : List FV} {gs : List Fl} (h : Outs fp w wr v vals gs) (hb : Below wr.heap.size wr w') : Outs fp w w' v vals gs := by
  refine ⟨?_, h.len, fun i hi => ⟨(h.rd i hi).1, (h.rd i hi).2.1.below hb, (h.rd i hi).2.2.below hb⟩, h.bel.trans (hb.mono h.bel.size), h.off⟩
  refine ⟨h.own.1, ?_⟩
  rcases h.own.2 with hn | ⟨g, cap, cur, hv, hg, hh, rest⟩
  · exact .inl hn
  · exact .inr ⟨g, cap, cur, hv, hg, (hb.block g (Array.getElem?_eq_some_iff.1 hh).1).trans hh, rest⟩
theorem Outs.ge {w wr : World} {v : Value} {vals : List FV} {gs : List Fl} (h : Outs fp w wr v vals gs) : ∀ g, v.ownBlock = some g → w.heap.size ≤ g ∧ g < wr.heap.size := fun g e => World.ownsRow.lt h.own g e
/-- 'out = append(out, f)'. -/
theorem Outs.add {w wr w' : World} {v v' : Value} {vals : List FV} {gs : List Fl} {x : FV} {f : Fl} (h : Outs fp w wr v vals gs) (hn : x.name = f.name) (h1 : Safe fp wr v x.vf f.firm) (h2 : Safe fp wr v x.vl f.loose)
    (ho : w'.ownsRow w.heap.size 58 3 v' (vals.length + 1) (flat vals ++ flat [x])) (hg : wr.grownBy w' v.ownBlock) (hl : v'.ownBlock = v.ownBlock ∨ v'.ownBlock = some wr.heap.size) : Outs fp w w' v' (vals ++ [x]) (gs ++ [f]) := by
  refine ⟨by rw [flat_append, List.length_append]; exact ho, by simp [h.len], ?_, h.bel.grown hg h.bel.size (fun g e => (h.ge g e).1), h.off⟩
  intro i hi
  rw [List.length_append] at hi
  by_cases hi2 : i < gs.length
  · have e1 : (vals ++ [x]).getD i noFV = vals.getD i noFV := by simp [List.getD, List.getElem?_append_left (show i < vals.length by rw [h.len]; exact hi2)]
    have e2 : (gs ++ [f]).getD i noFl = gs.getD i noFl := by simp [List.getD, List.getElem?_append_left hi2]
    rw [e1, e2]
    obtain ⟨k1, k2, k3⟩ := h.rd i hi2
    exact ⟨k1, k2.step hg hl, k3.step hg hl⟩
  · have hi3 : i = gs.length := by simp at hi; omega
    have e1 : (vals ++ [x]).getD i noFV = x := by rw [hi3, ← h.len]; simp [List.getD]
    have e2 : (gs ++ [f]).getD i noFl = f := by subst hi3; simp [List.getD]
    rw [e1, e2]
    exact ⟨hn, h1.step hg hl, h2.step hg hl⟩
theorem Outs.files {w wr : World} {v : Value} {vals : List FV} {gs : List Fl} (h : Outs fp w wr v vals gs) : FilesV fp wr v gs := by
  have hh := h.own
  rcases h.own.2 with ⟨rfl, h0⟩ | ⟨g, cap, cur, rfl, _, _, hnc, hcm, _, _⟩
  · have : gs = [] := List.length_eq_zero_iff.1 (by rw [← h.len]; exact h0)
    subst this
    exact FilesV.nil wr
  · have hng : ¬ fp g := fun e => by have h1 := h.off g e; have h2 := (h.ge g rfl).1; omega
    refine ⟨some ⟨g, 0, none⟩, cap, by rw [h.len], by rw [← h.len]; omega, .inr ⟨g, 0, rfl, hng, fun i hi => ?_⟩⟩
    have hi' : i < vals.length := by rw [h.len]; exact hi
    obtain ⟨f0, f1, f2⟩ := flat_at vals hi'
    obtain ⟨k1, k2, k3⟩ := h.rd i hi
    obtain ⟨fa, fc, e1, _⟩ := id k2.1
    obtain ⟨la, lc, e2, _⟩ := id k3.1
    rw [Nat.zero_add]
    refine ⟨?_, fa, fc, la, lc, ?_, ?_, ?_, ?_⟩
    · rw [hh.cellAt (i * 3) (by omega), f0, k1]
    · rw [hh.cellAt (i * 3 + 1) (by omega), f1, e1]
    · rw [hh.cellAt (i * 3 + 2) (by omega), f2, e2]
    · rw [← e1]; exact k2.readsF
    · rw [← e2]; exact k3.readsF

theorem cell_three_new (w : World) (a b c : Value) (e : TypeId) : ∀ j u, [a, b, c][j]? = some u → (w.alloc (.cells #[a, b, c] e)).cell? ((⟨w.heap.size, 0, none⟩ : Addr).add j) = some u := by
  intro j u hj
  rw [add_plain, Nat.zero_add, cell_of_row _ w.heap.size j _ e (0, 0) (heap_alloc_new w _)]
  match j, hj with
  | 0, hj | 1, hj | 2, hj => simpa using hj

theorem info58 : (Try.prog.info? 58).map (fun i => (i.zero, i.size, i.bytes)) = some (some (.agg #[.string ByteArray.empty, .slice none 0 0, .slice none 0 0]), 3, 64) := by kernel_rfl

end Go.Proofs.Ytcmnjiichkcmgaa
