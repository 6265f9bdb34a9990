/-
  The document's files over an act on the disk; the same names, the same lengths.
-/
import Derived.Test.YtcmnjiichkcmgaaRel
namespace Go.Proofs.Ytcmnjiichkcmgaa
open Go.RowKit Go.Maps Go.Sort
set_option linter.unusedVariables false
variable {fp : Nat → Prop}

theorem nameS_nk (f : Fl) : nameS (nk f) = f.name := key_inj (key_nameS (nk f))
theorem Rel.loose {fs : List Fl} {F : Tab} (h : Rel fs F) {i : Nat} (hi : i < fs.length) : (bytesOf F (key (fs.getD i noFl).name)).length - syncOf F (key (fs.getD i noFl).name) = (fs.getD i noFl).loose.length := by
  have := h.vals _ (getD_memF hi)
  unfold nk at this
  unfold bytesOf syncOf
  rw [this]
  simp

theorem ReadsF.kept {w w' : World} {v : Value} {l : Row} (h : ReadsF fp w v l) (hT : Turned fp w w') : ReadsF (grow fp w w') w' v l := by
  obtain ⟨⟨a, cap, hv, h2, h3, h4, h5, h6⟩, ho⟩ := h
  by_cases hp : l = []
  · exact ⟨⟨a, cap, hv, h2, h3, h4, h5, .inl hp⟩, .inl hp⟩
  rcases h6 with h0 | ⟨b, off, rfl, hc⟩
  · exact absurd h0 hp
  have hnb : ¬ fp b := by
    rcases ho with h0 | ⟨b2, off2, n2, c2, e2, hnb⟩
    · exact absurd h0 hp
    · rw [hv] at e2
      cases e2
      exact hnb
  have hb : b < w.heap.size := World.block_lt_of_cell? w _ (hc 0 (List.length_pos_iff.2 hp))
  have hcell : ∀ i, w'.cell? ⟨b, i, none⟩ = w.cell? ⟨b, i, none⟩ := fun i => World.cell?_of_block (a := ⟨b, i, none⟩) (hT.block b hb hnb)
  refine ⟨⟨_, cap, hv, h2, h3, h4, h5, .inr ⟨b, off, rfl, fun i hi => (hcell _).trans (hc i hi)⟩⟩, .inr ⟨b, off, _, cap, hv, fun h => h.elim hnb (fun h => by omega)⟩⟩
theorem FilesV.kept {w w' : World} {v : Value} {fs : List Fl} (h : FilesV fp w v fs) (hT : Turned fp w w') : FilesV (grow fp w w') w' v fs := by
  obtain ⟨a, cap, h1, h3, h4⟩ := h
  refine ⟨a, cap, h1, h3, ?_⟩
  rcases h4 with h | ⟨b, off, ha, hnb, hc⟩
  · exact .inl h
  · by_cases h0 : fs = []
    · exact .inl h0
    have hb : b < w.heap.size := World.block_lt_of_cell? w _ (hc 0 (List.length_pos_iff.2 h0)).c0
    have hcell : ∀ i, w'.cell? ⟨b, i, none⟩ = w.cell? ⟨b, i, none⟩ := fun i => World.cell?_of_block (a := ⟨b, i, none⟩) (hT.block b hb hnb)
    refine .inr ⟨b, off, ha, fun h => h.elim hnb (fun h => by omega), fun i hi => ?_⟩
    obtain ⟨c0, fa, fc, la, lc, c1, c2, r1, r2⟩ := hc i hi
    exact ⟨(hcell _).trans c0, fa, fc, la, lc, (hcell _).trans c1, (hcell _).trans c2, r1.kept hT, r2.kept hT⟩

end Go.Proofs.Ytcmnjiichkcmgaa
