/-
  Layer 12: numbers that came in; the game's box.
-/
import Derived.Test.YtlaiacjlphjmlaaGmC
import Derived.Test.YtlaiacjlphjmlaaCkZ
namespace Go.Proofs.Ytlaiacjlphjmlaa
open Go.RowKit Go.ChangeShapes Go.WideShapes
set_option linter.unusedVariables false

/-- Numbers that came in. -/
structure IzV (w : World) (a : Option Addr) (n c : Nat) : Prop where
  cap1 : n ≤ c
  cap2 : c ≤ 9223372036854775807
  at_ : ∀ i, i < n → ∃ b o z, a = some ⟨b, o, none⟩ ∧ w.cell? ⟨b, o + i, none⟩ = some (.int .i64 z) ∧ InR z
theorem IzV.below {w w' : World} {a : Option Addr} {n c : Nat} (h : IzV w a n c) (hb : Below w.heap.size w w') : IzV w' a n c := ⟨h.cap1, h.cap2, fun i hi => by
  obtain ⟨b, o, z, h1, h2, h3⟩ := h.at_ i hi
  exact ⟨b, o, z, h1, (cell_kept (hb.block b (World.block_lt_of_cell? _ _ h2)) _).trans h2, h3⟩⟩
section
variable {H : Type} {enc : TypeId × Value → H} {w : World}
theorem ints_of_Trod {v : Value} {d : DataW H} {p : List MemPlace} (h : DataW.Trod enc Try.prog w 0 (fun _ => true) true 27 v d p) (hv : ∃ a n c, v = .slice a n c) : ∃ a n c, v = .slice a n c ∧ IzV w a n c := by
  obtain ⟨a, n, c, rfl⟩ := hv
  obtain ⟨fuel, hf⟩ := h
  refine ⟨a, n, c, rfl, ?_⟩
  rcases open_ints Try.underlying27 Try.underlying3 (by kernel_rfl) hf with ⟨hcs, _⟩ | ⟨x, l, cc, zs, hcs, _, hl, hm, hz, hx, hcell, hwz⟩
  · simp [Value.cells] at hcs
    obtain ⟨rfl, rfl, rfl⟩ := hcs
    exact ⟨Nat.le_refl _, by decide, fun i hi => absurd hi (Nat.not_lt_zero _)⟩
  · simp [Value.cells] at hcs
    obtain ⟨rfl, rfl, rfl⟩ := hcs
    refine ⟨hl, hm, fun i hi => ?_⟩
    have hz2 : zs.length = c := by simpa using hz
    have hc := hcell i (by omega)
    have hs : x.spot = none := by
      have := World.cell?_spot (hcell 0 (by omega))
      simpa [Addr.add] using this
    obtain ⟨b, o, sp⟩ := x
    simp only at hs
    subst hs
    rw [addW] at hc
    refine ⟨b, o, _, rfl, hc, in_of_wf (hwz _ ?_)⟩
    have hi2 : i < zs.length := by omega
    rw [List.getD_eq_getElem?_getD, List.getElem?_eq_getElem hi2]
    exact List.getElem_mem hi2
end
theorem pair_other {w : World} {M g : Nat} {u0 u1 : Value} (hg : g ≠ M) : ((w.setCell ⟨M, 0, none⟩ u0).setCell ⟨M, 1, none⟩ u1).heap[g]? = w.heap[g]? := by
  rw [Below.heap_setCell _ _ _ _ hg, Below.heap_setCell _ _ _ _ hg]
section
variable {w : World} {gb : Nat} {a0 : Option Addr} {n0 c0 : Nat} {v1 : Value}
theorem int_off (h : w.cell? ⟨gb, 0, none⟩ = some (.slice a0 n0 c0)) {g : Nat} {z : Int} (hz : w.cell? ⟨g, 0, none⟩ = some (.int .i64 z)) : g ≠ gb := by
  rintro rfl
  rw [h] at hz
  cases hz
theorem Iv.store (h : w.cell? ⟨gb, 0, none⟩ = some (.slice a0 n0 c0)) {v : Value} {l : List Nat} (hv : Iv w v l) (u0 u1 : Value) : Iv ((w.setCell ⟨gb, 0, none⟩ u0).setCell ⟨gb, 1, none⟩ u1) v l := by
  obtain ⟨a, c, rfl, h1, h2, h3⟩ := hv
  refine ⟨a, c, rfl, h1, h2, ?_⟩
  rcases h3 with h3 | ⟨g, rfl, q⟩
  · exact .inl h3
  · refine .inr ⟨g, rfl, fun j hj => ?_⟩
    have hg : g ≠ gb := int_off h (q 0 (by omega))
    exact (cell_kept (pair_other hg) _).trans (q j hj)
theorem GmV.store (h : w.cell? ⟨gb, 0, none⟩ = some (.slice a0 n0 c0)) {ta : Option Addr} {tn tc : Nat} {cv : Value} {g : Gm} (hg : GmV w ta tn tc cv g) (u0 u1 : Value) : GmV ((w.setCell ⟨gb, 0, none⟩ u0).setCell ⟨gb, 1, none⟩ u1) ta tn tc cv g := by
  refine ⟨hg.len, hg.cap1, hg.cap2, fun i hi => ?_, hg.came.store h u0 u1⟩
  obtain ⟨tb, v, h1, h2, h3, h4, h5⟩ := hg.tok i hi
  obtain ⟨tb2, _, k1, k2, _⟩ := hg.tok 0 (by omega)
  rw [h1] at k1
  injection k1 with k1; injection k1 with k1 _ _
  subst k1
  have hne : tb ≠ gb := int_off h k2
  exact ⟨tb, v, h1, (cell_kept (pair_other hne) _).trans h2, (cell_kept (pair_other hne) _).trans h3, h4.store h u0 u1, fun k hk => by rw [size_set, size_set]; exact h5 k hk⟩
end
/-- What FlowGame holds at hand. -/
structure Gl (w0 w : World) (ds : ByteArray) (a : Option Addr) (n c : Nat) (sb F D J gb : Nat) (ta : Option Addr) (tn tc : Nat) (ca : Option Addr) (cn cc : Nat) (s : Fs) (g : Gm) : Prop where
  b : Below w0.heap.size w0 w
  box : Cell2 w w0.heap.size (.string ds) (.slice a n c)
  cs : Cell3 w sb (.slice (some ⟨F, 0, none⟩) n n) (.slice (some ⟨D, 0, none⟩) n n) (.slice (some ⟨J, 0, none⟩) n n)
  dp : RowN w D s.dp
  gbx : Cell2 w gb (.slice ta tn tc) (.slice ca cn cc)
  gm : GmV w ta tn tc (.slice ca cn cc) g
  lo : w0.heap.size < gb
  ls : sb < gb
  pos : 0 < s.dp.length
section
variable {w0 w w' : World} {ds : ByteArray} {a : Option Addr} {n c : Nat} {sb F D J gb : Nat} {ta : Option Addr} {tn tc : Nat} {ca : Option Addr} {cn cc : Nat} {s : Fs} {g : Gm}
theorem Gl.below (h : Gl w0 w ds a n c sb F D J gb ta tn tc ca cn cc s g) (hb : Below w.heap.size w w') : Gl w0 w' ds a n c sb F D J gb ta tn tc ca cn cc s g :=
  ⟨h.b.trans (hb.mono h.b.size), h.box.below hb, h.cs.kept (hb.block _ h.cs.lt), h.dp.kept (hb.block _ (World.block_lt_of_cell? _ _ (h.dp.c 0 h.pos))), h.gbx.below hb, h.gm.below hb, h.lo, h.ls, h.pos⟩
theorem Gl.al (h : Gl w0 w ds a n c sb F D J gb ta tn tc ca cn cc s g) (o : Obj) : Gl w0 (w.alloc o) ds a n c sb F D J gb ta tn tc ca cn cc s g := h.below ((Below.refl _ _).alloc (Nat.le_refl _) o)
theorem Gl.drN (h : Gl w0 w ds a n c sb F D J gb ta tn tc ca cn cc s g) (k : Nat) : Gl w0 (w.drewN k) ds a n c sb F D J gb ta tn tc ca cn cc s g := h.below (below_drewN (Below.refl _ _) k)
/-- The game is put in its box. -/
theorem Gl.put (h : Gl w0 w ds a n c sb F D J gb ta tn tc ca cn cc s g) (hb : Below w.heap.size w w') {ta' : Option Addr} {tn' tc' : Nat} {ca' : Option Addr} {cn' cc' : Nat} {g' : Gm} (hg : GmV w' ta' tn' tc' (.slice ca' cn' cc') g') : Gl w0 ((w'.setCell ⟨gb, 0, none⟩ (.slice ta' tn' tc')).setCell ⟨gb, 1, none⟩ (.slice ca' cn' cc')) ds a n c sb F D J gb ta' tn' tc' ca' cn' cc' s g' := by
  have h' := h.below hb
  have hlo := h.lo
  have hls := h.ls
  have hz := h'.gbx.c0
  refine ⟨(h'.b.setCell (p := ⟨gb, 0, none⟩) (Nat.le_of_lt hlo) _).setCell (p := ⟨gb, 1, none⟩) (Nat.le_of_lt hlo) _, h'.box.kept (pair_other (by omega)), h'.cs.kept (pair_other (by omega)), h'.dp.kept (pair_other (int_off hz (h'.dp.c 0 h.pos))), ?_, hg.store hz _ _, hlo, hls, h.pos⟩
  obtain ⟨c0, c1, cf⟩ := h'.gbx
  exact ⟨cell_set (cell_set c0), cell_set (cell_set c1), fun i => by simp only [World.frozen?_setCell]; exact cf i⟩
end
theorem moveM_came (ps : List Pl) (s : Fs) (g : Gm) (k b : Nat) : (moveM ps s g k b).came.length ≤ g.came.length + 1 := by
  unfold moveM
  repeat' split
  all_goals simp
def MovesOk (w : World) (ds : ByteArray) (a : Option Addr) (n c : Nat) (ps : List Pl) (s : Fs) : Prop := ∀ (wx : World) (ta : Option Addr) (tn tc : Nat) (ca : Option Addr) (cn cc : Nat) (g : Gm) (k b : Nat) (fo : Nat → Nat) (ou : Nat → List Nat), Below w.heap.size w wx → GmV wx ta tn tc (.slice ca cn cc) g → Ginv ps n s g fo ou → k < g.toks.length → b < 16 → g.toks.length ≤ 1000 → g.came.length ≤ 1000 → Calls Try.prog 11 #[.agg #[.string ds, .slice a n c], .agg #[.slice ta tn tc, .slice ca cn cc], .int .i64 (k : Nat), .int .i64 (b : Nat)] wx fun e w' => ∃ ta tn tc ca cn cc, e = .returned (.agg #[.slice ta tn tc, .slice ca cn cc]) ∧ GmV w' ta tn tc (.slice ca cn cc) (moveM ps s g k b) ∧ Below wx.heap.size wx w'
end Go.Proofs.Ytlaiacjlphjmlaa
