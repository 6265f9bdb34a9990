/-
  What came in: truths, numbers.
-/
import Derived.Test.YthjbnhdikoljdaaBas
import Derived.Deep.Slices
import Derived.SizedLaws
import Derived.SliceStrings
namespace Go.Proofs.Ythjbnhdikoljdaa
open Go.RowKit Go.ChangeShapes Go.WideShapes
set_option linter.unusedVariables false

theorem in_of_wf {n : Int} (h : (Lit.int .i64 n).wf = true) : InR n := by
  have := bounds_i64 h
  exact ⟨by omega, by omega⟩
theorem addW (b o i : Nat) : (⟨b, o, none⟩ : Addr).add i = ⟨b, o + i, none⟩ := by unfold Addr.add; split <;> simp_all
theorem getD_range {α : Type} (n : Nat) (f : Nat → α) (i : Nat) (hi : i < n) : ((List.range n).map f)[i]? = some (f i) := by
  rw [List.getElem?_map, List.getElem?_range hi]
  rfl
section
variable {H : Type} {enc : TypeId × Value → H} {w : World}
set_option maxRecDepth 100000 in
theorem bools_of_Trod {v : Value} {d : DataW H} {p : List MemPlace} (h : DataW.Trod enc Try.prog w 0 (fun _ => true) true 22 v d p) (hv : ∃ a n c, v = .slice a n c) : ∃ (l : List Bool) (a : Option Addr) (cap : Nat), v = .slice a l.length cap ∧ BlV w a cap l := by
  obtain ⟨a, n, c, rfl⟩ := hv
  obtain ⟨fuel, hf⟩ := h
  have hc : Try.prog.cellsOf 4 = 1 := by kernel_rfl
  rcases DataW.trod_slice Try.underlying22 hf with ⟨e3, _⟩ | ⟨a, len, cap, elems, rest, m2, hm2, e3, _, _, hl, hcm, hel, hin, _⟩
  · simp [Value.cells] at e3
    obtain ⟨rfl, rfl, rfl⟩ := e3
    exact ⟨[], none, 0, rfl, RdL.nothing w⟩
  · simp [Value.cells] at e3
    obtain ⟨rfl, rfl, rfl⟩ := e3
    rw [hc] at hin
    have each : ∀ i, i < n → ∃ b : Bool, w.cell? ((a.add i).add 0) = some (.bool b) := by
      intro i hi
      have h1 := hin i hi
      have hi2 : i < elems.length := by omega
      rw [List.getElem?_eq_getElem hi2] at h1
      rw [Nat.mul_one] at h1
      cases hcs : w.cells? 0 (a.add i) 1 with
      | none => rw [hcs] at h1; simp at h1
      | some cs' =>
        rw [hcs] at h1
        obtain ⟨b, e, _⟩ := DataW.trod_bool Try.underlying4 (cs := cs') h1
        obtain ⟨_, _, hcell⟩ := World.cells?_some hcs
        rw [e] at hcell
        exact ⟨b, hcell 0 (by decide)⟩
    obtain ⟨T, hT⟩ := Go.Deep.choose_lt each
    have hkl : ((List.range n).map T).length = n := by simp
    refine ⟨(List.range n).map T, some a, c, by rw [hkl], by simpa using hl, by unfold maxLen at hcm; omega, fun e => (by cases e), ?_⟩
    by_cases h0 : n = 0
    · left; simp [h0]
    · right
      have hspot : a.spot = none := by
        have := World.cell?_spot (hT 0 (by omega))
        simpa [Addr.add] using this
      obtain ⟨b, o, sp⟩ := a
      simp only at hspot
      subst hspot
      refine ⟨b, o, rfl, fun i hi => ?_⟩
      have hi' : i < n := by simpa using hi
      have := hT i hi'
      rw [addW, addW, Nat.add_zero] at this
      rw [this, List.getElem?_map, getD_range n T i hi']
      rfl
theorem ints_of_Trod {v : Value} {d : DataW H} {p : List MemPlace} (h : DataW.Trod enc Try.prog w 0 (fun _ => true) true 23 v d p) (hv : ∃ a n c, v = .slice a n c) : ∃ (l : List Int) (a : Option Addr) (cap : Nat), v = .slice a l.length cap ∧ IlV w a cap l := by
  obtain ⟨a, n, c, rfl⟩ := hv
  obtain ⟨fuel, hf⟩ := h
  rcases open_ints Try.underlying23 Try.underlying3 (by kernel_rfl) hf with ⟨hcs, _⟩ | ⟨x, l, cc, zs, hcs, _, hl, hm, hz, hx, hcell, hwz⟩
  · simp [Value.cells] at hcs
    obtain ⟨rfl, rfl, rfl⟩ := hcs
    exact ⟨[], none, 0, rfl, IlV.nothing w⟩
  · simp [Value.cells] at hcs
    obtain ⟨rfl, rfl, rfl⟩ := hcs
    have hz2 : zs.length = c := by simpa using hz
    have hkl : (zs.take n).length = n := by rw [List.length_take]; omega
    refine ⟨zs.take n, some x, c, by rw [hkl], ⟨by rw [List.length_map, hkl]; exact hl, by unfold maxLen at hm; omega, fun e => (by cases e), ?_⟩, fun i hi => ?_⟩
    · by_cases h0 : n = 0
      · left; rw [List.length_map, hkl, h0]
      · right
        have hs : x.spot = none := by
          have := World.cell?_spot (hcell 0 (by omega))
          simpa [Addr.add] using this
        obtain ⟨b, o, sp⟩ := x
        simp only at hs
        subst hs
        refine ⟨b, o, rfl, fun i hi => ?_⟩
        rw [List.length_map, hkl] at hi
        have hc := hcell i (by omega)
        rw [addW] at hc
        have hi2 : i < zs.length := by omega
        rw [hc, List.getElem?_map, List.getElem?_take_of_lt hi, List.getElem?_eq_getElem hi2, List.getD_eq_getElem?_getD, List.getElem?_eq_getElem hi2]
        rfl
    · rw [hkl] at hi
      have hi2 : i < zs.length := by omega
      have e : (zs.take n).getD i 0 = zs[i] := by rw [List.getD_eq_getElem?_getD, List.getElem?_take_of_lt hi, List.getElem?_eq_getElem hi2]; rfl
      rw [e]
      exact in_of_wf (hwz _ (List.getElem_mem hi2))
end
end Go.Proofs.Ythjbnhdikoljdaa
