/-
  Rows of truths and of numbers in memory.
-/
import Derived.Test.YtcaddedkodjgcaaBas
import Derived.Test.YtcaddedkodjgcaaQth
import Derived.Laws.BitsAllLaws
import Derived.OpenShut
import Derived.WalkKit
import Derived.ProofKit
import Derived.WalkLawsBesides
import Derived.Outline
import Derived.ChangeOld
import Derived.OwnWalk
import Derived.Laws.AppendOwnNone
import Derived.Deep.RegionLaw
import Derived.Deep.QuietTactic
import Derived.BigQuiet
import Derived.Maps.AppendAt
import Derived.Deep.RegionHeld3
import Derived.Laws.MakeOwn
namespace Go.Proofs.Ytcaddedkodjgcaa
open Go.RowKit
set_option linter.unusedVariables false

/-- A slice that reads as these values. -/
structure RdL (w : World) (a : Option Addr) (cap : Nat) (vs : List Value) : Prop where
  cap1 : vs.length ≤ cap
  cap2 : cap ≤ 9223372036854775807
  nil : a = none → cap = 0
  cells : vs.length = 0 ∨ ∃ b o, a = some ⟨b, o, none⟩ ∧ ∀ i, i < vs.length → w.cell? ⟨b, o + i, none⟩ = vs[i]?
theorem RdL.below {w w' : World} {a : Option Addr} {cap : Nat} {vs : List Value} (h : RdL w a cap vs) (hb : Below w.heap.size w w') : RdL w' a cap vs := by
  refine ⟨h.cap1, h.cap2, h.nil, ?_⟩
  rcases h.cells with h0 | ⟨b, o, ha, hc⟩
  · exact .inl h0
  · refine .inr ⟨b, o, ha, fun i hi => ?_⟩
    have h1 := hc i hi
    have h2 : w.cell? ⟨b, o + i, none⟩ = some vs[i] := by rw [h1, List.getElem?_eq_getElem hi]
    have hlt : b < w.heap.size := World.block_lt_of_cell? w _ h2
    exact (hb.cell (p := ⟨b, o + i, none⟩) hlt).trans h1
theorem RdL.nothing (w : World) : RdL w none 0 [] := ⟨Nat.le_refl _, by decide, fun _ => rfl, .inl rfl⟩
/-- Truths. -/
def BlV (w : World) (a : Option Addr) (cap : Nat) (l : List Bool) : Prop := RdL w a cap (l.map .bool)
/-- Numbers. -/
structure IlV (w : World) (a : Option Addr) (cap : Nat) (l : List Int) : Prop where
  rd : RdL w a cap (l.map (.int .i64))
  inr : ∀ i, i < l.length → InR (l.getD i 0)
section
variable {w w' : World} {a : Option Addr} {cap : Nat}
theorem BlV.below {l : List Bool} (h : BlV w a cap l) (hb : Below w.heap.size w w') : BlV w' a cap l := RdL.below h hb
theorem IlV.below {l : List Int} (h : IlV w a cap l) (hb : Below w.heap.size w w') : IlV w' a cap l := ⟨h.rd.below hb, h.inr⟩
theorem BlV.cap1 {l : List Bool} (h : BlV w a cap l) : l.length ≤ cap := by have := RdL.cap1 h; rwa [List.length_map] at this
theorem BlV.cap2 {l : List Bool} (h : BlV w a cap l) : cap ≤ 9223372036854775807 := RdL.cap2 h
theorem IlV.cap1 {l : List Int} (h : IlV w a cap l) : l.length ≤ cap := by have := h.rd.cap1; rwa [List.length_map] at this
theorem IlV.cap2 {l : List Int} (h : IlV w a cap l) : cap ≤ 9223372036854775807 := h.rd.cap2
theorem BlV.at_ {l : List Bool} (h : BlV w a cap l) {i : Nat} (hi : i < l.length) : ∃ b o, a = some ⟨b, o, none⟩ ∧ w.cell? ⟨b, o + i, none⟩ = some (.bool (l.getD i false)) ∧ b < w.heap.size := by
  rcases RdL.cells h with h0 | ⟨b, o, ha, hc⟩
  · rw [List.length_map] at h0; omega
  · have h1 := hc i (by rw [List.length_map]; exact hi)
    rw [List.getElem?_map, List.getElem?_eq_getElem hi] at h1
    have h2 : w.cell? ⟨b, o + i, none⟩ = some (.bool (l.getD i false)) := by rw [h1, List.getD_eq_getElem?_getD, List.getElem?_eq_getElem hi]; rfl
    exact ⟨b, o, ha, h2, World.block_lt_of_cell? w _ h2⟩
theorem IlV.at_ {l : List Int} (h : IlV w a cap l) {i : Nat} (hi : i < l.length) : ∃ b o, a = some ⟨b, o, none⟩ ∧ w.cell? ⟨b, o + i, none⟩ = some (.int .i64 (l.getD i 0)) ∧ b < w.heap.size := by
  rcases h.rd.cells with h0 | ⟨b, o, ha, hc⟩
  · rw [List.length_map] at h0; omega
  · have h1 := hc i (by rw [List.length_map]; exact hi)
    rw [List.getElem?_map, List.getElem?_eq_getElem hi] at h1
    have h2 : w.cell? ⟨b, o + i, none⟩ = some (.int .i64 (l.getD i 0)) := by rw [h1, List.getD_eq_getElem?_getD, List.getElem?_eq_getElem hi]; rfl
    exact ⟨b, o, ha, h2, World.block_lt_of_cell? w _ h2⟩
end
theorem IlV.nothing (w : World) : IlV w none 0 [] := ⟨RdL.nothing w, fun i hi => absurd hi (Nat.not_lt_zero _)⟩
/-- A row of the call's own reads so. -/
theorem RdL.own {w : World} {base : Nat} {t : TypeId} {a : Option Addr} {n cap : Nat} {vs : List Value} (h : w.ownsRow base t 1 (.slice a n cap) n vs) (hn : vs.length = n) : RdL w a cap vs := by
  have hh := h
  rcases h.2 with ⟨e, h0⟩ | ⟨g, c2, cur, e, _, _, hnc, hcm, _, _⟩
  · simp only [Value.slice.injEq] at e
    obtain ⟨rfl, rfl, rfl⟩ := e
    exact ⟨by omega, by decide, fun _ => rfl, .inl hn⟩
  · simp only [Value.slice.injEq] at e
    obtain ⟨rfl, _, rfl⟩ := e
    refine ⟨by omega, by unfold maxLen at hcm; omega, fun q => (by cases q), .inr ⟨g, 0, rfl, fun i hi => ?_⟩⟩
    rw [Nat.zero_add, hh.cellAt i (by omega)]
/-- A literal's row. -/
theorem RdL.lit (w : World) (vs : Array Value) (t : TypeId) (n : Nat) (hn : n = vs.size) (hs : n ≤ 1000) : RdL (w.alloc (.cells vs t)) (some ⟨w.heap.size, 0, none⟩) n vs.toList := by
  subst hn
  refine ⟨Nat.le_of_eq (by simp), by omega, fun q => (by cases q), .inr ⟨_, 0, rfl, fun i hi => ?_⟩⟩
  have k : (w.alloc (.cells vs t)).heap[w.heap.size]? = some (.cells vs t) := by
    show (w.heap.push _)[w.heap.size]? = _
    simp
  simp only [World.cell?, k]
  simp
end Go.Proofs.Ytcaddedkodjgcaa
