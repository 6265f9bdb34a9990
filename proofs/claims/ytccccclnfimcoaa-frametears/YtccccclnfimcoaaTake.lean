/-
  Rows of bytes that came in: what a slice of them reads as.
-/
import Derived.Test.YtccccclnfimcoaaAll
import Derived.Deep.Slices
import Derived.SizedLaws
namespace Go.Proofs.Ytccccclnfimcoaa
open Go.ChangeShapes Go.WideShapes Go.ChangeAt Go.RowKit Crc
set_option linter.unusedVariables false

section
variable {H : Type} {enc : TypeId × Value → H} {w : World} {fuel : Nat}
theorem row_of_trod {cs : List Value} {x : DataW H × List MemPlace} (h : DataW.trod enc Try.prog w 0 (fun _ => true) true fuel 22 cs = some x) : ∃ a len cap zs, cs = [.slice a len cap] ∧ IsRow .u8 w a len cap zs ∧ (len = 0 ∨ (len ≤ cap ∧ cap * Try.prog.bytesOf 5 ∈ x.1.weights Try.prog 22)) := by
  rcases open_ints Try.underlying22 Try.underlying5 (by kernel_rfl) h with ⟨hcs, _⟩ | ⟨x, l, c, zs, hcs, _, hl, hm, hz, hx, hcell, hwz⟩
  · exact ⟨none, 0, 0, [], hcs, .inl ⟨rfl, rfl, rfl, rfl⟩, .inl rfl⟩
  · refine ⟨some x, l, c, zs, hcs, .inr ⟨_, rfl, hl, hm, by simpa using hz, hcell, hwz⟩, .inr ⟨hl, ?_⟩⟩
    rw [hx]
    have hz' : zs.length = c := by simpa using hz
    have e1 : (lits (H := H) .u8 (zs.take l)).length + (lits (H := H) .u8 (zs.drop l)).length = c := by simp [lits]; omega
    simp only [DataW.weights, Try.underlying22, List.mem_cons]
    left
    rw [e1]

theorem weightsAll_mem {e : TypeId} {d : DataW H} {n : Nat} (hn : n ∈ d.weights Try.prog e) : ∀ {l : List (DataW H)}, d ∈ l → n ∈ DataW.weightsAll Try.prog e l
  | [], h => by simp at h
  | y :: r, h => by
    simp only [DataW.weightsAll, List.mem_append]
    rcases List.mem_cons.1 h with rfl | h
    · exact .inl hn
    · exact .inr (weightsAll_mem hn h)

theorem rows_of_trod {a : Option Addr} {len cap : Nat} {x : DataW H × List MemPlace} (h : DataW.trod enc Try.prog w 0 (fun _ => true) true fuel 27 [.slice a len cap] = some x) (hw : (x.1.weights Try.prog 27).all (· ≤ reachBytes) = true) :
    ∃ rs, RowsV w (.slice a len cap) rs ∧ ∀ i, i < rs.length → (rs.getD i []).length ≤ 1000000000000000 := by
  rcases Go.Deep.open_slice1 Try.underlying27 (by kernel_rfl) h with ⟨hcs, _⟩ | ⟨x, l, c, m, n, V, D, Pl, hcs, hb, hl, hm, hmm, hD, hx⟩
  · simp at hcs
    obtain ⟨rfl, rfl, rfl⟩ := hcs
    exact ⟨[], RowsV.nil w, fun i hi => by simp at hi⟩
  · simp at hcs
    obtain ⟨rfl, rfl, rfl⟩ := hcs
    have hlm : len ≤ m := by rw [hmm]; split <;> omega
    rw [hD] at hw
    have hin : ∀ i, i < len → ∀ n ∈ (D i).weights Try.prog 22, n ≤ reachBytes := by
      intro i hi n hn
      have h1 : n ∈ DataW.weights Try.prog 27 (.slice ((List.range len).map D) ((List.range (m - len)).map fun j => D (len + j))) := by
        simp only [DataW.weights, Try.underlying27, List.mem_cons, List.mem_append]
        exact .inr (.inl (weightsAll_mem hn (List.mem_map.2 ⟨i, List.mem_range.2 hi, rfl⟩)))
      simpa using List.all_eq_true.1 hw n h1
    clear hD hw
    have each : ∀ i, i < len → ∃ r : Row, w.cell? (x.add i) = some (V i) ∧ ReadsV w (V i) r ∧ r.length ≤ 1000000000000000 := by
      intro i hi
      obtain ⟨h1, h2⟩ := hx i (by omega)
      obtain ⟨a2, n2, p2, z2, e2, r2, hw2⟩ := row_of_trod h2
      simp at e2
      have hwb : n2 ≤ reachBytes := by
        rcases hw2 with h0 | ⟨h1, h2⟩
        · rw [h0]; exact Nat.zero_le _
        · have h3 := hin i hi (p2 * Try.prog.bytesOf 5) h2
          rw [show Try.prog.bytesOf 5 = 1 from by kernel_rfl] at h3
          omega
      obtain ⟨lb, hlb, rb⟩ := readsV_of r2
      refine ⟨lb, h1, by rw [e2]; exact rb, ?_⟩
      unfold reachBytes at hwb
      omega
    by_cases h0 : len = 0
    · subst h0
      exact ⟨[], ⟨some x, cap, rfl, (fun h => by cases h), hl, hm, .inl rfl⟩, fun i hi => by simp at hi⟩
    · have hspot : x.spot = none := by
        obtain ⟨_, h1, _⟩ := each 0 (by omega)
        simpa [Addr.add] using World.cell?_spot h1
      obtain ⟨b, off, spot⟩ := x
      simp at hspot
      subst hspot
      obtain ⟨q, hq⟩ := Go.Deep.choose_lt each
      refine ⟨(List.range len).map q, ⟨some ⟨b, off, none⟩, cap, by simp, (fun h => by cases h), by simpa using hl, hm, .inr ⟨b, off, rfl, fun i hi => ?_⟩⟩, fun i hi => ?_⟩
      · simp at hi
        have := hq i hi
        rw [add_plain] at this
        exact ⟨V i, this.1, by simpa [List.getD, hi] using this.2.1⟩
      · simp at hi
        have := hq i hi
        simpa [List.getD, hi] using this.2.2
end

end Go.Proofs.Ytccccclnfimcoaa
