/-
  Acts that came in: what a slice of them reads as.
-/
import Derived.Test.YtcmnjiichkcmgaaWorks
import Derived.Deep.Slices
import Derived.SizedLaws
namespace Go.Proofs.Ytcmnjiichkcmgaa
open Go.ChangeShapes Go.WideShapes Go.ChangeAt Go.RowKit Go.Maps Go.Sort
set_option linter.unusedVariables false

/-- An act. -/
structure Do where
  kind : Int
  name : ByteArray
  b : List (BitVec 8)
  vb : Value
  keep : List Int
  vk : Value
def noDo : Do := ⟨0, ByteArray.empty, [], .slice none 0 0, [], .slice none 0 0⟩
/-- What lies at an act's four cells. -/
structure DoAt (w : World) (b off : Nat) (o : Do) : Prop where
  c0 : w.cell? ⟨b, off, none⟩ = some (.int .i64 o.kind)
  c1 : w.cell? ⟨b, off + 1, none⟩ = some (.string o.name)
  c2 : w.cell? ⟨b, off + 2, none⟩ = some o.vb
  c3 : w.cell? ⟨b, off + 3, none⟩ = some o.vk
  wk : (Lit.int .i64 o.kind).wf = true
  wn : o.name.size ≤ maxLen
  rb : ReadsV w o.vb o.b
  rk : IntsV w o.vk o.keep
  wb : o.b.length ≤ reachBytes
def DosV (w : World) (a : Option Addr) (len : Nat) (os : List Do) : Prop := os.length = len ∧ len ≤ maxLen ∧ (len = 0 ∨ ∃ b off, a = some ⟨b, off, none⟩ ∧ ∀ i, i < len → DoAt w b (off + i * 4) (os.getD i noDo))

theorem intsV_of {w : World} {a : Option Addr} {len cap : Nat} {zs : List Int} (h : IsRow .i64 w a len cap zs) : ∃ ys, len = ys.length ∧ IntsV w (.slice a len cap) ys := by
  rcases h with ⟨rfl, rfl, rfl, rfl⟩ | ⟨x, rfl, hl, hm, hz, hcell, hwz⟩
  · exact ⟨[], rfl, none, 0, rfl, by decide, by simp, .inl rfl⟩
  · have hlen : (zs.take len).length = len := by simp; omega
    refine ⟨zs.take len, hlen.symm, some x, cap, by rw [hlen], by rw [hlen]; unfold maxLen at *; omega, fun n hn => hwz n (List.mem_of_mem_take hn), ?_⟩
    by_cases h0 : zs.take len = []
    · exact .inl h0
    · right
      have hp : 0 < len := by
        rcases Nat.eq_zero_or_pos len with h | h
        · subst h; simp at h0
        · exact h
      obtain ⟨b, off, spot⟩ := x
      have hc := hcell 0 (by omega)
      have hspot : spot = none := by simpa [Addr.add] using World.cell?_spot hc
      subst hspot
      refine ⟨b, off, rfl, fun i hi => ?_⟩
      rw [hlen] at hi
      have := hcell i (by omega)
      rw [add_plain] at this
      rw [this]
      simp [List.getD, hi]

section
variable {H : Type} {enc : TypeId × Value → H} {w : World} {fuel : Nat}
theorem row_of_trod {t e : TypeId} {k : IntKind} {cs : List Value} {x : DataW H × List MemPlace} (ht : Try.prog.underlying t = some (.slice e)) (he : Try.prog.underlying e = some (.int k)) (hc : Try.prog.cellsOf e = 1)
    (h : DataW.trod enc Try.prog w 0 (fun _ => true) true fuel t cs = some x) : ∃ a len cap zs, cs = [.slice a len cap] ∧ IsRow k w a len cap zs ∧ (len = 0 ∨ (len ≤ cap ∧ cap * Try.prog.bytesOf e ∈ x.1.weights Try.prog t)) := by
  rcases open_ints ht he hc h with ⟨hcs, _⟩ | ⟨x, l, c, zs, hcs, _, hl, hm, hz, hx, hcell, hwz⟩
  · exact ⟨none, 0, 0, [], hcs, .inl ⟨rfl, rfl, rfl, rfl⟩, .inl rfl⟩
  · refine ⟨some x, l, c, zs, hcs, .inr ⟨_, rfl, hl, hm, by simpa using hz, hcell, hwz⟩, .inr ⟨hl, ?_⟩⟩
    rw [hx]
    have hz' : zs.length = c := by simpa using hz
    have e1 : (lits (H := H) k (zs.take l)).length + (lits (H := H) k (zs.drop l)).length = c := by simp [lits]; omega
    simp only [DataW.weights, ht, List.mem_cons]
    left
    rw [e1]

theorem weightsAll_mem {e : TypeId} {d : DataW H} {n : Nat} (hn : n ∈ d.weights Try.prog e) : ∀ {l : List (DataW H)}, d ∈ l → n ∈ DataW.weightsAll Try.prog e l
  | [], h => by simp at h
  | y :: r, h => by
    simp only [DataW.weightsAll, List.mem_append]
    rcases List.mem_cons.1 h with rfl | h
    · exact .inl hn
    · exact .inr (weightsAll_mem hn h)

set_option maxRecDepth 100000 in
theorem dos_of_trod {a : Option Addr} {len cap : Nat} {x : DataW H × List MemPlace} (h : DataW.trod enc Try.prog w 0 (fun _ => true) true fuel 22 [.slice a len cap] = some x) (hw : (x.1.weights Try.prog 22).all (· ≤ reachBytes) = true) : ∃ os, DosV w a len os := by
  rcases Go.Deep.open_slice Try.underlying22 h with ⟨hcs, _⟩ | ⟨x, l, c, m, n, D, Pl, hcs, hb, hl, hm, hmm, hD, hx⟩
  · simp at hcs
    obtain ⟨rfl, rfl, rfl⟩ := hcs
    exact ⟨[], rfl, by decide, .inl rfl⟩
  · simp at hcs
    obtain ⟨rfl, rfl, rfl⟩ := hcs
    have hce : Try.prog.cellsOf 33 = 4 := by kernel_rfl
    have c3 : Try.prog.cellsOf 3 = 1 := by kernel_rfl
    have c9 : Try.prog.cellsOf 9 = 1 := by kernel_rfl
    have c30 : Try.prog.cellsOf 30 = 1 := by kernel_rfl
    have c31 : Try.prog.cellsOf 31 = 1 := by kernel_rfl
    have hlm : len ≤ m := by rw [hmm]; split <;> omega
    rw [hce] at hx
    rw [hD] at hw
    have hin : ∀ i, i < len → ∀ n ∈ (D i).weights Try.prog 33, n ≤ reachBytes := by
      intro i hi n hn
      have h1 : n ∈ DataW.weights Try.prog 22 (.slice ((List.range len).map D) ((List.range (m - len)).map fun j => D (len + j))) := by
        simp only [DataW.weights, Try.underlying22, List.mem_cons, List.mem_append]
        exact .inr (.inl (weightsAll_mem hn (List.mem_map.2 ⟨i, List.mem_range.2 hi, rfl⟩)))
      simpa using List.all_eq_true.1 hw n h1
    clear hD hw
    have each : ∀ i, i < len → ∃ o : Do, (∀ b off, x = ⟨b, off, none⟩ → DoAt w b (off + i * 4) o) ∧ ∃ v, w.cell? ((x.add (i * 4)).add 0) = some v := by
      intro i hi
      obtain ⟨cs', h1, h2⟩ := hx i (by omega)
      obtain ⟨_, hlen, hcell⟩ := World.cells?_some h1
      obtain ⟨xs, k, hk, hxy, _, hxl, hf⟩ := DataW.trod_struct Try.underlying33 h2
      match xs, hxl, cs', hlen with
      | [y0, y1, y2, y3], _, [v0, v1, v2, v3], _ =>
        have g0 := hf 0 _ rfl
        have g1 := hf 1 _ rfl
        have g2 := hf 2 _ rfl
        have g3 := hf 3 _ rfl
        simp [c3, c9, c30, c31] at g0 g1 g2 g3
        obtain ⟨kd, e0, _, wk⟩ := DataW.trod_int Try.underlying3 g0
        obtain ⟨s, e1, _, wn⟩ := DataW.trod_string Try.underlying9 g1
        obtain ⟨a2, n2, p2, z2, e2, r2, hw2⟩ := row_of_trod Try.underlying30 Try.underlying5 (by kernel_rfl) g2
        obtain ⟨a3, n3, p3, z3, e3, r3, _⟩ := row_of_trod Try.underlying31 Try.underlying3 (by kernel_rfl) g3
        have hwb : n2 ≤ reachBytes := by
          rcases hw2 with h0 | ⟨h1, h2⟩
          · rw [h0]; exact Nat.zero_le _
          · have h3 := hin i hi (p2 * Try.prog.bytesOf 5) (by
              simp only [Prod.mk.injEq] at hxy
              rw [hxy.1]
              simp only [DataW.weights, Try.underlying33, List.map_cons, List.map_nil]
              exact DataW.weights_mem_each (j := 2) rfl rfl _ h2)
            rw [show Try.prog.bytesOf 5 = 1 from by kernel_rfl] at h3
            omega
        simp at e0 e1 e2 e3
        subst e0 e1 e2 e3
        obtain ⟨lb, hlb, rb⟩ := readsV_of r2
        obtain ⟨ly, hly, rk⟩ := intsV_of r3
        have k0 := hcell 0 (by omega)
        have k1 := hcell 1 (by omega)
        have k2 := hcell 2 (by omega)
        have k3 := hcell 3 (by omega)
        refine ⟨⟨kd, s, lb, .slice a2 n2 p2, ly, .slice a3 n3 p3⟩, fun b off hxx => ?_, _, by simpa using k0⟩
        subst hxx
        simp only [add_plain] at k0 k1 k2 k3
        exact { c0 := by simpa using k0, c1 := by simpa using k1, c2 := by simpa using k2, c3 := by simpa using k3, wk := wk, wn := wn, rb := rb, rk := rk, wb := by rw [← hlb]; exact hwb }
    by_cases h0 : len = 0
    · subst h0
      exact ⟨[], rfl, by decide, .inl rfl⟩
    · have hspot : x.spot = none := by
        obtain ⟨_, _, v, hv⟩ := each 0 (by omega)
        simpa [Addr.add] using World.cell?_spot hv
      obtain ⟨b, off, spot⟩ := x
      simp at hspot
      subst hspot
      haveI : Inhabited Do := ⟨noDo⟩
      obtain ⟨q, hq⟩ := Go.Deep.choose_lt each
      refine ⟨(List.range len).map q, by simp, by unfold maxLen at *; omega, .inr ⟨b, off, rfl, fun i hi => ?_⟩⟩
      have := (hq i hi).1 b off rfl
      simpa [List.getD, hi] using this
end

end Go.Proofs.Ytcmnjiichkcmgaa
