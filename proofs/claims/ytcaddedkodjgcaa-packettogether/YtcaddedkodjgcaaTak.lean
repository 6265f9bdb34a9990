/-
  What came in: entries, logs.
-/
import Derived.Test.YtcaddedkodjgcaaMem
import Derived.Deep.Slices
import Derived.SizedLaws
import Derived.SliceStrings
namespace Go.Proofs.Ytcaddedkodjgcaa
open Go.RowKit Go.ChangeShapes Go.WideShapes
set_option linter.unusedVariables false

section
variable {H : Type} {enc : TypeId × Value → H} {w : World}
theorem bytes_of_trod {fuel : Nat} {c : Value} {x : DataW H × List MemPlace} (h : DataW.trod enc Try.prog w 0 (fun _ => true) true fuel 27 [c] = some x) : ∃ (l : BB) (a : Option Addr) (cap : Nat), c = .slice a l.length cap ∧ ReadsV w (.slice a l.length cap) l := by
  rcases open_ints Try.underlying27 Try.underlying5 (by kernel_rfl) h with ⟨hcs, _⟩ | ⟨x, l, cc, zs, hcs, _, hl, hm, hz, hx, hcell, hwz⟩
  · simp at hcs
    subst hcs
    exact ⟨[], none, 0, rfl, ReadsV.nil w⟩
  · simp at hcs
    subst hcs
    obtain ⟨lb, hlb, rb⟩ := readsV_of (w := w) (a := some x) (len := l) (cap := cc) (zs := zs) (.inr ⟨_, rfl, hl, hm, by simpa using hz, hcell, hwz⟩)
    subst hlb
    exact ⟨lb, some x, cc, rfl, rb⟩
set_option maxRecDepth 100000 in
theorem en_of_trod {fuel : Nat} {cs : List Value} {x : DataW H × List MemPlace} (h : DataW.trod enc Try.prog w 0 (fun _ => true) true fuel 48 cs = some x) :
    ∃ (e : En) (a : Option Addr) (cap : Nat), cs = [.int .i64 e.1, .slice a e.2.length cap] ∧ InR e.1 ∧ ReadsV w (.slice a e.2.length cap) e.2 := by
  obtain ⟨xs, n, rfl, _, hlen, hxs, hf⟩ := DataW.trod_struct Try.underlying48 h
  have hc : Try.prog.cellsOf 48 = 2 := by kernel_rfl
  have hc3 : Try.prog.cellsOf 3 = 1 := by kernel_rfl
  have hc43 : Try.prog.cellsOf 27 = 1 := by kernel_rfl
  rw [hc] at hlen
  obtain ⟨c0, c1, rfl⟩ : ∃ c0 c1, cs = [c0, c1] := by
    match cs, hlen with
    | [c0, c1], _ => exact ⟨c0, c1, rfl⟩
  obtain ⟨y0, y1, rfl⟩ : ∃ y0 y1, xs = [y0, y1] := by
    have hxs2 : xs.length = 2 := by rw [hxs]; rfl
    match xs, hxs2 with
    | [y0, y1], _ => exact ⟨y0, y1, rfl⟩
  have f0 : DataW.trod enc Try.prog w 0 (fun _ => true) true n 3 ((List.drop 0 [c0, c1]).take (Try.prog.cellsOf 3)) = some y0 := hf 0 _ rfl
  have f1 : DataW.trod enc Try.prog w 0 (fun _ => true) true n 27 ((List.drop 1 [c0, c1]).take (Try.prog.cellsOf 27)) = some y1 := hf 1 _ rfl
  rw [hc3] at f0
  rw [hc43] at f1
  obtain ⟨k, e0, _, wk⟩ := DataW.trod_int Try.underlying3 (x := y0) f0
  simp at e0
  subst e0
  obtain ⟨l, a, cap, e1, hE⟩ := bytes_of_trod (c := c1) f1
  exact ⟨(k, l), a, cap, by rw [e1], in_of_wf wk, hE⟩
set_option maxRecDepth 100000 in
theorem ens_of_trod {fuel : Nat} {c : Value} {x : DataW H × List MemPlace} (h : DataW.trod enc Try.prog w 0 (fun _ => true) true fuel 49 [c] = some x) :
    ∃ (l : List En) (a : Option Addr) (cap : Nat), c = .slice a l.length cap ∧ EnsV w (fun _ => True) a cap l := by
  have hc : Try.prog.cellsOf 48 = 2 := by kernel_rfl
  rcases DataW.trod_slice Try.underlying49 h with ⟨e3, _⟩ | ⟨a, len, cap, elems, rest, m2, hm2, e3, _, _, hl, hcm, hel, hin, _⟩
  · simp at e3
    subst e3
    exact ⟨[], none, 0, rfl, EnsV.nil w _⟩
  · simp at e3
    subst e3
    rw [hc] at hin
    have each : ∀ i, i < len → ∃ tt : En × Option Addr × Nat, (w.cell? ((a.add (i * 2)).add 0) = some (.int .i64 tt.1.1) ∧ w.cell? ((a.add (i * 2)).add 1) = some (.slice tt.2.1 tt.1.2.length tt.2.2)) ∧ InR tt.1.1 ∧ ReadsV w (.slice tt.2.1 tt.1.2.length tt.2.2) tt.1.2 := by
      intro i hi
      have h1 := hin i hi
      have hi2 : i < elems.length := by omega
      rw [List.getElem?_eq_getElem hi2] at h1
      cases hcs : w.cells? 0 (a.add (i * 2)) 2 with
      | none => rw [hcs] at h1; simp at h1
      | some cs' =>
        rw [hcs] at h1
        obtain ⟨t, ta, tcap, e, hi, hT⟩ := en_of_trod (fuel := m2) (cs := cs') h1
        obtain ⟨_, _, hcell⟩ := World.cells?_some hcs
        rw [e] at hcell
        exact ⟨(t, ta, tcap), ⟨hcell 0 (by decide), hcell 1 (by decide)⟩, hi, hT⟩
    have inh : Inhabited (En × Option Addr × Nat) := ⟨(zE, none, 0)⟩
    obtain ⟨T, hT⟩ := Go.Deep.choose_lt each
    have hkl : ((List.range len).map fun i => (T i).1).length = len := by simp
    refine ⟨(List.range len).map fun i => (T i).1, some a, cap, by rw [hkl], by rw [hkl]; exact hl, by unfold maxLen at hcm; omega, fun e => (by cases e), fun i hi => ?_⟩
    have hi' : i < len := by rw [← hkl]; exact hi
    obtain ⟨⟨h0, h1⟩, h2, h3⟩ := hT i hi'
    rw [getD_range len (fun i => (T i).1) i hi' zE]
    have hspot : a.spot = none := by
      have := World.cell?_spot (hT 0 (by omega)).1.1
      simpa [Addr.add] using this
    obtain ⟨b, o, sp⟩ := a
    simp only at hspot
    subst hspot
    rw [add2, add2] at h0 h1
    exact ⟨b, o, _, _, ⟨rfl, trivial⟩, h0, h1, _, _, rfl, rfl, h3, fun _ _ _ => trivial, h2⟩
/-- A log's value. -/
def lgA (b bt : Int) (a : Option Addr) (n c : Nat) : Value := .agg #[.int .i64 b, .int .i64 bt, .slice a n c]
theorem en_of_Trod {v : Value} {d : DataW H} {p : List MemPlace} (h : DataW.Trod enc Try.prog w 0 (fun _ => true) true 48 v d p) : ∃ (e : En) (a : Option Addr) (cap : Nat), v = .agg #[.int .i64 e.1, .slice a e.2.length cap] ∧ InR e.1 ∧ ReadsV w (.slice a e.2.length cap) e.2 := by
  obtain ⟨fuel, hf⟩ := h
  obtain ⟨t, a, cap, e, h1, hT⟩ := en_of_trod hf
  refine ⟨t, a, cap, ?_, h1, hT⟩
  cases v with
  | agg cs =>
    have : cs.toList = [.int .i64 t.1, .slice a t.2.length cap] := e
    rw [show cs = ⟨cs.toList⟩ from rfl, this]
  | _ => have := congrArg List.length e; simp [Value.cells] at this
theorem ens_of_Trod {v : Value} {d : DataW H} {p : List MemPlace} (h : DataW.Trod enc Try.prog w 0 (fun _ => true) true 49 v d p) (hv : ∃ a n c, v = .slice a n c) : ∃ (l : List En) (a : Option Addr) (cap : Nat), v = .slice a l.length cap ∧ EnsV w (fun _ => True) a cap l := by
  obtain ⟨a, n, c, rfl⟩ := hv
  obtain ⟨fuel, hf⟩ := h
  exact ens_of_trod hf
end
end Go.Proofs.Ytcaddedkodjgcaa
