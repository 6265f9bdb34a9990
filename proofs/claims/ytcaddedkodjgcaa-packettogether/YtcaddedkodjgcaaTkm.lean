/-
  What came in: messages, packets.
-/
import Derived.Test.YtcaddedkodjgcaaMsm
import Derived.Test.YtcaddedkodjgcaaTak
import Derived.Test.YtcaddedkodjgcaaKwt
namespace Go.Proofs.Ytcaddedkodjgcaa
open Go.RowKit Go.ChangeShapes Go.WideShapes
set_option linter.unusedVariables false

section
variable {H : Type} {enc : TypeId × Value → H} {w : World}
set_option maxRecDepth 100000 in
theorem msg_of_trod {fuel : Nat} {cs : List Value} {x : DataW H × List MemPlace} (h : DataW.trod enc Try.prog w 0 (fun _ => true) true fuel 51 cs = some x) :
    ∃ (m : Ms) (ax : Ax), cs = msCells ax m ∧ MsR m ∧ MsV w (fun _ => True) ax m := by
  obtain ⟨xs, n, rfl, _, hlen, hxs, hf⟩ := DataW.trod_struct Try.underlying51 h
  have hc : Try.prog.cellsOf 51 = 11 := by kernel_rfl
  have hc3 : Try.prog.cellsOf 3 = 1 := by kernel_rfl
  have hc4 : Try.prog.cellsOf 4 = 1 := by kernel_rfl
  have hcE : Try.prog.cellsOf 49 = 1 := by kernel_rfl
  have hcB : Try.prog.cellsOf 27 = 1 := by kernel_rfl
  rw [hc] at hlen
  obtain ⟨c0, c1, c2, c3, c4, c5, c6, c7, c8, c9, c10, rfl⟩ : ∃ c0 c1 c2 c3 c4 c5 c6 c7 c8 c9 c10, cs = [c0, c1, c2, c3, c4, c5, c6, c7, c8, c9, c10] := by
    match cs, hlen with
    | [c0, c1, c2, c3, c4, c5, c6, c7, c8, c9, c10], _ => exact ⟨c0, c1, c2, c3, c4, c5, c6, c7, c8, c9, c10, rfl⟩
  obtain ⟨y0, y1, y2, y3, y4, y5, y6, y7, y8, y9, y10, rfl⟩ : ∃ y0 y1 y2 y3 y4 y5 y6 y7 y8 y9 y10, xs = [y0, y1, y2, y3, y4, y5, y6, y7, y8, y9, y10] := by
    have hxs2 : xs.length = 11 := by rw [hxs]; rfl
    match xs, hxs2 with
    | [y0, y1, y2, y3, y4, y5, y6, y7, y8, y9, y10], _ => exact ⟨y0, y1, y2, y3, y4, y5, y6, y7, y8, y9, y10, rfl⟩
  have f0 : DataW.trod enc Try.prog w 0 (fun _ => true) true n 3 ((List.drop 0 [c0, c1, c2, c3, c4, c5, c6, c7, c8, c9, c10]).take (Try.prog.cellsOf 3)) = some y0 := hf 0 _ rfl
  have f1 : DataW.trod enc Try.prog w 0 (fun _ => true) true n 3 ((List.drop 1 [c0, c1, c2, c3, c4, c5, c6, c7, c8, c9, c10]).take (Try.prog.cellsOf 3)) = some y1 := hf 1 _ rfl
  have f2 : DataW.trod enc Try.prog w 0 (fun _ => true) true n 3 ((List.drop 2 [c0, c1, c2, c3, c4, c5, c6, c7, c8, c9, c10]).take (Try.prog.cellsOf 3)) = some y2 := hf 2 _ rfl
  have f3 : DataW.trod enc Try.prog w 0 (fun _ => true) true n 3 ((List.drop 3 [c0, c1, c2, c3, c4, c5, c6, c7, c8, c9, c10]).take (Try.prog.cellsOf 3)) = some y3 := hf 3 _ rfl
  have f4 : DataW.trod enc Try.prog w 0 (fun _ => true) true n 3 ((List.drop 4 [c0, c1, c2, c3, c4, c5, c6, c7, c8, c9, c10]).take (Try.prog.cellsOf 3)) = some y4 := hf 4 _ rfl
  have f5 : DataW.trod enc Try.prog w 0 (fun _ => true) true n 3 ((List.drop 5 [c0, c1, c2, c3, c4, c5, c6, c7, c8, c9, c10]).take (Try.prog.cellsOf 3)) = some y5 := hf 5 _ rfl
  have f6 : DataW.trod enc Try.prog w 0 (fun _ => true) true n 3 ((List.drop 6 [c0, c1, c2, c3, c4, c5, c6, c7, c8, c9, c10]).take (Try.prog.cellsOf 3)) = some y6 := hf 6 _ rfl
  have f7 : DataW.trod enc Try.prog w 0 (fun _ => true) true n 3 ((List.drop 7 [c0, c1, c2, c3, c4, c5, c6, c7, c8, c9, c10]).take (Try.prog.cellsOf 3)) = some y7 := hf 7 _ rfl
  have f8 : DataW.trod enc Try.prog w 0 (fun _ => true) true n 4 ((List.drop 8 [c0, c1, c2, c3, c4, c5, c6, c7, c8, c9, c10]).take (Try.prog.cellsOf 4)) = some y8 := hf 8 _ rfl
  have f9 : DataW.trod enc Try.prog w 0 (fun _ => true) true n 49 ((List.drop 9 [c0, c1, c2, c3, c4, c5, c6, c7, c8, c9, c10]).take (Try.prog.cellsOf 49)) = some y9 := hf 9 _ rfl
  have f10 : DataW.trod enc Try.prog w 0 (fun _ => true) true n 27 ((List.drop 10 [c0, c1, c2, c3, c4, c5, c6, c7, c8, c9, c10]).take (Try.prog.cellsOf 27)) = some y10 := hf 10 _ rfl
  rw [hc3] at f0 f1 f2 f3 f4 f5 f6 f7
  rw [hc4] at f8
  rw [hcE] at f9
  rw [hcB] at f10
  obtain ⟨k0, e0, _, wk0⟩ := DataW.trod_int Try.underlying3 (x := y0) f0
  simp at e0
  subst e0
  obtain ⟨k1, e1, _, wk1⟩ := DataW.trod_int Try.underlying3 (x := y1) f1
  simp at e1
  subst e1
  obtain ⟨k2, e2, _, wk2⟩ := DataW.trod_int Try.underlying3 (x := y2) f2
  simp at e2
  subst e2
  obtain ⟨k3, e3, _, wk3⟩ := DataW.trod_int Try.underlying3 (x := y3) f3
  simp at e3
  subst e3
  obtain ⟨k4, e4, _, wk4⟩ := DataW.trod_int Try.underlying3 (x := y4) f4
  simp at e4
  subst e4
  obtain ⟨k5, e5, _, wk5⟩ := DataW.trod_int Try.underlying3 (x := y5) f5
  simp at e5
  subst e5
  obtain ⟨k6, e6, _, wk6⟩ := DataW.trod_int Try.underlying3 (x := y6) f6
  simp at e6
  subst e6
  obtain ⟨k7, e7, _, wk7⟩ := DataW.trod_int Try.underlying3 (x := y7) f7
  simp at e7
  subst e7
  obtain ⟨b8, e8, _⟩ := DataW.trod_bool Try.underlying4 (x := y8) f8
  simp at e8
  subst e8
  obtain ⟨l, ea, ec, e9, hE⟩ := ens_of_trod (c := c9) f9
  obtain ⟨d, da, dc, e10, hD⟩ := bytes_of_trod (c := c10) f10
  subst e9 e10
  exact ⟨⟨k0, k1, k2, k3, k4, k5, k6, k7, b8, l, d⟩, ⟨ea, ec, da, dc⟩, rfl, ⟨in_of_wf wk0, in_of_wf wk1, in_of_wf wk2, in_of_wf wk3, in_of_wf wk4, in_of_wf wk5, in_of_wf wk6, in_of_wf wk7⟩, hE, hD, fun _ _ _ => trivial⟩
set_option maxRecDepth 100000 in
theorem msgs_of_trod {fuel : Nat} {c : Value} {x : DataW H × List MemPlace} (h : DataW.trod enc Try.prog w 0 (fun _ => true) true fuel 22 [c] = some x) :
    ∃ (l : List Ms) (a : Option Addr) (cap : Nat), c = .slice a l.length cap ∧ RwV msR w (fun _ => True) a cap l ∧ ∀ m ∈ l, MsR m := by
  have hc : Try.prog.cellsOf 51 = 11 := by kernel_rfl
  rcases DataW.trod_slice Try.underlying22 h with ⟨e3, _⟩ | ⟨a, len, cap, elems, rest, m2, hm2, e3, _, _, hl, hcm, hel, hin, _⟩
  · simp at e3
    subst e3
    exact ⟨[], none, 0, rfl, RwV.nil _ w _, fun m hm => by cases hm⟩
  · simp at e3
    subst e3
    rw [hc] at hin
    have each : ∀ i, i < len → ∃ tt : Ms × Ax, (∀ j u, (msCells tt.2 tt.1)[j]? = some u → w.cell? ((a.add (i * 11)).add j) = some u) ∧ MsR tt.1 ∧ MsV w (fun _ => True) tt.2 tt.1 := by
      intro i hi
      have h1 := hin i hi
      have hi2 : i < elems.length := by omega
      rw [List.getElem?_eq_getElem hi2] at h1
      cases hcs : w.cells? 0 (a.add (i * 11)) 11 with
      | none => rw [hcs] at h1; simp at h1
      | some cs' =>
        rw [hcs] at h1
        obtain ⟨m, ax, e, hr, hT⟩ := msg_of_trod (fuel := m2) (cs := cs') h1
        obtain ⟨_, _, hcell⟩ := World.cells?_some hcs
        subst e
        refine ⟨(m, ax), fun j u hj => ?_, hr, hT⟩
        have hj11 : j < 11 := by obtain ⟨z, _⟩ := List.getElem?_eq_some_iff.1 hj; exact z
        rw [hcell j hj11]
        exact hj
    have inh : Inhabited (Ms × Ax) := ⟨(zMs, zAx)⟩
    obtain ⟨T, hT⟩ := Go.Deep.choose_lt each
    have hkl : ((List.range len).map fun i => (T i).1).length = len := by simp
    refine ⟨(List.range len).map fun i => (T i).1, some a, cap, by rw [hkl], ⟨by rw [hkl]; exact hl, by unfold maxLen at hcm; omega, fun e => (by cases e), fun i hi => ?_⟩, fun m hm => ?_⟩
    · have hi' : i < len := by rw [← hkl]; exact hi
      obtain ⟨h0, h1, h2⟩ := hT i hi'
      show ∃ b o us, (some a = some ⟨b, o, none⟩ ∧ True) ∧ _ ∧ msR.R w _ us (((List.range len).map fun i => (T i).1).getD i zMs)
      rw [getD_range len (fun i => (T i).1) i hi' zMs]
      have hspot : a.spot = none := by
        have := World.cell?_spot ((hT 0 (by omega)).1 0 _ rfl)
        simpa [Addr.add] using this
      obtain ⟨b, o, sp⟩ := a
      simp only at hspot
      subst hspot
      refine ⟨b, o, msCells (T i).2 (T i).1, ⟨rfl, trivial⟩, fun j hj => ?_, (T i).2, rfl, h2⟩
      have hj11 : j < 11 := hj
      have hlen : (msCells (T i).2 (T i).1).length = 11 := rfl
      have hu : (msCells (T i).2 (T i).1)[j]? = some ((msCells (T i).2 (T i).1)[j]'(by omega)) := List.getElem?_eq_getElem (by omega)
      rw [hu]
      have := h0 j _ hu
      rw [add2, add2] at this
      exact this
    · obtain ⟨i, hi, rfl⟩ := List.mem_map.1 hm
      exact (hT i (List.mem_range.1 hi)).2.1
set_option maxRecDepth 100000 in
theorem pkt_of_trod {fuel : Nat} {cs : List Value} {x : DataW H × List MemPlace} (h : DataW.trod enc Try.prog w 0 (fun _ => true) true fuel 24 cs = some x) :
    ∃ (f t : Int) (l : List Ms) (a : Option Addr) (cap : Nat), cs = [.int .i64 f, .int .i64 t, .slice a l.length cap] ∧ InR f ∧ InR t ∧ RwV msR w (fun _ => True) a cap l ∧ ∀ m ∈ l, MsR m := by
  obtain ⟨xs, n, rfl, _, hlen, hxs, hf⟩ := DataW.trod_struct Try.underlying24 h
  have hc : Try.prog.cellsOf 24 = 3 := by kernel_rfl
  have hc3 : Try.prog.cellsOf 3 = 1 := by kernel_rfl
  have hcM : Try.prog.cellsOf 22 = 1 := by kernel_rfl
  rw [hc] at hlen
  obtain ⟨c0, c1, c2, rfl⟩ : ∃ c0 c1 c2, cs = [c0, c1, c2] := by
    match cs, hlen with
    | [c0, c1, c2], _ => exact ⟨c0, c1, c2, rfl⟩
  obtain ⟨y0, y1, y2, rfl⟩ : ∃ y0 y1 y2, xs = [y0, y1, y2] := by
    have hxs2 : xs.length = 3 := by rw [hxs]; rfl
    match xs, hxs2 with
    | [y0, y1, y2], _ => exact ⟨y0, y1, y2, rfl⟩
  have f0 : DataW.trod enc Try.prog w 0 (fun _ => true) true n 3 ((List.drop 0 [c0, c1, c2]).take (Try.prog.cellsOf 3)) = some y0 := hf 0 _ rfl
  have f1 : DataW.trod enc Try.prog w 0 (fun _ => true) true n 3 ((List.drop 1 [c0, c1, c2]).take (Try.prog.cellsOf 3)) = some y1 := hf 1 _ rfl
  have f2 : DataW.trod enc Try.prog w 0 (fun _ => true) true n 22 ((List.drop 2 [c0, c1, c2]).take (Try.prog.cellsOf 22)) = some y2 := hf 2 _ rfl
  rw [hc3] at f0 f1
  rw [hcM] at f2
  obtain ⟨k, e0, _, wk⟩ := DataW.trod_int Try.underlying3 (x := y0) f0
  obtain ⟨k1, e1, _, wk1⟩ := DataW.trod_int Try.underlying3 (x := y1) f1
  simp at e0 e1
  subst e0 e1
  obtain ⟨l, a, cap, e2, hE, hR⟩ := msgs_of_trod (c := c2) f2
  exact ⟨k, k1, l, a, cap, by rw [e2], in_of_wf wk, in_of_wf wk1, hE, hR⟩
theorem pkt_of_Trod {v : Value} {d : DataW H} {p : List MemPlace} (h : DataW.Trod enc Try.prog w 0 (fun _ => true) true 24 v d p) : ∃ (f t : Int) (l : List Ms) (a : Option Addr) (cap : Nat), v = .agg #[.int .i64 f, .int .i64 t, .slice a l.length cap] ∧ InR f ∧ InR t ∧ RwV msR w (fun _ => True) a cap l ∧ ∀ m ∈ l, MsR m := by
  obtain ⟨fuel, hf⟩ := h
  obtain ⟨f, t, l, a, cap, e, h1, h2, hT⟩ := pkt_of_trod hf
  refine ⟨f, t, l, a, cap, ?_, h1, h2, hT⟩
  cases v with
  | agg cs =>
    have : cs.toList = [.int .i64 f, .int .i64 t, .slice a l.length cap] := e
    rw [show cs = ⟨cs.toList⟩ from rfl, this]
  | _ => have := congrArg List.length e; simp [Value.cells] at this
theorem msgs_of_Trod {v : Value} {d : DataW H} {p : List MemPlace} (h : DataW.Trod enc Try.prog w 0 (fun _ => true) true 22 v d p) (hv : ∃ a n c, v = .slice a n c) : ∃ (l : List Ms) (a : Option Addr) (cap : Nat), v = .slice a l.length cap ∧ RwV msR w (fun _ => True) a cap l ∧ ∀ m ∈ l, MsR m := by
  obtain ⟨a, n, c, rfl⟩ := hv
  obtain ⟨fuel, hf⟩ := h
  exact msgs_of_trod hf
theorem bytes_of_Trod {v : Value} {d : DataW H} {p : List MemPlace} (h : DataW.Trod enc Try.prog w 0 (fun _ => true) true 27 v d p) (hv : ∃ a n c, v = .slice a n c) : ∃ (l : BB) (a : Option Addr) (cap : Nat), v = .slice a l.length cap ∧ ReadsV w (.slice a l.length cap) l := by
  obtain ⟨a, n, c, rfl⟩ := hv
  obtain ⟨fuel, hf⟩ := h
  exact bytes_of_trod hf
end
end Go.Proofs.Ytcaddedkodjgcaa
