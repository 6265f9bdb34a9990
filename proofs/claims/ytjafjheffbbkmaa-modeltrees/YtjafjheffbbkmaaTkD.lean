/-
  Definitions that came in: what they read as.
-/
import Derived.Test.YtjafjheffbbkmaaDfW
import Derived.Test.YtjafjheffbbkmaaTake
import Derived.Test.YtjafjheffbbkmaaVReads2
import Derived.Deep.Slices
import Derived.SliceStrings
import Derived.SizedLaws
namespace Go.Proofs.Ytjafjheffbbkmaa
open Go.ChangeShapes Go.WideShapes Go.ChangeAt Go.RowKit
set_option linter.unusedVariables false
section
variable {H : Type} {enc : TypeId × Value → H} {w : World}
theorem getD_range {α : Type} (len : Nat) (T : Nat → α) (i : Nat) (hi : i < len) (z : α) : ((List.range len).map T).getD i z = T i := by
  rw [List.getD_eq_getElem?_getD, List.getElem?_map, List.getElem?_range hi]; rfl
set_option maxRecDepth 100000 in
theorem exs_of_trod {fuel : Nat} {c : Value} {x : DataW H × List MemPlace} (h : DataW.trod enc Try.prog w 0 (fun _ => true) true fuel 29 [c] = some x) :
    ∃ (l : List Tr) (a : Option Addr) (cap : Nat), c = .slice a l.length cap ∧ ExsV w (fun _ => True) (.slice a l.length cap) l := by
  have hc : Try.prog.cellsOf 31 = 4 := by kernel_rfl
  rcases DataW.trod_slice Try.underlying29 h with ⟨e3, _⟩ | ⟨a, len, cap, elems, rest, m2, hm2, e3, _, _, hl, hcm, hel, hin, _⟩
  · simp at e3
    subst e3
    exact ⟨[], none, 0, rfl, ExsV.nil w _⟩
  · simp at e3
    subst e3
    rw [hc] at hin
    have each : ∀ i, i < len → ∃ tt : Tr × Option Addr × Nat, (w.cell? ((a.add (i * 4)).add 0) = some (.int .i64 tt.1.kind) ∧ w.cell? ((a.add (i * 4)).add 1) = some (.int .i64 tt.1.n) ∧ w.cell? ((a.add (i * 4)).add 2) = some (.string (ba tt.1.name)) ∧ w.cell? ((a.add (i * 4)).add 3) = some (.slice tt.2.1 tt.1.kids.length tt.2.2)) ∧ TrV w (fun _ => True) (m2 + 1) (.agg #[.int .i64 tt.1.kind, .int .i64 tt.1.n, .string (ba tt.1.name), .slice tt.2.1 tt.1.kids.length tt.2.2]) tt.1 := by
      intro i hi
      have h1 := hin i hi
      have hi2 : i < elems.length := by omega
      rw [List.getElem?_eq_getElem hi2] at h1
      cases hcs : w.cells? 0 (a.add (i * 4)) 4 with
      | none => rw [hcs] at h1; simp at h1
      | some cs' =>
        rw [hcs] at h1
        obtain ⟨t, ta, tcap, e, hT⟩ := tre_of_trod m2 cs' _ h1
        obtain ⟨_, _, hcell⟩ := World.cells?_some hcs
        rw [e] at hcell
        exact ⟨(t, ta, tcap), ⟨hcell 0 (by decide), hcell 1 (by decide), hcell 2 (by decide), hcell 3 (by decide)⟩, hT⟩
    have inh : Inhabited (Tr × Option Addr × Nat) := ⟨(zeroT, none, 0)⟩
    obtain ⟨T, hT⟩ := Go.Deep.choose_lt each
    have hkl : ((List.range len).map fun i => (T i).1).length = len := by simp
    refine ⟨(List.range len).map fun i => (T i).1, some a, cap, by rw [hkl], m2 + 2, some a, cap, rfl, by show List.length _ ≤ _; rw [hkl]; exact hl, inR_zero, inR_zero, Nat.zero_le _, by show List.length _ ≤ _; rw [hkl]; unfold maxLen at hcm; omega, fun i hi => ?_⟩
    have hi' : i < len := by rw [← hkl]; exact hi
    obtain ⟨⟨h0, h1, h2, h3⟩, h4⟩ := hT i hi'
    have hg := getD_range len (fun i => (T i).1) i hi' zeroT
    have hspot : a.spot = none := by
      have := World.cell?_spot (hT 0 (by omega)).1.1
      simpa [Addr.add] using this
    obtain ⟨b, o, sp⟩ := a
    simp only at hspot
    subst hspot
    rw [addW, addW] at h0 h1 h2 h3
    refine ⟨b, o, _, _, _, _, rfl, trivial, h0, h1, h2, h3, ?_⟩
    show TrV w _ (m2 + 1) _ (((List.range len).map fun i => (T i).1).getD i zeroT)
    rw [hg]
    exact h4
set_option maxRecDepth 100000 in
theorem fl_of_trod {fuel : Nat} {cs : List Value} {x : DataW H × List MemPlace} (h : DataW.trod enc Try.prog w 0 (fun _ => true) true fuel 75 cs = some x) :
    ∃ (f : Fl) (a : Option Addr) (cap : Nat), cs = [.int .i64 f.to, .slice a f.ifs.length cap] ∧ InR f.to ∧ ExsV w (fun _ => True) (.slice a f.ifs.length cap) f.ifs := by
  obtain ⟨xs, n, rfl, _, hlen, hxs, hf⟩ := DataW.trod_struct Try.underlying75 h
  have hc : Try.prog.cellsOf 75 = 2 := by kernel_rfl
  have hc3 : Try.prog.cellsOf 3 = 1 := by kernel_rfl
  have hc29 : Try.prog.cellsOf 29 = 1 := by kernel_rfl
  rw [hc] at hlen
  obtain ⟨c0, c1, rfl⟩ : ∃ c0 c1, cs = [c0, c1] := by
    match cs, hlen with
    | [c0, c1], _ => exact ⟨c0, c1, rfl⟩
  obtain ⟨y0, y1, rfl⟩ : ∃ y0 y1, xs = [y0, y1] := by
    have hxs2 : xs.length = 2 := by rw [hxs]; rfl
    match xs, hxs2 with
    | [y0, y1], _ => exact ⟨y0, y1, rfl⟩
  have f0 : DataW.trod enc Try.prog w 0 (fun _ => true) true n 3 ((List.drop 0 [c0, c1]).take (Try.prog.cellsOf 3)) = some y0 := hf 0 _ rfl
  have f1 : DataW.trod enc Try.prog w 0 (fun _ => true) true n 29 ((List.drop 1 [c0, c1]).take (Try.prog.cellsOf 29)) = some y1 := hf 1 _ rfl
  rw [hc3] at f0
  rw [hc29] at f1
  obtain ⟨k, e0, _, wk⟩ := DataW.trod_int Try.underlying3 (x := y0) f0
  simp at e0
  subst e0
  obtain ⟨l, a, cap, e1, hE⟩ := exs_of_trod (c := c1) f1
  exact ⟨⟨k, l⟩, a, cap, by rw [e1], in_of_wf wk, hE⟩
set_option maxRecDepth 100000 in
theorem fls_of_trod {fuel : Nat} {c : Value} {x : DataW H × List MemPlace} (h : DataW.trod enc Try.prog w 0 (fun _ => true) true fuel 55 [c] = some x) :
    ∃ (l : List Fl) (a : Option Addr) (cap : Nat), c = .slice a l.length cap ∧ FlsV w (fun _ => True) (.slice a l.length cap) l := by
  have hc : Try.prog.cellsOf 75 = 2 := by kernel_rfl
  rcases DataW.trod_slice Try.underlying55 h with ⟨e3, _⟩ | ⟨a, len, cap, elems, rest, m2, hm2, e3, _, _, hl, hcm, hel, hin, _⟩
  · simp at e3
    subst e3
    exact ⟨[], none, 0, rfl, FlsV.nil w _⟩
  · simp at e3
    subst e3
    rw [hc] at hin
    have each : ∀ i, i < len → ∃ tt : Fl × Option Addr × Nat, (w.cell? ((a.add (i * 2)).add 0) = some (.int .i64 tt.1.to) ∧ w.cell? ((a.add (i * 2)).add 1) = some (.slice tt.2.1 tt.1.ifs.length tt.2.2)) ∧ InR tt.1.to ∧ ExsV w (fun _ => True) (.slice tt.2.1 tt.1.ifs.length tt.2.2) tt.1.ifs := by
      intro i hi
      have h1 := hin i hi
      have hi2 : i < elems.length := by omega
      rw [List.getElem?_eq_getElem hi2] at h1
      cases hcs : w.cells? 0 (a.add (i * 2)) 2 with
      | none => rw [hcs] at h1; simp at h1
      | some cs' =>
        rw [hcs] at h1
        obtain ⟨t, ta, tcap, e, hi, hT⟩ := fl_of_trod (fuel := m2) (cs := cs') h1
        obtain ⟨_, _, hcell⟩ := World.cells?_some hcs
        rw [e] at hcell
        exact ⟨(t, ta, tcap), ⟨hcell 0 (by decide), hcell 1 (by decide)⟩, hi, hT⟩
    have inh : Inhabited (Fl × Option Addr × Nat) := ⟨(zeroF, none, 0)⟩
    obtain ⟨T, hT⟩ := Go.Deep.choose_lt each
    have hkl : ((List.range len).map fun i => (T i).1).length = len := by simp
    refine ⟨(List.range len).map fun i => (T i).1, some a, cap, by rw [hkl], some a, cap, rfl, by rw [hkl]; exact hl, by rw [hkl]; unfold maxLen at hcm; omega, fun i hi => ?_⟩
    have hi' : i < len := by rw [← hkl]; exact hi
    obtain ⟨⟨h0, h1⟩, h2, h3⟩ := hT i hi'
    rw [getD_range len (fun i => (T i).1) i hi' zeroF]
    have hspot : a.spot = none := by
      have := World.cell?_spot (hT 0 (by omega)).1.1
      simpa [Addr.add] using this
    obtain ⟨b, o, sp⟩ := a
    simp only at hspot
    subst hspot
    rw [addW, addW] at h0 h1
    exact ⟨b, o, _, _, rfl, trivial, ⟨h0, h1, h3, h2⟩⟩
set_option maxRecDepth 100000 in
theorem pl_of_trod {fuel : Nat} {cs : List Value} {x : DataW H × List MemPlace} (h : DataW.trod enc Try.prog w 0 (fun _ => true) true fuel 57 cs = some x) :
    ∃ (p : Pl) (aa : Option Addr) (ca : Nat) (ao : Option Addr) (co : Nat), cs = [.int .i64 p.kind, .string (ba p.name), .int .i64 p.n, .slice aa p.arg.length ca, .slice ao p.out.length co] ∧ PlV w (fun _ => True) p aa ca ao co := by
  obtain ⟨xs, n, rfl, _, hlen, hxs, hf⟩ := DataW.trod_struct Try.underlying57 h
  have hc : Try.prog.cellsOf 57 = 5 := by kernel_rfl
  have hc3 : Try.prog.cellsOf 3 = 1 := by kernel_rfl
  have hc9 : Try.prog.cellsOf 9 = 1 := by kernel_rfl
  have hc29 : Try.prog.cellsOf 29 = 1 := by kernel_rfl
  have hc55 : Try.prog.cellsOf 55 = 1 := by kernel_rfl
  rw [hc] at hlen
  obtain ⟨c0, c1, c2, c3, c4, rfl⟩ : ∃ c0 c1 c2 c3 c4, cs = [c0, c1, c2, c3, c4] := by
    match cs, hlen with
    | [c0, c1, c2, c3, c4], _ => exact ⟨c0, c1, c2, c3, c4, rfl⟩
  obtain ⟨y0, y1, y2, y3, y4, rfl⟩ : ∃ y0 y1 y2 y3 y4, xs = [y0, y1, y2, y3, y4] := by
    have hxs2 : xs.length = 5 := by rw [hxs]; rfl
    match xs, hxs2 with
    | [y0, y1, y2, y3, y4], _ => exact ⟨y0, y1, y2, y3, y4, rfl⟩
  have f0 : DataW.trod enc Try.prog w 0 (fun _ => true) true n 3 ((List.drop 0 [c0, c1, c2, c3, c4]).take (Try.prog.cellsOf 3)) = some y0 := hf 0 _ rfl
  have f1 : DataW.trod enc Try.prog w 0 (fun _ => true) true n 9 ((List.drop 1 [c0, c1, c2, c3, c4]).take (Try.prog.cellsOf 9)) = some y1 := hf 1 _ rfl
  have f2 : DataW.trod enc Try.prog w 0 (fun _ => true) true n 3 ((List.drop 2 [c0, c1, c2, c3, c4]).take (Try.prog.cellsOf 3)) = some y2 := hf 2 _ rfl
  have f3 : DataW.trod enc Try.prog w 0 (fun _ => true) true n 29 ((List.drop 3 [c0, c1, c2, c3, c4]).take (Try.prog.cellsOf 29)) = some y3 := hf 3 _ rfl
  have f4 : DataW.trod enc Try.prog w 0 (fun _ => true) true n 55 ((List.drop 4 [c0, c1, c2, c3, c4]).take (Try.prog.cellsOf 55)) = some y4 := hf 4 _ rfl
  rw [hc3] at f0 f2
  rw [hc9] at f1
  rw [hc29] at f3
  rw [hc55] at f4
  obtain ⟨k, e0, _, wk⟩ := DataW.trod_int Try.underlying3 (x := y0) f0
  obtain ⟨s, e1, _, ws⟩ := DataW.trod_string Try.underlying9 (x := y1) f1
  obtain ⟨m, e2, _, wm⟩ := DataW.trod_int Try.underlying3 (x := y2) f2
  simp at e0 e1 e2
  subst e0; subst e1; subst e2
  have wsz : s.data.toList.length ≤ 9223372036854775807 := by rw [Array.length_toList]; exact ws
  obtain ⟨l, a, cap, e3, hE⟩ := exs_of_trod (c := c3) f3
  obtain ⟨lo, ao, co, e4, hF⟩ := fls_of_trod (c := c4) f4
  exact ⟨⟨k, s.data.toList, m, l, lo⟩, a, cap, ao, co, by rw [e3, e4]; simp [ba_of], in_of_wf wk, in_of_wf wm, wsz, hE, hF⟩
set_option maxRecDepth 100000 in
theorem pls_of_trod {fuel : Nat} {c : Value} {x : DataW H × List MemPlace} (h : DataW.trod enc Try.prog w 0 (fun _ => true) true fuel 22 [c] = some x) :
    ∃ (l : List Pl) (a : Option Addr) (cap : Nat), c = .slice a l.length cap ∧ PlsV w (fun _ => True) (.slice a l.length cap) l := by
  have hc : Try.prog.cellsOf 57 = 5 := by kernel_rfl
  rcases DataW.trod_slice Try.underlying22 h with ⟨e3, _⟩ | ⟨a, len, cap, elems, rest, m2, hm2, e3, _, _, hl, hcm, hel, hin, _⟩
  · simp at e3
    subst e3
    exact ⟨[], none, 0, rfl, PlsV.nil w _⟩
  · simp at e3
    subst e3
    rw [hc] at hin
    have each : ∀ i, i < len → ∃ tt : Pl × (Option Addr × Nat) × Option Addr × Nat, (w.cell? ((a.add (i * 5)).add 0) = some (.int .i64 tt.1.kind) ∧ w.cell? ((a.add (i * 5)).add 1) = some (.string (ba tt.1.name)) ∧ w.cell? ((a.add (i * 5)).add 2) = some (.int .i64 tt.1.n) ∧ w.cell? ((a.add (i * 5)).add 3) = some (.slice tt.2.1.1 tt.1.arg.length tt.2.1.2) ∧ w.cell? ((a.add (i * 5)).add 4) = some (.slice tt.2.2.1 tt.1.out.length tt.2.2.2)) ∧ PlV w (fun _ => True) tt.1 tt.2.1.1 tt.2.1.2 tt.2.2.1 tt.2.2.2 := by
      intro i hi
      have h1 := hin i hi
      have hi2 : i < elems.length := by omega
      rw [List.getElem?_eq_getElem hi2] at h1
      cases hcs : w.cells? 0 (a.add (i * 5)) 5 with
      | none => rw [hcs] at h1; simp at h1
      | some cs' =>
        rw [hcs] at h1
        obtain ⟨t, aa, ca, ao, co, e, hT⟩ := pl_of_trod (fuel := m2) (cs := cs') h1
        obtain ⟨_, _, hcell⟩ := World.cells?_some hcs
        rw [e] at hcell
        exact ⟨(t, (aa, ca), ao, co), ⟨hcell 0 (by decide), hcell 1 (by decide), hcell 2 (by decide), hcell 3 (by decide), hcell 4 (by decide)⟩, hT⟩
    have inh : Inhabited (Pl × (Option Addr × Nat) × Option Addr × Nat) := ⟨(zeroP, (none, 0), none, 0)⟩
    obtain ⟨T, hT⟩ := Go.Deep.choose_lt each
    have hkl : ((List.range len).map fun i => (T i).1).length = len := by simp
    refine ⟨(List.range len).map fun i => (T i).1, some a, cap, by rw [hkl], some a, cap, rfl, by rw [hkl]; exact hl, by rw [hkl]; unfold maxLen at hcm; omega, fun i hi => ?_⟩
    have hi' : i < len := by rw [← hkl]; exact hi
    obtain ⟨⟨h0, h1, h2, h3, h4⟩, h5⟩ := hT i hi'
    rw [getD_range len (fun i => (T i).1) i hi' zeroP]
    have hspot : a.spot = none := by
      have := World.cell?_spot (hT 0 (by omega)).1.1
      simpa [Addr.add] using this
    obtain ⟨b, o, sp⟩ := a
    simp only at hspot
    subst hspot
    rw [addW, addW] at h0 h1 h2 h3 h4
    exact ⟨b, o, _, _, _, _, rfl, trivial, ⟨h0, h1, h2, h3, h4, h5⟩⟩
set_option maxRecDepth 100000 in
theorem df_of_trod {fuel : Nat} {cs : List Value} {x : DataW H × List MemPlace} (h : DataW.trod enc Try.prog w 0 (fun _ => true) true fuel 24 cs = some x) :
    ∃ (d : Df) (a : Option Addr) (cap : Nat), cs = [.string (ba d.id), .slice a d.places.length cap] ∧ DfV w (fun _ => True) d a cap := by
  obtain ⟨xs, n, rfl, _, hlen, hxs, hf⟩ := DataW.trod_struct Try.underlying24 h
  have hc : Try.prog.cellsOf 24 = 2 := by kernel_rfl
  have hc9 : Try.prog.cellsOf 9 = 1 := by kernel_rfl
  have hc22 : Try.prog.cellsOf 22 = 1 := by kernel_rfl
  rw [hc] at hlen
  obtain ⟨c0, c1, rfl⟩ : ∃ c0 c1, cs = [c0, c1] := by
    match cs, hlen with
    | [c0, c1], _ => exact ⟨c0, c1, rfl⟩
  obtain ⟨y0, y1, rfl⟩ : ∃ y0 y1, xs = [y0, y1] := by
    have hxs2 : xs.length = 2 := by rw [hxs]; rfl
    match xs, hxs2 with
    | [y0, y1], _ => exact ⟨y0, y1, rfl⟩
  have f0 : DataW.trod enc Try.prog w 0 (fun _ => true) true n 9 ((List.drop 0 [c0, c1]).take (Try.prog.cellsOf 9)) = some y0 := hf 0 _ rfl
  have f1 : DataW.trod enc Try.prog w 0 (fun _ => true) true n 22 ((List.drop 1 [c0, c1]).take (Try.prog.cellsOf 22)) = some y1 := hf 1 _ rfl
  rw [hc9] at f0
  rw [hc22] at f1
  obtain ⟨s, e0, _, ws⟩ := DataW.trod_string Try.underlying9 (x := y0) f0
  simp at e0
  subst e0
  have wsz : s.data.toList.length ≤ 9223372036854775807 := by rw [Array.length_toList]; exact ws
  obtain ⟨l, a, cap, e1, hE⟩ := pls_of_trod (c := c1) f1
  exact ⟨⟨s.data.toList, l⟩, a, cap, by rw [e1]; simp [ba_of], wsz, hE⟩
theorem df_of_Trod {v : Value} {d : DataW H} {p : List MemPlace} (h : DataW.Trod enc Try.prog w 0 (fun _ => true) true 24 v d p) : ∃ (d : Df) (a : Option Addr) (cap : Nat), v = dfA d a cap ∧ DfV w (fun _ => True) d a cap := by
  obtain ⟨fuel, hf⟩ := h
  obtain ⟨t, a, cap, e, hT⟩ := df_of_trod hf
  refine ⟨t, a, cap, ?_, hT⟩
  cases v with
  | agg cs =>
    have : cs.toList = [.string (ba t.id), .slice a t.places.length cap] := e
    rw [show cs = ⟨cs.toList⟩ from rfl, this]; rfl
  | _ => have := congrArg List.length e; simp [Value.cells] at this
theorem bytes_of_Trod {v : Value} {d : DataW H} {p : List MemPlace} (h : DataW.Trod enc Try.prog w 0 (fun _ => true) true 32 v d p) (hv : ∃ a n c, v = .slice a n c) : ∃ l, V.ReadsV w v l := by
  obtain ⟨a, n, c, rfl⟩ := hv
  obtain ⟨fuel, hf⟩ := h
  rcases open_ints Try.underlying32 Try.underlying5 (by kernel_rfl) hf with ⟨hcs, _⟩ | ⟨x, l, cc, zs, hcs, _, hl, hm, hz, hx, hcell, hwz⟩
  · simp [Value.cells] at hcs
    obtain ⟨rfl, rfl, rfl⟩ := hcs
    exact ⟨[], V.ReadsV.nil w⟩
  · simp [Value.cells] at hcs
    obtain ⟨rfl, rfl, rfl⟩ := hcs
    obtain ⟨lb, hlb, rb⟩ := V.readsV_of (w := w) (a := some x) (len := n) (cap := c) (zs := zs) (.inr ⟨_, rfl, hl, hm, by simpa using hz, hcell, hwz⟩)
    exact ⟨lb, rb⟩
end
end Go.Proofs.Ytjafjheffbbkmaa
