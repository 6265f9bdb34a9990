/-
  Trees that came in: what they read as.
-/
import Derived.Test.YtjafjheffbbkmaaCheck
import Derived.Deep.Slices
import Derived.SizedLaws
namespace Go.Proofs.Ytjafjheffbbkmaa
open Go.ChangeShapes Go.WideShapes Go.ChangeAt Go.RowKit
set_option linter.unusedVariables false


theorem addW (b off i : Nat) : (⟨b, off, none⟩ : Addr).add i = ⟨b, off + i, none⟩ := by unfold Addr.add; split <;> simp_all
theorem in_of_wf {n : Int} (h : (Lit.int .i64 n).wf = true) : InR n := by
  simp only [Lit.wf, IntKind.min, IntKind.max, IntKind.signed, IntKind.bits, Bool.and_eq_true, decide_eq_true_eq, if_true] at h
  constructor <;> omega
section
variable {H : Type} {enc : TypeId × Value → H} {w : World}
set_option maxRecDepth 100000 in
theorem tre_of_trod : ∀ (fuel : Nat) (cs : List Value) (x : DataW H × List MemPlace), DataW.trod enc Try.prog w 0 (fun _ => true) true fuel 31 cs = some x →
    ∃ (t : Tr) (a : Option Addr) (cap : Nat), cs = [.int .i64 t.kind, .int .i64 t.n, .string (ba t.name), .slice a t.kids.length cap] ∧ TrV w (fun _ => True) (fuel + 1) (.agg #[.int .i64 t.kind, .int .i64 t.n, .string (ba t.name), .slice a t.kids.length cap]) t := by
  intro fuel
  induction fuel using Nat.strongRecOn with
  | ind fuel ih =>
    intro cs x h
    obtain ⟨xs, n, rfl, _, hlen, hxs, hf⟩ := DataW.trod_struct Try.underlying31 h
    have hc : Try.prog.cellsOf 31 = 4 := by kernel_rfl
    have hc3 : Try.prog.cellsOf 3 = 1 := by kernel_rfl
    have hc2 : Try.prog.cellsOf 2 = 1 := by kernel_rfl
    have hc9 : Try.prog.cellsOf 9 = 1 := by kernel_rfl
    have hc22 : Try.prog.cellsOf 29 = 1 := by kernel_rfl
    rw [hc] at hlen
    obtain ⟨c0, c1, c2, c3, rfl⟩ : ∃ c0 c1 c2 c3, cs = [c0, c1, c2, c3] := by
      match cs, hlen with
      | [c0, c1, c2, c3], _ => exact ⟨c0, c1, c2, c3, rfl⟩
    obtain ⟨y0, y1, y2, y3, rfl⟩ : ∃ y0 y1 y2 y3, xs = [y0, y1, y2, y3] := by
      have hxs4 : xs.length = 4 := by rw [hxs]; rfl
      match xs, hxs4 with
      | [y0, y1, y2, y3], _ => exact ⟨y0, y1, y2, y3, rfl⟩
    have f0 : DataW.trod enc Try.prog w 0 (fun _ => true) true n 3 ((List.drop 0 [c0, c1, c2, c3]).take (Try.prog.cellsOf 3)) = some y0 := hf 0 _ rfl
    have f1 : DataW.trod enc Try.prog w 0 (fun _ => true) true n 2 ((List.drop 1 [c0, c1, c2, c3]).take (Try.prog.cellsOf 2)) = some y1 := hf 1 _ rfl
    have f2 : DataW.trod enc Try.prog w 0 (fun _ => true) true n 9 ((List.drop 2 [c0, c1, c2, c3]).take (Try.prog.cellsOf 9)) = some y2 := hf 2 _ rfl
    have f3 : DataW.trod enc Try.prog w 0 (fun _ => true) true n 29 ((List.drop 3 [c0, c1, c2, c3]).take (Try.prog.cellsOf 29)) = some y3 := hf 3 _ rfl
    rw [hc3] at f0
    rw [hc2] at f1
    rw [hc9] at f2
    rw [hc22] at f3
    obtain ⟨k, e0, _, wk⟩ := DataW.trod_int Try.underlying3 (x := y0) f0
    obtain ⟨m, e1, _, wm⟩ := DataW.trod_int Try.underlying2 (x := y1) f1
    obtain ⟨s, e2, _, ws⟩ := DataW.trod_string Try.underlying9 (x := y2) f2
    simp at e0 e1 e2
    subst e0; subst e1; subst e2
    have hk : InR k := in_of_wf wk
    have hm : InR m := in_of_wf wm
    have wsz : s.data.toList.length ≤ 9223372036854775807 := by rw [Array.length_toList]; exact ws
    rcases DataW.trod_slice Try.underlying29 (x := y3) f3 with ⟨e3, _⟩ | ⟨a, len, cap, elems, rest, m2, hm2, e3, _, _, hl, hcm, hel, hin, _⟩
    · simp at e3
      subst e3
      refine ⟨⟨k, m, s.data.toList, []⟩, none, 0, by simp [ba_of], none, 0, rfl, Nat.le_refl _, hk, hm, wsz, Nat.zero_le _, fun i hi => by simp at hi⟩
    · simp at e3
      subst e3
      rw [hc] at hin
      have each : ∀ i, i < len → ∃ tt : Tr × Option Addr × Nat, (w.cell? ((a.add (i * 4)).add 0) = some (.int .i64 tt.1.kind) ∧ w.cell? ((a.add (i * 4)).add 1) = some (.int .i64 tt.1.n) ∧ w.cell? ((a.add (i * 4)).add 2) = some (.string (ba tt.1.name)) ∧ w.cell? ((a.add (i * 4)).add 3) = some (.slice tt.2.1 tt.1.kids.length tt.2.2)) ∧ TrV w (fun _ => True) (m2 + 1) (.agg #[.int .i64 tt.1.kind, .int .i64 tt.1.n, .string (ba tt.1.name), .slice tt.2.1 tt.1.kids.length tt.2.2]) tt.1 := by
        intro i hi
        have h1 := hin i hi
        have hi2 : i < elems.length := by omega
        rw [List.getElem?_eq_getElem hi2] at h1
        cases hcs : w.cells? 0 (a.add (i * 4)) 4 with
        | none => rw [hcs] at h1; simp at h1
        | some cs' =>
          rw [hcs] at h1
          obtain ⟨t, ta, tcap, e, hT⟩ := ih m2 (by omega) cs' _ h1
          obtain ⟨_, _, hcell⟩ := World.cells?_some hcs
          rw [e] at hcell
          exact ⟨(t, ta, tcap), ⟨hcell 0 (by decide), hcell 1 (by decide), hcell 2 (by decide), hcell 3 (by decide)⟩, hT⟩
      have inh : Inhabited (Tr × Option Addr × Nat) := ⟨(zeroT, none, 0)⟩
      obtain ⟨T, hT⟩ := Go.Deep.choose_lt each
      have hkl : ((List.range len).map fun i => (T i).1).length = len := by simp
      refine ⟨⟨k, m, s.data.toList, (List.range len).map fun i => (T i).1⟩, some a, cap, by simp [ba_of], some a, cap, by simp, by show List.length _ ≤ _; rw [hkl]; exact hl, hk, hm, wsz, by show List.length _ ≤ _; rw [hkl]; unfold maxLen at hcm; omega, fun i hi => ?_⟩
      have hi' : i < len := by rw [← hkl]; exact hi
      obtain ⟨⟨h0, h1, h2, h3⟩, h4⟩ := hT i hi'
      have hg : ((List.range len).map fun i => (T i).1).getD i zeroT = (T i).1 := by
        rw [List.getD_eq_getElem?_getD, List.getElem?_map, List.getElem?_range hi']; rfl
      have hspot : a.spot = none := by
        have := World.cell?_spot (hT 0 (by omega)).1.1
        simpa [Addr.add] using this
      obtain ⟨b, o, sp⟩ := a
      simp only at hspot
      subst hspot
      rw [addW, addW] at h0 h1 h2 h3
      refine ⟨b, o, _, _, _, _, rfl, trivial, h0, h1, h2, h3, ?_⟩
      show TrV w _ (n + 1) _ (((List.range len).map fun i => (T i).1).getD i zeroT)
      rw [hg]
      exact h4.mono (by omega)
theorem tre_of_Trod {v : Value} {d : DataW H} {p : List MemPlace} (h : DataW.Trod enc Try.prog w 0 (fun _ => true) true 31 v d p) : ∃ (t : Tr) (a : Option Addr) (cap : Nat), v = .agg #[.int .i64 t.kind, .int .i64 t.n, .string (ba t.name), .slice a t.kids.length cap] ∧ Tre w (fun _ => True) (.agg #[.int .i64 t.kind, .int .i64 t.n, .string (ba t.name), .slice a t.kids.length cap]) t := by
  obtain ⟨fuel, hf⟩ := h
  obtain ⟨t, a, cap, e, hT⟩ := tre_of_trod fuel _ _ hf
  refine ⟨t, a, cap, ?_, fuel + 1, hT⟩
  cases v with
  | agg cs =>
    have : cs.toList = [.int .i64 t.kind, .int .i64 t.n, .string (ba t.name), .slice a t.kids.length cap] := e
    rw [show cs = ⟨cs.toList⟩ from rfl, this]
  | _ => have := congrArg List.length e; simp [Value.cells] at this
end
end Go.Proofs.Ytjafjheffbbkmaa
