/-
  Variables that came in: what they read as.
-/
import Derived.Test.YtekhfepfaegpaaaWorks
import Derived.Deep.Slices
import Derived.SliceStrings
import Derived.SizedLaws
namespace Go.Proofs.Ytekhfepfaegpaaa
open Go.ChangeShapes Go.WideShapes Go.ChangeAt Go.RowKit
set_option linter.unusedVariables false

/-- What is known of variables that came in. -/
structure Came (w : World) (v : Value) (ns : List ByteArray) (vs : List Int) : Prop where
  rd : RdV w v ns vs
  sz : ∀ n ∈ ns, n.size ≤ 9223372036854775807
  i64 : ∀ x ∈ vs, I64 x
theorem i64_of_wf {n : Int} (h : (Lit.int .i64 n).wf = true) : I64 n := by
  simp only [Lit.wf, IntKind.min, IntKind.max, IntKind.signed, IntKind.bits, Bool.and_eq_true, decide_eq_true_eq, if_true] at h
  constructor <;> omega
theorem rd_of_row {w : World} {a : Addr} {len cap : Nat} {l : List Value} (hl : l.length = len) (hc : len ≤ cap) (hm : cap ≤ 9223372036854775807) (h : ∀ i u, l[i]? = some u → w.cell? (a.add i) = some u) : Rd w (.slice (some a) len cap) l := by
  subst hl
  refine ⟨some a, cap, rfl, (fun h => by cases h), hc, hm, ?_⟩
  cases l with
  | nil => exact .inl rfl
  | cons x r =>
    right
    have h0 := h 0 x rfl
    have hspot : a.spot = none := by simpa [Addr.add] using World.cell?_spot h0
    obtain ⟨b, off, sp⟩ := a
    simp only at hspot
    subst hspot
    refine ⟨b, off, rfl, ?_, fun i u hu => ?_⟩
    · have := World.block_lt_of_cell? w _ h0
      rwa [add_block] at this
    · have := h i u hu
      rwa [add_plain] at this
section
variable {H : Type} {enc : TypeId × Value → H} {w : World}
set_option maxRecDepth 100000 in
theorem came_of_trod {fuel : Nat} {cs : List Value} {x : DataW H × List MemPlace} (h : DataW.trod enc Try.prog w 0 (fun _ => true) true fuel 25 cs = some x) : ∃ sn sv ns vs, cs = [sn, sv] ∧ Came w (.agg #[sn, sv]) ns vs := by
  obtain ⟨xs, n, rfl, _, hlen, hxs, hf⟩ := DataW.trod_struct Try.underlying25 h
  have hc : Try.prog.cellsOf 25 = 2 := by kernel_rfl
  have hc22 : Try.prog.cellsOf 22 = 1 := by kernel_rfl
  have hc23 : Try.prog.cellsOf 23 = 1 := by kernel_rfl
  rw [hc] at hlen
  obtain ⟨c0, c1, rfl⟩ : ∃ c0 c1, cs = [c0, c1] := by
    match cs, hlen with
    | [c0, c1], _ => exact ⟨c0, c1, rfl⟩
  obtain ⟨y0, y1, rfl⟩ : ∃ y0 y1, xs = [y0, y1] := by
    have hxs2 : xs.length = 2 := by rw [hxs]; rfl
    match xs, hxs2 with
    | [y0, y1], _ => exact ⟨y0, y1, rfl⟩
  have f0 : DataW.trod enc Try.prog w 0 (fun _ => true) true n 22 ((List.drop 0 [c0, c1]).take (Try.prog.cellsOf 22)) = some y0 := hf 0 _ rfl
  have f1 : DataW.trod enc Try.prog w 0 (fun _ => true) true n 23 ((List.drop 1 [c0, c1]).take (Try.prog.cellsOf 23)) = some y1 := hf 1 _ rfl
  rw [hc22] at f0
  rw [hc23] at f1
  have hN : ∃ ns, Rd w c0 (strsV ns) ∧ ∀ m ∈ ns, m.size ≤ 9223372036854775807 := by
    rcases open_strings Try.underlying22 Try.underlying9 (by kernel_rfl) f0 with ⟨e, _⟩ | ⟨a, len, cap, ss, e, _, hl, hm, hs, _, hcell, hsz⟩
    · simp at e
      subst e
      exact ⟨[], Rd.nil w, by simp⟩
    · simp at e
      subst e
      simp only [if_true] at hs
      refine ⟨ss.take len, rd_of_row (by rw [strsV_len, List.length_take]; omega) hl hm (fun i u hu => ?_), fun m hm2 => hsz m (List.mem_of_mem_take hm2)⟩
      have hi : i < (ss.take len).length := by have := (List.getElem?_eq_some_iff.1 hu).1; rwa [strsV_len] at this
      rw [strsV_at hi] at hu
      have hi2 : i < ss.length := by rw [List.length_take] at hi; omega
      rw [hcell i hi2, ← hu]
      rw [List.length_take] at hi
      simp [List.getD_eq_getElem?_getD, hi2, show i < len by omega]
  have hV : ∃ vs, Rd w c1 (intsV vs) ∧ ∀ m ∈ vs, I64 m := by
    rcases open_ints Try.underlying23 Try.underlying2 (by kernel_rfl) f1 with ⟨e, _⟩ | ⟨a, len, cap, ss, e, _, hl, hm, hs, _, hcell, hsz⟩
    · simp at e
      subst e
      exact ⟨[], Rd.nil w, by simp⟩
    · simp at e
      subst e
      simp only [if_true] at hs
      refine ⟨ss.take len, rd_of_row (by rw [intsV_len, List.length_take]; omega) hl hm (fun i u hu => ?_), fun m hm2 => i64_of_wf (hsz m (List.mem_of_mem_take hm2))⟩
      have hi : i < (ss.take len).length := by have := (List.getElem?_eq_some_iff.1 hu).1; rwa [intsV_len] at this
      rw [intsV_at hi] at hu
      have hi2 : i < ss.length := by rw [List.length_take] at hi; omega
      rw [hcell i hi2, ← hu]
      rw [List.length_take] at hi
      simp [List.getD_eq_getElem?_getD, hi2, show i < len by omega]
  obtain ⟨ns, hN1, hN2⟩ := hN
  obtain ⟨vs, hV1, hV2⟩ := hV
  exact ⟨c0, c1, ns, vs, rfl, ⟨_, _, rfl, hN1, hV1⟩, hN2, hV2⟩
theorem came_of_Trod {v : Value} {d : DataW H} {p : List MemPlace} (h : DataW.Trod enc Try.prog w 0 (fun _ => true) true 25 v d p) : ∃ ns vs, Came w v ns vs := by
  obtain ⟨fuel, hf⟩ := h
  obtain ⟨sn, sv, ns, vs, e, hT⟩ := came_of_trod hf
  refine ⟨ns, vs, ?_⟩
  cases v with
  | agg cs =>
    have : cs.toList = [sn, sv] := e
    rw [show cs = ⟨cs.toList⟩ from rfl, this]
    exact hT
  | _ => have := congrArg List.length e; simp [Value.cells] at this
theorem bytes_of_Trod {v : Value} {d : DataW H} {p : List MemPlace} (h : DataW.Trod enc Try.prog w 0 (fun _ => true) true 42 v d p) (hv : ∃ a n c, v = .slice a n c) : ∃ l, ReadsV w v l := by
  obtain ⟨a, n, c, rfl⟩ := hv
  obtain ⟨fuel, hf⟩ := h
  rcases open_ints Try.underlying42 Try.underlying5 (by kernel_rfl) hf with ⟨hcs, _⟩ | ⟨x, l, cc, zs, hcs, _, hl, hm, hz, hx, hcell, hwz⟩
  · simp [Value.cells] at hcs
    obtain ⟨rfl, rfl, rfl⟩ := hcs
    exact ⟨[], ReadsV.nil w⟩
  · simp [Value.cells] at hcs
    obtain ⟨rfl, rfl, rfl⟩ := hcs
    obtain ⟨lb, hlb, rb⟩ := readsV_of (w := w) (a := some x) (len := n) (cap := c) (zs := zs) (.inr ⟨_, rfl, hl, hm, by simpa using hz, hcell, hwz⟩)
    exact ⟨lb, rb⟩
end
end Go.Proofs.Ytekhfepfaegpaaa
