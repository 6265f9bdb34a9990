/-
  A box that holds slices alone is none of the rows of members and messages.
-/
import Derived.Test.YtfmfphfckaiejaaJbd
import Derived.Test.YtfmfphfckaiejaaJag
import Derived.Test.YtfmfphfckaiejaaJat
namespace Go.Proofs.Ytfmfphfckaiejaa
open Go.RowKit
set_option linter.unusedVariables false


/-- Each cell of a block is a slice. -/
def Sls (w : World) (q : Nat) : Prop := ∀ p v, w.cell? ⟨q, p, none⟩ = some v → ∃ a n c, v = .slice a n c
theorem Sls.new2 (w : World) (a0 a1 : Option Addr) (n0 c0 n1 c1 : Nat) (t : TypeId) : Sls (w.alloc (.cells #[.slice a0 n0 c0, .slice a1 n1 c1] t)) w.heap.size := by
  intro p v h
  rw [cell_of_row _ _ _ _ t (0, 0) (heap_alloc_new w (.cells #[.slice a0 n0 c0, .slice a1 n1 c1] t))] at h
  match p with
  | 0 => cases h; exact ⟨_, _, _, rfl⟩
  | 1 => cases h; exact ⟨_, _, _, rfl⟩
  | p + 2 => cases h
theorem Sls.kept {w w' : World} {q : Nat} (h : Sls w q) (e : w'.heap[q]? = w.heap[q]?) : Sls w' q := fun p v hv => h p v ((cell_kept e _).symm.trans hv)
theorem Sls.ne {w : World} {q b p : Nat} {v : Value} (h : Sls w q) (hv : w.cell? ⟨b, p, none⟩ = some v) (hn : ∀ (a : Option Addr) (n c : Nat), v ≠ Value.slice a n c) : b ≠ q := fun e => by
  subst e
  obtain ⟨a, n, c, rfl⟩ := h _ _ hv
  exact hn _ _ _ rfl
section
variable {w : World} {q : Nat}
theorem bytes_off (h : Sls w q) {a : Option Addr} {c : Nat} {l : BB} (hr : ReadsV w (.slice a l.length c) l) : PV (fun g => g ≠ q) a l.length := fun h0 x hx => by
  obtain ⟨b, off, e1, _, hc⟩ := cells_of hr (by omega)
  rw [e1] at hx
  cases hx
  exact h.ne (hc 0 (by omega)) (fun _ _ _ e => by cases e)
theorem ens_off (h : Sls w q) {a : Option Addr} {c : Nat} {es : List En} (hr : EnsV w (fun _ => True) a c es) : EnsV w (fun g => g ≠ q) a c es := by
  obtain ⟨h1, h2, h3, h4⟩ := hr
  refine ⟨h1, h2, h3, fun i hi => ?_⟩
  obtain ⟨b, o, u0, u1, ⟨q1, _⟩, q2, q3, ka, kc, rfl, rfl, r3, r4, r5⟩ := h4 i hi
  refine ⟨b, o, _, _, ⟨q1, h.ne q2 fun _ _ _ e => by cases e⟩, q2, q3, ka, kc, rfl, rfl, r3, fun h0 x hx => ?_, r5⟩
  exact bytes_off h r3 (fun e => h0 (List.length_eq_zero_iff.1 e)) x hx
theorem rdl_off (h : Sls w q) {a : Option Addr} {c : Nat} {vs : List Value} (hr : RdL w a c vs) (hn : ∀ (i : Nat) (v : Value), vs[i]? = some v → ∀ (a : Option Addr) (n c : Nat), v ≠ Value.slice a n c) : PV (fun g => g ≠ q) a vs.length := fun h0 x hx => by
  rcases hr.cells with e | ⟨b, o, e, hc⟩
  · exact absurd e h0
  · rw [e] at hx
    cases hx
    have h1 := hc 0 (by omega)
    rw [List.getElem?_eq_getElem (by omega)] at h1
    exact h.ne h1 (hn 0 _ (List.getElem?_eq_getElem (by omega)))
theorem mb_off (h : Sls w q) {s : Ad} {m : Mb} (hm : MbV w (fun _ => True) s m) : MbV w (fun g => g ≠ q) s m := by
  obtain ⟨e, sn, sP, g, gP, x, xP, t, tP⟩ := hm
  refine ⟨ens_off h e, sn, bytes_off h sn, g, ?_, x, ?_, t, ?_⟩
  · have := rdl_off h g fun i v hv => by
      obtain ⟨y, _, rfl⟩ := List.mem_map.1 (List.mem_of_getElem? hv)
      exact fun _ _ _ e => by cases e
    rwa [List.length_map] at this
  · have := rdl_off h x.rd fun i v hv => by
      obtain ⟨y, _, rfl⟩ := List.mem_map.1 (List.mem_of_getElem? hv)
      exact fun _ _ _ e => by cases e
    rwa [List.length_map] at this
  · have := rdl_off h t.rd fun i v hv => by
      obtain ⟨y, _, rfl⟩ := List.mem_map.1 (List.mem_of_getElem? hv)
      exact fun _ _ _ e => by cases e
    rwa [List.length_map] at this
theorem ms_off (h : Sls w q) {s : Ax} {x : Ms} (hx : MsV w (fun _ => True) s x) : MsV w (fun g => g ≠ q) s x := ⟨ens_off h hx.e, hx.d, bytes_off h hx.d⟩
theorem wd_off (h : Sls w q) {ra : Option Addr} {rc : Nat} {na : Option Addr} {nc : Nat} {W : Wd} (hW : WdV w ra rc na nc W) : RwV mbR w (fun g => g ≠ q) ra rc W.R ∧ RwV msR w (fun g => g ≠ q) na nc W.net := by
  obtain ⟨⟨h1, h2, h3, h4⟩, k1, k2, k3, k4⟩ := hW
  refine ⟨⟨h1, h2, h3, fun i hi => ?_⟩, ⟨k1, k2, k3, fun i hi => ?_⟩⟩
  · obtain ⟨b, o, us, ⟨q1, _⟩, q2, s, q3, q4⟩ := h4 i hi
    have e0 := q2 0 (by decide)
    rw [q3] at e0
    exact ⟨b, o, us, ⟨q1, h.ne e0 fun _ _ _ e => by cases e⟩, q2, s, q3, mb_off h q4⟩
  · obtain ⟨b, o, us, ⟨q1, _⟩, q2, s, q3, q4⟩ := k4 i hi
    have e0 := q2 0 (by decide)
    rw [q3] at e0
    exact ⟨b, o, us, ⟨q1, h.ne e0 fun _ _ _ e => by cases e⟩, q2, s, q3, ms_off h q4⟩
/-- A box of two slices is put: a world stays. -/
theorem WdV.box (h : Sls w q) {ra : Option Addr} {rc : Nat} {na : Option Addr} {nc : Nat} {W : Wd} (hW : WdV w ra rc na nc W) {w' : World} (hk : ∀ g, g ≠ q → w'.heap[g]? = w.heap[g]?) : WdV w' ra rc na nc W := by
  obtain ⟨h1, h2⟩ := wd_off h hW
  exact ⟨h1.kept fun g hg _ => ⟨hk g hg, trivial⟩, h2.kept fun g hg _ => ⟨hk g hg, trivial⟩⟩
end
/-- A member whose numbers are so small may be at work. -/
theorem WfK.wf {K : Int} {m : Mb} (h : WfK K m) (hK : K ≤ 760) : WfM m ∧ m.es.length ≤ 800 := by
  have a1 := h.i3
  have a2 := h.t2
  have a3 := h.la
  have a4 := h.b1
  have a5 := h.c2
  have a6 := h.bt2
  have a7 := h.k2
  have a8 := h.w2
  refine ⟨⟨h.i1, h.i2, h.i3, h.t1, by omega, h.v1, h.v2, h.r1, h.r2, h.l1, h.l2, h.b1, by omega, h.bt1, by omega, ⟨by omega, fun j hj => ?_⟩, fun i hi => ?_, h.c1, by omega, Nat.le_trans h.sn (by decide), h.g1, h.g2, h.x1, h.x2, h.m2, fun i hi => ?_, fun i hi => ?_, h.k1, by omega, h.w1, by omega⟩, by omega⟩
  · have : m.es.getD j zE ∈ m.es := by rw [List.getD_eq_getElem?_getD, List.getElem?_eq_getElem hj]; exact List.getElem_mem hj
    have := (h.e _ this).2.2
    omega
  · have := tOf_k h.e h.k0 i
    omega
  · have := h.x3 i hi
    omega
  · have := h.m3 i hi
    omega
theorem WfY.wx {K : Int} {x : Ms} (h : WfY K x) (hK : K ≤ 760) : WfX x := by
  have a1 := h.f1
  have a2 := h.f2
  have a3 := h.t1
  have a4 := h.t2
  have a5 := h.a2
  have a6 := h.b2
  have a7 := h.c2
  have a8 := h.e2
  have a9 := h.a1
  refine ⟨⟨by omega, by omega⟩, ⟨by omega, by omega⟩, h.a1, by omega, h.b1, by omega, h.c1, by omega, ⟨by omega, fun j hj => ?_⟩, by omega, Nat.le_trans h.d (by decide)⟩
  have : x.ents.getD j zE ∈ x.ents := by rw [List.getD_eq_getElem?_getD, List.getElem?_eq_getElem hj]; exact List.getElem_mem hj
  have := (h.e _ this).2.2
  omega
end Go.Proofs.Ytfmfphfckaiejaa
