/-
  A box of zeros is none of the rows of members and messages whose numbers are at work.
-/
import Derived.Test.YtfmfphfckaiejaaJbe
import Derived.Test.YtfmfphfckaiejaaJag
import Derived.Test.YtfmfphfckaiejaaJcr
import Derived.Test.YtfmfphfckaiejaaJau
namespace Go.Proofs.Ytfmfphfckaiejaa
section
open Go.RowKit
set_option linter.unusedVariables false


/-- What a new box holds. -/
def Zv (v : Value) : Prop := v = .int .i64 0 ∨ v = .bool false ∨ ∃ a n c, v = .slice a n c
/-- Each cell of a block is what a new box holds. -/
def Zro (w : World) (q : Nat) : Prop := ∀ p v, w.cell? ⟨q, p, none⟩ = some v → Zv v
theorem Zv.int {k : Int} (h : 1 ≤ k) : ¬ Zv (.int .i64 k) := fun q => by
  rcases q with e | e | ⟨a, n, c, e⟩
  · injection e with e1 e2
    omega
  · cases e
  · cases e
theorem Zv.yes : ¬ Zv (.bool true) := fun q => by rcases q with e | e | ⟨a, n, c, e⟩ <;> cases e
theorem Zv.byte {k : Int} : ¬ Zv (.int .u8 k) := fun q => by rcases q with e | e | ⟨a, n, c, e⟩ <;> cases e
theorem Zro.of {w : World} {os : List Value} {t : TypeId} (h : ∀ v, v ∈ os → Zv v) : Zro (w.alloc (.cells os.toArray t)) w.heap.size := by
  intro p v hv
  have k := heap_alloc_new w (.cells os.toArray t)
  rw [cell_of_row _ _ _ _ t (0, 0) k] at hv
  have hv : os.toArray[p]? = some v := hv
  rw [List.getElem?_toArray] at hv
  exact h v (List.mem_of_getElem? hv)
theorem Zro.kept {w w' : World} {q : Nat} (h : Zro w q) (e : w'.heap[q]? = w.heap[q]?) : Zro w' q := fun p v hv => h p v ((cell_kept e _).symm.trans hv)
theorem Zro.ne {w : World} {q b p : Nat} {v : Value} (h : Zro w q) (hv : w.cell? ⟨b, p, none⟩ = some v) (hn : ¬ Zv v) : b ≠ q := fun e => by
  subst e
  exact hn (h _ _ hv)
section
variable {w : World} {q : Nat}
theorem bytes_offz (h : Zro w q) {a : Option Addr} {c : Nat} {l : BB} (hr : ReadsV w (.slice a l.length c) l) : PV (fun g => g ≠ q) a l.length := fun h0 x hx => by
  obtain ⟨b, off, e1, _, hc⟩ := cells_of hr (by omega)
  rw [e1] at hx
  cases hx
  exact h.ne (hc 0 (by omega)) Zv.byte
theorem ens_offz (h : Zro w q) {a : Option Addr} {c : Nat} {es : List En} (hr : EnsV w (fun _ => True) a c es) (hz : ∀ y, y ∈ es → 1 ≤ y.1) : EnsV w (fun g => g ≠ q) a c es := by
  obtain ⟨h1, h2, h3, h4⟩ := hr
  refine ⟨h1, h2, h3, fun i hi => ?_⟩
  obtain ⟨b, o, u0, u1, ⟨q1, _⟩, q2, q3, ka, kc, rfl, rfl, r3, r4, r5⟩ := h4 i hi
  have hm : es.getD i zE ∈ es := by rw [List.getD_eq_getElem?_getD, List.getElem?_eq_getElem hi]; exact List.getElem_mem hi
  refine ⟨b, o, _, _, ⟨q1, h.ne q2 (Zv.int (hz _ hm))⟩, q2, q3, ka, kc, rfl, rfl, r3, fun h0 x hx => ?_, r5⟩
  exact bytes_offz h r3 (fun e => h0 (List.length_eq_zero_iff.1 e)) x hx
theorem rdl_offz (h : Zro w q) {a : Option Addr} {c : Nat} {vs : List Value} (hr : RdL w a c vs) (hn : vs.length ≠ 0 → ∃ (i : Nat) (v : Value), vs[i]? = some v ∧ ¬ Zv v) : PV (fun g => g ≠ q) a vs.length := fun h0 x hx => by
  rcases hr.cells with e | ⟨b, o, e, hc⟩
  · exact absurd e h0
  · rw [e] at hx
    cases hx
    obtain ⟨i, v, h1, h2⟩ := hn h0
    have h3 : i < vs.length := by
      rcases Nat.lt_or_ge i vs.length with z | z
      · exact z
      · rw [List.getElem?_eq_none z] at h1; cases h1
    exact h.ne ((hc i h3).trans h1) h2
theorem il_offz (h : Zro w q) {a : Option Addr} {c : Nat} {l : List Int} (hr : IlV w a c l) (hn : l.length ≠ 0 → ∃ i : Nat, 1 ≤ l.getD i 0) : PV (fun g => g ≠ q) a l.length := by
  have := rdl_offz h hr.rd fun h0 => by
    rw [List.length_map] at h0
    obtain ⟨i, hi⟩ := hn h0
    have hl : i < l.length := by
      rcases Nat.lt_or_ge i l.length with z | z
      · exact z
      · rw [List.getD_eq_getElem?_getD, List.getElem?_eq_none z] at hi
        exact absurd hi (by decide)
    refine ⟨i, _, by rw [List.getElem?_map, List.getElem?_eq_getElem hl]; rfl, Zv.int ?_⟩
    rw [List.getD_eq_getElem?_getD, List.getElem?_eq_getElem hl] at hi
    exact hi
  rwa [List.length_map] at this
theorem bl_offz (h : Zro w q) {a : Option Addr} {c : Nat} {l : List Bool} (hr : BlV w a c l) (hn : l.length ≠ 0 → ∃ i : Nat, l.getD i false = true) : PV (fun g => g ≠ q) a l.length := by
  have := rdl_offz h hr fun h0 => by
    rw [List.length_map] at h0
    obtain ⟨i, hi⟩ := hn h0
    have hl : i < l.length := by
      rcases Nat.lt_or_ge i l.length with z | z
      · exact z
      · rw [List.getD_eq_getElem?_getD, List.getElem?_eq_none z] at hi
        cases hi
    rw [List.getD_eq_getElem?_getD, List.getElem?_eq_getElem hl] at hi
    refine ⟨i, _, by rw [List.getElem?_map, List.getElem?_eq_getElem hl]; rfl, ?_⟩
    have e : l[i] = true := hi
    rw [e]
    exact Zv.yes
  rwa [List.length_map] at this
theorem mb_offz {K : Int} (h : Zro w q) {s : Ad} {m : Mb} (hm : MbV w (fun _ => True) s m) (hk : WfK K m) (hz : WfZ m) : MbV w (fun g => g ≠ q) s m := by
  obtain ⟨e, sn, sP, g, gP, x, xP, t, tP⟩ := hm
  refine ⟨ens_offz h e hz.e, sn, bytes_offz h sn, g, bl_offz h g fun h0 => ?_, x, il_offz h x fun h0 => ?_, t, il_offz h t fun h0 => ?_⟩
  · by_cases r : m.role = 1 ∨ m.role = 2
    · exact ⟨_, hz.gr r⟩
    · exact absurd (by rw [hz.n2 r]; rfl) h0
  · by_cases r : m.role = 3
    · exact ⟨0, (hk.x3 0 (by omega)).1⟩
    · exact absurd (by rw [(hz.n1 r).1]; rfl) h0
  · by_cases r : m.role = 3
    · exact ⟨_, hz.ma r⟩
    · exact absurd (by rw [(hz.n1 r).2]; rfl) h0
theorem ms_offz (h : Zro w q) {s : Ax} {x : Ms} (hx : MsV w (fun _ => True) s x) (hz : YZ x) : MsV w (fun g => g ≠ q) s x := ⟨ens_offz h hx.e hz, hx.d, bytes_offz h hx.d⟩
theorem mbs_offz (h : Zro w q) {a : Option Addr} {c : Nat} {l : List Mb} (hl : RwV mbR w (fun _ => True) a c l) (hz : ∀ i, i < l.length → (∃ K, WfK K (l.getD i zMb)) ∧ WfZ (l.getD i zMb)) : RwV mbR w (fun g => g ≠ q) a c l := by
  obtain ⟨h1, h2, h3, h4⟩ := hl
  refine ⟨h1, h2, h3, fun i hi => ?_⟩
  obtain ⟨b, o, us, ⟨q1, _⟩, q2, s, q3, q4⟩ := h4 i hi
  obtain ⟨⟨K, hk⟩, hw⟩ := hz i hi
  have e0 := q2 0 (by decide)
  rw [q3] at e0
  exact ⟨b, o, us, ⟨q1, h.ne e0 (Zv.int hk.i1)⟩, q2, s, q3, mb_offz h q4 hk hw⟩
theorem mss_offz (h : Zro w q) {a : Option Addr} {c : Nat} {l : List Ms} (hl : RwV msR w (fun _ => True) a c l) (hz : ∀ i, i < l.length → 1 ≤ (l.getD i zMs).frm ∧ YZ (l.getD i zMs)) : RwV msR w (fun g => g ≠ q) a c l := by
  obtain ⟨h1, h2, h3, h4⟩ := hl
  refine ⟨h1, h2, h3, fun i hi => ?_⟩
  obtain ⟨b, o, us, ⟨q1, _⟩, q2, s, q3, q4⟩ := h4 i hi
  obtain ⟨hf, hy⟩ := hz i hi
  have e0 := q2 2 (by decide)
  rw [q3] at e0
  exact ⟨b, o, us, ⟨q1, h.ne e0 (Zv.int hf)⟩, q2, s, q3, ms_offz h q4 hy⟩
theorem memD {α : Type} {l : List α} {i : Nat} {z : α} (h : i < l.length) : l.getD i z ∈ l := by rw [List.getD_eq_getElem?_getD, List.getElem?_eq_getElem h]; exact List.getElem_mem h
/-- A world stays when a box of zeros is put. -/
theorem WdV.boxz {K : Int} (h : Zro w q) {ra : Option Addr} {rc : Nat} {na : Option Addr} {nc : Nat} {W : Wd} (hW : WdV w ra rc na nc W) (hk : WdK K W) (hz : WdZ W) {w' : World} (ho : ∀ g, g ≠ q → w'.heap[g]? = w.heap[g]?) : WdV w' ra rc na nc W := by
  obtain ⟨h1, h2⟩ := hW
  exact ⟨(mbs_offz h h1 fun i hi => ⟨⟨K, hk.R i hi⟩, hz.R i hi⟩).kept fun g hg _ => ⟨ho g hg, trivial⟩, (mss_offz h h2 fun i hi => ⟨(hk.X _ (memD hi)).f1, hz.X _ (memD hi)⟩).kept fun g hg _ => ⟨ho g hg, trivial⟩⟩
theorem MsV.boxz (h : Zro w q) {s : Ax} {x : Ms} (hx : MsV w (fun _ => True) s x) (hz : YZ x) {w' : World} (ho : ∀ g, g ≠ q → w'.heap[g]? = w.heap[g]?) : MsV w' (fun _ => True) s x := (ms_offz h hx hz).kept fun g hg _ => ⟨ho g hg, trivial⟩
theorem MbV.boxz {K : Int} (h : Zro w q) {s : Ad} {m : Mb} (hm : MbV w (fun _ => True) s m) (hk : WfK K m) (hz : WfZ m) {w' : World} (ho : ∀ g, g ≠ q → w'.heap[g]? = w.heap[g]?) : MbV w' (fun _ => True) s m := (mb_offz h hm hk hz).kept fun g hg _ => ⟨ho g hg, trivial⟩
theorem mss_boxz (h : Zro w q) {a : Option Addr} {c : Nat} {l : List Ms} (hl : RwV msR w (fun _ => True) a c l) (hz : ∀ x, x ∈ l → 1 ≤ x.frm ∧ YZ x) {w' : World} (ho : ∀ g, g ≠ q → w'.heap[g]? = w.heap[g]?) : RwV msR w' (fun _ => True) a c l := (mss_offz h hl fun i hi => hz _ (memD hi)).kept fun g hg _ => ⟨ho g hg, trivial⟩
end
end
section
open Go.RowKit
set_option linter.unusedVariables false
set_option linter.unusedSimpArgs false


/-- Behind take: its two results in boxes. -/
structure R12 (w wz : World) (z9 z10 : Nat) (ra : Option Addr) (rc : Nat) (na : Option Addr) (nc : Nat) (W : Wd) (o : Op) (da : Option Addr) (dc : Nat) (s : Ad) (m : Mb) (V : Wd) (x : Ms) (na2 : Option Addr) (nc2 : Nat) (ax : Ax) : Prop where
  a : Sd w wz ra rc na nc W o da dc s m
  v : Cl2 wz z9 (.slice ra W.R.length rc) (.slice na2 V.net.length nc2)
  y : Cl11 wz z10 (.int .i64 x.kind) (.int .i64 x.grp) (.int .i64 x.frm) (.int .i64 x.to) (.int .i64 x.term) (.int .i64 x.at_) (.int .i64 x.att) (.int .i64 x.commit) (.bool x.ok) (.slice ax.ea x.ents.length ax.ec) (.slice ax.da x.data.length ax.dc)
  W : WdV wz ra rc na2 nc2 V
  X : MsV wz (fun _ => True) ax x
  n9 : w.heap.size + 1 + 1 + 1 + 1 ≤ z9
  n10 : w.heap.size + 1 + 1 + 1 + 1 ≤ z10
/-- Two boxes of zeros, and what take told. -/
structure B12 (w wq : World) (z9 z10 : Nat) (ra : Option Addr) (rc : Nat) (na : Option Addr) (nc : Nat) (W : Wd) (o : Op) (da : Option Addr) (dc : Nat) (s : Ad) (m : Mb) (V : Wd) (x : Ms) (na2 : Option Addr) (nc2 : Nat) (ax : Ax) : Prop where
  a : Sd w wq ra rc na nc W o da dc s m
  v : Cl2 wq z9 (.slice none 0 0) (.slice none 0 0)
  vz : Zro wq z9
  y : Cl11 wq z10 (.int .i64 0) (.int .i64 0) (.int .i64 0) (.int .i64 0) (.int .i64 0) (.int .i64 0) (.int .i64 0) (.int .i64 0) (.bool false) (.slice none 0 0) (.slice none 0 0)
  yz : Zro wq z10
  W : WdV wq ra rc na2 nc2 V
  X : MsV wq (fun _ => True) ax x
  n9 : w.heap.size + 1 + 1 + 1 + 1 ≤ z9
  n10 : w.heap.size + 1 + 1 + 1 + 1 ≤ z10
section
variable {w wq : World} {z9 z10 : Nat} {ra : Option Addr} {rc : Nat} {na : Option Addr} {nc : Nat} {W : Wd} {o : Op} {da : Option Addr} {dc : Nat} {s : Ad} {m : Mb} {V : Wd} {x : Ms} {na2 : Option Addr} {nc2 : Nat} {ax : Ax}
theorem B12.fin (h : B12 w wq z9 z10 ra rc na nc W o da dc s m V x na2 nc2 ax) {K : Int} (hk : WdK K V) (hz : WdZ V) (hy : YZ x) (hne : z9 ≠ z10) : R12 w (((((((((((((wq.setCell ⟨z9, 0, none⟩ (.slice ra W.R.length rc)).setCell ⟨z9, 1, none⟩ (.slice na2 V.net.length nc2)).setCell ⟨z10, 0, none⟩ (.int .i64 x.kind)).setCell ⟨z10, 1, none⟩ (.int .i64 x.grp)).setCell ⟨z10, 2, none⟩ (.int .i64 x.frm)).setCell ⟨z10, 3, none⟩ (.int .i64 x.to)).setCell ⟨z10, 4, none⟩ (.int .i64 x.term)).setCell ⟨z10, 5, none⟩ (.int .i64 x.at_)).setCell ⟨z10, 6, none⟩ (.int .i64 x.att)).setCell ⟨z10, 7, none⟩ (.int .i64 x.commit)).setCell ⟨z10, 8, none⟩ (.bool x.ok)).setCell ⟨z10, 9, none⟩ (.slice ax.ea x.ents.length ax.ec)).setCell ⟨z10, 10, none⟩ (.slice ax.da x.data.length ax.dc)) z9 z10 ra rc na nc W o da dc s m V x na2 nc2 ax := by
  have h9 : ∀ g, g ≠ z9 → ((wq.setCell ⟨z9, 0, none⟩ (.slice ra W.R.length rc)).setCell ⟨z9, 1, none⟩ (.slice na2 V.net.length nc2)).heap[g]? = wq.heap[g]? := fun g hg => (heap_other hg).trans (heap_other hg)
  have hb9 : Below (w.heap.size + 1 + 1 + 1 + 1) wq ((wq.setCell ⟨z9, 0, none⟩ (.slice ra W.R.length rc)).setCell ⟨z9, 1, none⟩ (.slice na2 V.net.length nc2)) := ((Below.refl _ _).setCell (p := ⟨z9, 0, none⟩) h.n9 _).setCell (p := ⟨z9, 1, none⟩) h.n9 _
  have hv : Cl2 ((wq.setCell ⟨z9, 0, none⟩ (.slice ra W.R.length rc)).setCell ⟨z9, 1, none⟩ (.slice na2 V.net.length nc2)) z9 (.slice ra W.R.length rc) (.slice na2 V.net.length nc2) := (h.v.put 0 _).put 1 _
  generalize ((wq.setCell ⟨z9, 0, none⟩ (.slice ra W.R.length rc)).setCell ⟨z9, 1, none⟩ (.slice na2 V.net.length nc2)) = w9 at *
  have hW := (h.W.boxz h.vz hk hz h9).boxz (h.yz.kept (h9 _ hne.symm)) hk hz (w' := (((((((((((w9.setCell ⟨z10, 0, none⟩ (.int .i64 x.kind)).setCell ⟨z10, 1, none⟩ (.int .i64 x.grp)).setCell ⟨z10, 2, none⟩ (.int .i64 x.frm)).setCell ⟨z10, 3, none⟩ (.int .i64 x.to)).setCell ⟨z10, 4, none⟩ (.int .i64 x.term)).setCell ⟨z10, 5, none⟩ (.int .i64 x.at_)).setCell ⟨z10, 6, none⟩ (.int .i64 x.att)).setCell ⟨z10, 7, none⟩ (.int .i64 x.commit)).setCell ⟨z10, 8, none⟩ (.bool x.ok)).setCell ⟨z10, 9, none⟩ (.slice ax.ea x.ents.length ax.ec)).setCell ⟨z10, 10, none⟩ (.slice ax.da x.data.length ax.dc))) (fun g hg => Cl11.other hg)
  have hX := (h.X.boxz h.vz hy h9).boxz (h.yz.kept (h9 _ hne.symm)) hy (w' := (((((((((((w9.setCell ⟨z10, 0, none⟩ (.int .i64 x.kind)).setCell ⟨z10, 1, none⟩ (.int .i64 x.grp)).setCell ⟨z10, 2, none⟩ (.int .i64 x.frm)).setCell ⟨z10, 3, none⟩ (.int .i64 x.to)).setCell ⟨z10, 4, none⟩ (.int .i64 x.term)).setCell ⟨z10, 5, none⟩ (.int .i64 x.at_)).setCell ⟨z10, 6, none⟩ (.int .i64 x.att)).setCell ⟨z10, 7, none⟩ (.int .i64 x.commit)).setCell ⟨z10, 8, none⟩ (.bool x.ok)).setCell ⟨z10, 9, none⟩ (.slice ax.ea x.ents.length ax.ec)).setCell ⟨z10, 10, none⟩ (.slice ax.da x.data.length ax.dc))) (fun g hg => Cl11.other hg)
  exact ⟨h.a.kept (Cl11.under hb9 h.n10), hv.kept (Cl11.other hne), (h.y.kept (h9 _ hne.symm)).boxed _ _ _ _ _ _ _ _ _ _ _, hW, hX, h.n9, h.n10⟩
theorem B12.one (h : B12 w wq z9 z10 ra rc na nc W o da dc s m V x na2 nc2 ax) (hne : z9 ≠ z10) : Sd w ((wq.setCell ⟨z9, 0, none⟩ (.slice ra W.R.length rc)).setCell ⟨z9, 1, none⟩ (.slice na2 V.net.length nc2)) ra rc na nc W o da dc s m ∧ Cl11 ((wq.setCell ⟨z9, 0, none⟩ (.slice ra W.R.length rc)).setCell ⟨z9, 1, none⟩ (.slice na2 V.net.length nc2)) z10 (.int .i64 0) (.int .i64 0) (.int .i64 0) (.int .i64 0) (.int .i64 0) (.int .i64 0) (.int .i64 0) (.int .i64 0) (.bool false) (.slice none 0 0) (.slice none 0 0) := ⟨h.a.kept (((Below.refl _ _).setCell (p := ⟨z9, 0, none⟩) h.n9 _).setCell (p := ⟨z9, 1, none⟩) h.n9 _), h.y.kept ((heap_other hne.symm).trans (heap_other hne.symm))⟩
theorem B12.drew (h : R12 w wq z9 z10 ra rc na nc W o da dc s m V x na2 nc2 ax) : R12 w wq.drew z9 z10 ra rc na nc W o da dc s m V x na2 nc2 ax := ⟨h.a.below (Below.refl _ _).drew, h.v.kept rfl, h.y.kept rfl, h.W.below (Below.refl _ _).drew, h.X.below (Below.refl _ _).drew, h.n9, h.n10⟩
end
end
section
open Go.RowKit
set_option linter.unusedVariables false
set_option linter.unusedSimpArgs false


/-- What stands behind Receive: a box of zeros for the member. -/
structure B15 (w wq : World) (z9 z10 z11 : Nat) (ra : Option Addr) (rc : Nat) (na : Option Addr) (nc : Nat) (W : Wd) (o : Op) (da : Option Addr) (dc : Nat) (s : Ad) (m : Mb) (V : Wd) (x : Ms) (na2 : Option Addr) (nc2 : Nat) (ax : Ax) (rb ro j : Nat) (sq : Ad) (mq : Mb) (s2 : Ad) (m2 : Mb) (ta : Option Addr) (tc : Nat) (l2 : List Ms) : Prop where
  a : R12 w wq z9 z10 ra rc na nc W o da dc s m V x na2 nc2 ax
  q : Cl16 wq z11 (.int .i64 0) (.int .i64 0) (.int .i64 0) (.int .i64 0) (.int .i64 0) (.int .i64 0) (.int .i64 0) (.int .i64 0) (.slice none 0 0) (.int .i64 0) (.slice none 0 0) (.slice none 0 0) (.slice none 0 0) (.slice none 0 0) (.int .i64 0) (.int .i64 0)
  z : Zro wq z11
  o : Ro16 wq rb (ro + j * 16) sq mq
  M : MbV wq (fun _ => True) s2 m2
  L : RwV msR wq (fun _ => True) ta tc l2
  n11 : w.heap.size + 1 + 1 + 1 + 1 ≤ z11
  n9 : z9 ≠ z11
  n10 : z10 ≠ z11
/-- The member is put. -/
structure R15 (w wq : World) (z9 z10 z11 : Nat) (ra : Option Addr) (rc : Nat) (na : Option Addr) (nc : Nat) (W : Wd) (o : Op) (da : Option Addr) (dc : Nat) (s : Ad) (m : Mb) (V : Wd) (x : Ms) (na2 : Option Addr) (nc2 : Nat) (ax : Ax) (rb ro j : Nat) (sq : Ad) (mq : Mb) (s2 : Ad) (m2 : Mb) (ta : Option Addr) (tc : Nat) (l2 : List Ms) : Prop where
  a : R12 w wq z9 z10 ra rc na nc W o da dc s m V x na2 nc2 ax
  q : Cl16 wq z11 (.int .i64 m2.id) (.int .i64 m2.n) (.int .i64 m2.term) (.int .i64 m2.vote) (.int .i64 m2.role) (.int .i64 m2.lead) (.int .i64 m2.b) (.int .i64 m2.bt) (.slice s2.ea m2.es.length s2.ec) (.int .i64 m2.commit) (.slice s2.sa m2.snap.length s2.sc) (.slice s2.ga m2.granted.length s2.gc) (.slice s2.xa m2.next.length s2.xc) (.slice s2.ma m2.mtch.length s2.mc) (.int .i64 m2.clock) (.int .i64 m2.wait)
  o : Ro16 wq rb (ro + j * 16) sq mq
  M : MbV wq (fun _ => True) s2 m2
  L : RwV msR wq (fun _ => True) ta tc l2
theorem zro16 (w : World) (t : TypeId) : Zro (w.alloc (.cells #[.int .i64 0, .int .i64 0, .int .i64 0, .int .i64 0, .int .i64 0, .int .i64 0, .int .i64 0, .int .i64 0, .slice none 0 0, .int .i64 0, .slice none 0 0, .slice none 0 0, .slice none 0 0, .slice none 0 0, .int .i64 0, .int .i64 0] t)) w.heap.size := Zro.of (os := [.int .i64 0, .int .i64 0, .int .i64 0, .int .i64 0, .int .i64 0, .int .i64 0, .int .i64 0, .int .i64 0, .slice none 0 0, .int .i64 0, .slice none 0 0, .slice none 0 0, .slice none 0 0, .slice none 0 0, .int .i64 0, .int .i64 0]) (by
  intro v hv
  simp only [List.mem_cons, List.not_mem_nil, or_false] at hv
  rcases hv with rfl | rfl | rfl | rfl | rfl | rfl | rfl | rfl | rfl | rfl | rfl | rfl | rfl | rfl | rfl | rfl <;> first | exact .inl rfl | exact .inr (.inl rfl) | exact .inr (.inr ⟨_, _, _, rfl⟩))
theorem Ro16.kept {w w' : World} {b o : Nat} {s : Ad} {m : Mb} (h : Ro16 w b o s m) (e : w'.heap[b]? = w.heap[b]?) : Ro16 w' b o s m := ⟨(cell_kept e _).trans h.c0, (cell_kept e _).trans h.c1, (cell_kept e _).trans h.c2, (cell_kept e _).trans h.c3, (cell_kept e _).trans h.c4, (cell_kept e _).trans h.c5, (cell_kept e _).trans h.c6, (cell_kept e _).trans h.c7, (cell_kept e _).trans h.c8, (cell_kept e _).trans h.c9, (cell_kept e _).trans h.c10, (cell_kept e _).trans h.c11, (cell_kept e _).trans h.c12, (cell_kept e _).trans h.c13, (cell_kept e _).trans h.c14, (cell_kept e _).trans h.c15⟩
section
variable {w wq wy : World} {z9 z10 : Nat} {ra : Option Addr} {rc : Nat} {na : Option Addr} {nc : Nat} {W : Wd} {o : Op} {da : Option Addr} {dc : Nat} {s : Ad} {m : Mb} {V : Wd} {x : Ms} {na2 : Option Addr} {nc2 : Nat} {ax : Ax} {rb ro j : Nat} {sq s2 : Ad} {mq m2 : Mb} {ta : Option Addr} {tc : Nat} {l2 : List Ms} {z11 : Nat}
theorem R12.below (h : R12 w wq z9 z10 ra rc na nc W o da dc s m V x na2 nc2 ax) (hb : Below wq.heap.size wq wy) : R12 w wy z9 z10 ra rc na nc W o da dc s m V x na2 nc2 ax := ⟨h.a.below hb, h.v.below hb, h.y.below hb, h.W.below hb, h.X.below hb, h.n9, h.n10⟩
theorem R12.off (h : R12 w wq z9 z10 ra rc na nc W o da dc s m V x na2 nc2 ax) {K : Int} (hk : WdK K V) (hz : WdZ V) (hy : YZ x) {q : Nat} (z : Zro wq q) (h9 : z9 ≠ q) (h10 : z10 ≠ q) (hb : Below (w.heap.size + 1 + 1 + 1 + 1) wq wy) (ho : ∀ g, g ≠ q → wy.heap[g]? = wq.heap[g]?) : R12 w wy z9 z10 ra rc na nc W o da dc s m V x na2 nc2 ax :=
  ⟨h.a.kept hb, h.v.kept (ho _ h9), h.y.kept (ho _ h10), h.W.boxz z hk hz ho, h.X.boxz z hy ho, h.n9, h.n10⟩
theorem B15.fin (h : B15 w wq z9 z10 z11 ra rc na nc W o da dc s m V x na2 nc2 ax rb ro j sq mq s2 m2 ta tc l2) {K K2 : Int} (hk : WdK K V) (hz : WdZ V) (hy : YZ x) (hq : 1 ≤ mq.id) (hk2 : WfK K2 m2) (hz2 : WfZ m2) (hl2 : ∀ y, y ∈ l2 → 1 ≤ y.frm ∧ YZ y) : R15 w ((((((((((((((((wq.setCell ⟨z11, 0, none⟩ (.int .i64 m2.id)).setCell ⟨z11, 1, none⟩ (.int .i64 m2.n)).setCell ⟨z11, 2, none⟩ (.int .i64 m2.term)).setCell ⟨z11, 3, none⟩ (.int .i64 m2.vote)).setCell ⟨z11, 4, none⟩ (.int .i64 m2.role)).setCell ⟨z11, 5, none⟩ (.int .i64 m2.lead)).setCell ⟨z11, 6, none⟩ (.int .i64 m2.b)).setCell ⟨z11, 7, none⟩ (.int .i64 m2.bt)).setCell ⟨z11, 8, none⟩ (.slice s2.ea m2.es.length s2.ec)).setCell ⟨z11, 9, none⟩ (.int .i64 m2.commit)).setCell ⟨z11, 10, none⟩ (.slice s2.sa m2.snap.length s2.sc)).setCell ⟨z11, 11, none⟩ (.slice s2.ga m2.granted.length s2.gc)).setCell ⟨z11, 12, none⟩ (.slice s2.xa m2.next.length s2.xc)).setCell ⟨z11, 13, none⟩ (.slice s2.ma m2.mtch.length s2.mc)).setCell ⟨z11, 14, none⟩ (.int .i64 m2.clock)).setCell ⟨z11, 15, none⟩ (.int .i64 m2.wait)) z9 z10 z11 ra rc na nc W o da dc s m V x na2 nc2 ax rb ro j sq mq s2 m2 ta tc l2 := by
  have ho : ∀ g, g ≠ z11 → ((((((((((((((((wq.setCell ⟨z11, 0, none⟩ (.int .i64 m2.id)).setCell ⟨z11, 1, none⟩ (.int .i64 m2.n)).setCell ⟨z11, 2, none⟩ (.int .i64 m2.term)).setCell ⟨z11, 3, none⟩ (.int .i64 m2.vote)).setCell ⟨z11, 4, none⟩ (.int .i64 m2.role)).setCell ⟨z11, 5, none⟩ (.int .i64 m2.lead)).setCell ⟨z11, 6, none⟩ (.int .i64 m2.b)).setCell ⟨z11, 7, none⟩ (.int .i64 m2.bt)).setCell ⟨z11, 8, none⟩ (.slice s2.ea m2.es.length s2.ec)).setCell ⟨z11, 9, none⟩ (.int .i64 m2.commit)).setCell ⟨z11, 10, none⟩ (.slice s2.sa m2.snap.length s2.sc)).setCell ⟨z11, 11, none⟩ (.slice s2.ga m2.granted.length s2.gc)).setCell ⟨z11, 12, none⟩ (.slice s2.xa m2.next.length s2.xc)).setCell ⟨z11, 13, none⟩ (.slice s2.ma m2.mtch.length s2.mc)).setCell ⟨z11, 14, none⟩ (.int .i64 m2.clock)).setCell ⟨z11, 15, none⟩ (.int .i64 m2.wait)).heap[g]? = wq.heap[g]? := fun g hg => Cl16.other hg
  have hb : Below (w.heap.size + 1 + 1 + 1 + 1) wq ((((((((((((((((wq.setCell ⟨z11, 0, none⟩ (.int .i64 m2.id)).setCell ⟨z11, 1, none⟩ (.int .i64 m2.n)).setCell ⟨z11, 2, none⟩ (.int .i64 m2.term)).setCell ⟨z11, 3, none⟩ (.int .i64 m2.vote)).setCell ⟨z11, 4, none⟩ (.int .i64 m2.role)).setCell ⟨z11, 5, none⟩ (.int .i64 m2.lead)).setCell ⟨z11, 6, none⟩ (.int .i64 m2.b)).setCell ⟨z11, 7, none⟩ (.int .i64 m2.bt)).setCell ⟨z11, 8, none⟩ (.slice s2.ea m2.es.length s2.ec)).setCell ⟨z11, 9, none⟩ (.int .i64 m2.commit)).setCell ⟨z11, 10, none⟩ (.slice s2.sa m2.snap.length s2.sc)).setCell ⟨z11, 11, none⟩ (.slice s2.ga m2.granted.length s2.gc)).setCell ⟨z11, 12, none⟩ (.slice s2.xa m2.next.length s2.xc)).setCell ⟨z11, 13, none⟩ (.slice s2.ma m2.mtch.length s2.mc)).setCell ⟨z11, 14, none⟩ (.int .i64 m2.clock)).setCell ⟨z11, 15, none⟩ (.int .i64 m2.wait)) := Cl16.under (Below.refl _ _) h.n11
  have hc : Cl16 ((((((((((((((((wq.setCell ⟨z11, 0, none⟩ (.int .i64 m2.id)).setCell ⟨z11, 1, none⟩ (.int .i64 m2.n)).setCell ⟨z11, 2, none⟩ (.int .i64 m2.term)).setCell ⟨z11, 3, none⟩ (.int .i64 m2.vote)).setCell ⟨z11, 4, none⟩ (.int .i64 m2.role)).setCell ⟨z11, 5, none⟩ (.int .i64 m2.lead)).setCell ⟨z11, 6, none⟩ (.int .i64 m2.b)).setCell ⟨z11, 7, none⟩ (.int .i64 m2.bt)).setCell ⟨z11, 8, none⟩ (.slice s2.ea m2.es.length s2.ec)).setCell ⟨z11, 9, none⟩ (.int .i64 m2.commit)).setCell ⟨z11, 10, none⟩ (.slice s2.sa m2.snap.length s2.sc)).setCell ⟨z11, 11, none⟩ (.slice s2.ga m2.granted.length s2.gc)).setCell ⟨z11, 12, none⟩ (.slice s2.xa m2.next.length s2.xc)).setCell ⟨z11, 13, none⟩ (.slice s2.ma m2.mtch.length s2.mc)).setCell ⟨z11, 14, none⟩ (.int .i64 m2.clock)).setCell ⟨z11, 15, none⟩ (.int .i64 m2.wait)) z11 (.int .i64 m2.id) (.int .i64 m2.n) (.int .i64 m2.term) (.int .i64 m2.vote) (.int .i64 m2.role) (.int .i64 m2.lead) (.int .i64 m2.b) (.int .i64 m2.bt) (.slice s2.ea m2.es.length s2.ec) (.int .i64 m2.commit) (.slice s2.sa m2.snap.length s2.sc) (.slice s2.ga m2.granted.length s2.gc) (.slice s2.xa m2.next.length s2.xc) (.slice s2.ma m2.mtch.length s2.mc) (.int .i64 m2.clock) (.int .i64 m2.wait) := h.q.boxed _ _ _ _ _ _ _ _ _ _ _ _ _ _ _ _
  generalize ((((((((((((((((wq.setCell ⟨z11, 0, none⟩ (.int .i64 m2.id)).setCell ⟨z11, 1, none⟩ (.int .i64 m2.n)).setCell ⟨z11, 2, none⟩ (.int .i64 m2.term)).setCell ⟨z11, 3, none⟩ (.int .i64 m2.vote)).setCell ⟨z11, 4, none⟩ (.int .i64 m2.role)).setCell ⟨z11, 5, none⟩ (.int .i64 m2.lead)).setCell ⟨z11, 6, none⟩ (.int .i64 m2.b)).setCell ⟨z11, 7, none⟩ (.int .i64 m2.bt)).setCell ⟨z11, 8, none⟩ (.slice s2.ea m2.es.length s2.ec)).setCell ⟨z11, 9, none⟩ (.int .i64 m2.commit)).setCell ⟨z11, 10, none⟩ (.slice s2.sa m2.snap.length s2.sc)).setCell ⟨z11, 11, none⟩ (.slice s2.ga m2.granted.length s2.gc)).setCell ⟨z11, 12, none⟩ (.slice s2.xa m2.next.length s2.xc)).setCell ⟨z11, 13, none⟩ (.slice s2.ma m2.mtch.length s2.mc)).setCell ⟨z11, 14, none⟩ (.int .i64 m2.clock)).setCell ⟨z11, 15, none⟩ (.int .i64 m2.wait)) = w9 at *
  exact ⟨h.a.off hk hz hy h.z h.n9 h.n10 hb ho, hc, h.o.kept (ho _ (h.z.ne h.o.c0 (Zv.int hq))), h.M.boxz h.z hk2 hz2 ho, mss_boxz h.z h.L hl2 ho⟩
theorem R15.below (h : R15 w wq z9 z10 z11 ra rc na nc W o da dc s m V x na2 nc2 ax rb ro j sq mq s2 m2 ta tc l2) (hb : Below wq.heap.size wq wy) : R15 w wy z9 z10 z11 ra rc na nc W o da dc s m V x na2 nc2 ax rb ro j sq mq s2 m2 ta tc l2 := ⟨h.a.below hb, h.q.below hb, h.o.below hb, h.M.below hb, h.L.below hb⟩
end
end
section
open Go.RowKit
set_option linter.unusedVariables false
set_option linter.unusedSimpArgs false


theorem EnsV.and {w : World} {P Q : Nat → Prop} {a : Option Addr} {c : Nat} {es : List En} (h : EnsV w P a c es) (h2 : EnsV w Q a c es) : EnsV w (fun g => P g ∧ Q g) a c es := by
  obtain ⟨k1, k2, k3, k4⟩ := h
  obtain ⟨_, _, _, j4⟩ := h2
  refine ⟨k1, k2, k3, fun i hi => ?_⟩
  obtain ⟨b, o, u0, u1, ⟨q1, qp⟩, q2, q3, ka, kc, q4, q5, r3, r4, r5⟩ := k4 i hi
  obtain ⟨b', o', u0', u1', ⟨q1', qp'⟩, q2', q3', ka', kc', q4', q5', r3', r4', r5'⟩ := j4 i hi
  rw [q1] at q1'
  cases q1'
  rw [q3] at q3'
  cases q3'
  rw [q5] at q5'
  simp only [Value.slice.injEq] at q5'
  obtain ⟨rfl, _, rfl⟩ := q5'
  exact ⟨b, o, u0, u1, ⟨q1, qp, qp'⟩, q2, q3, ka, kc, q4, q5, r3, fun h0 x hx => ⟨r4 h0 x hx, r4' h0 x hx⟩, r5⟩
theorem MbV.and {w : World} {P Q : Nat → Prop} {s : Ad} {m : Mb} (h : MbV w P s m) (h2 : MbV w Q s m) : MbV w (fun g => P g ∧ Q g) s m := ⟨h.e.and h2.e, h.sn, fun h0 x hx => ⟨h.sP h0 x hx, h2.sP h0 x hx⟩, h.g, fun h0 x hx => ⟨h.gP h0 x hx, h2.gP h0 x hx⟩, h.x, fun h0 x hx => ⟨h.xP h0 x hx, h2.xP h0 x hx⟩, h.t, fun h0 x hx => ⟨h.tP h0 x hx, h2.tP h0 x hx⟩⟩
/-- What a call answers: a member that lies off p, and what it sends. -/
def TkQ (p : Nat) (r : Mb × List Ms) (w : World) (e : Ending) (w' : World) : Prop := ∃ s' a c, e = .returned (.tuple #[mbA s' r.1, .slice a r.2.length c]) ∧ MbV w' (fun g => g ≠ p) s' r.1 ∧ RwV msR w' (fun _ => True) a c r.2 ∧ Below w.heap.size w w'
def PpQ (p : Nat) (r : Mb × Int × List Ms × Int) (w : World) (e : Ending) (w' : World) : Prop := ∃ s' a c, e = .returned (.tuple #[mbA s' r.1, .int .i64 r.2.1, .slice a r.2.2.1.length c, .int .i64 r.2.2.2]) ∧ MbV w' (fun g => g ≠ p) s' r.1 ∧ RwV msR w' (fun _ => True) a c r.2.2.1 ∧ Below w.heap.size w w'
theorem Wk.beginP {w : World} {p : Nat} (hp : p < w.heap.size) {s : Ad} {m : Mb} (hm : MbV w (fun g => g ≠ p) s m) (o1 o2 : Obj) : Wk (((w.alloc o1).alloc o2).alloc (Obj.cells #[.int .i64 m.id, .int .i64 m.n, .int .i64 m.term, .int .i64 m.vote, .int .i64 m.role, .int .i64 m.lead, .int .i64 m.b, .int .i64 m.bt, .slice s.ea m.es.length s.ec, .int .i64 m.commit, .slice s.sa m.snap.length s.sc, .slice s.ga m.granted.length s.gc, .slice s.xa m.next.length s.xc, .slice s.ma m.mtch.length s.mc, .int .i64 m.clock, .int .i64 m.wait, .slice none 0 0] 84)) (p + 1) (w.heap.size + 1 + 1) s m (.slice none 0 0) [] := by
  have hs : ((w.alloc o1).alloc o2).heap.size = w.heap.size + 1 + 1 := two_size _ _ _
  have hb : Below w.heap.size w (((w.alloc o1).alloc o2).alloc (Obj.cells #[.int .i64 m.id, .int .i64 m.n, .int .i64 m.term, .int .i64 m.vote, .int .i64 m.role, .int .i64 m.lead, .int .i64 m.b, .int .i64 m.bt, .slice s.ea m.es.length s.ec, .int .i64 m.commit, .slice s.sa m.snap.length s.sc, .slice s.ga m.granted.length s.gc, .slice s.xa m.next.length s.xc, .slice s.ma m.mtch.length s.mc, .int .i64 m.clock, .int .i64 m.wait, .slice none 0 0] 84)) := (below2 w o1 o2).alloc (Nat.le_trans (le_alloc _ _) (le_alloc _ _)) _
  refine ⟨?_, hm.kept fun g hg hlt => ⟨hb.block g hlt, ⟨by omega, fun e => by cases e⟩, by omega⟩, Gr.nil _ _ _ _ _, by omega, fun e => by cases e⟩
  have := Cl17.new ((w.alloc o1).alloc o2) (.int .i64 m.id) (.int .i64 m.n) (.int .i64 m.term) (.int .i64 m.vote) (.int .i64 m.role) (.int .i64 m.lead) (.int .i64 m.b) (.int .i64 m.bt) (.slice s.ea m.es.length s.ec) (.int .i64 m.commit) (.slice s.sa m.snap.length s.sc) (.slice s.ga m.granted.length s.gc) (.slice s.xa m.next.length s.xc) (.slice s.ma m.mtch.length s.mc) (.int .i64 m.clock) (.int .i64 m.wait) (.slice none 0 0) 84
  rw [hs] at this
  exact this
/-- The result's box, ahead of its writing. -/
structure RdyP (p : Nat) (w wx : World) (s : Ad) (m : Mb) (a : Option Addr) (n c : Nat) (ts : List Ms) : Prop where
  k : Wk wx (p + 1) (w.heap.size + 1 + 1) s m (.slice a n c) ts
  q : Cl16 wx (w.heap.size + 1) (.int .i64 0) (.int .i64 0) (.int .i64 0) (.int .i64 0) (.int .i64 0) (.int .i64 0) (.int .i64 0) (.int .i64 0) (.slice none 0 0) (.int .i64 0) (.slice none 0 0) (.slice none 0 0) (.slice none 0 0) (.slice none 0 0) (.int .i64 0) (.int .i64 0)
  b : Below w.heap.size w wx
  z : Zro wx (w.heap.size + 1)
theorem RdyP.of {p : Nat} {w W wx : World} (hp : p < w.heap.size) {o1 : Obj} {s0 : Ad} {m0 : Mb} {s : Ad} {m : Mb} {a : Option Addr} {n c : Nat} {ts : List Ms} (hW : W = ((w.alloc o1).alloc (Obj.cells #[.int .i64 0, .int .i64 0, .int .i64 0, .int .i64 0, .int .i64 0, .int .i64 0, .int .i64 0, .int .i64 0, .slice none 0 0, .int .i64 0, .slice none 0 0, .slice none 0 0, .slice none 0 0, .slice none 0 0, .int .i64 0, .int .i64 0] 31)).alloc (Obj.cells (mbCells s0 m0 ++ [Value.slice none 0 0]).toArray 84)) (h : Wk wx (p + 1) (w.heap.size + 1 + 1) s m (.slice a n c) ts) (hd : Dn (p + 1) (w.heap.size + 1 + 1) (.slice none 0 0) (.slice a n c) W wx) : RdyP p w wx s m a n c ts := by
  have hb : Below w.heap.size w W := by rw [hW]; exact (below2 w _ _).alloc (Nat.le_trans (le_alloc _ _) (le_alloc _ _)) _
  have hz : W.heap.size = w.heap.size + 1 + 1 + 1 := by rw [hW, size_alloc, two_size]
  have hk : ∀ g, g < w.heap.size + 1 + 1 → wx.heap[g]? = W.heap[g]? := fun g hg => hd.k g (by omega) ⟨by omega, fun e => by cases e⟩
  refine ⟨h, ?_, ⟨hd.b.os.trans hb.os, hd.b.tape.trans hb.tape, hd.b.output.trans hb.output, Nat.le_trans hb.size hd.b.size, fun g hg => (hk g (by omega)).trans (hb.block g hg)⟩, ?_⟩
  · have h1 : Cl16 W (w.heap.size + 1) (.int .i64 0) (.int .i64 0) (.int .i64 0) (.int .i64 0) (.int .i64 0) (.int .i64 0) (.int .i64 0) (.int .i64 0) (.slice none 0 0) (.int .i64 0) (.slice none 0 0) (.slice none 0 0) (.slice none 0 0) (.slice none 0 0) (.int .i64 0) (.int .i64 0) := by
      rw [hW]
      have q := Cl16.new (w.alloc o1) (.int .i64 0) (.int .i64 0) (.int .i64 0) (.int .i64 0) (.int .i64 0) (.int .i64 0) (.int .i64 0) (.int .i64 0) (.slice none 0 0) (.int .i64 0) (.slice none 0 0) (.slice none 0 0) (.slice none 0 0) (.slice none 0 0) (.int .i64 0) (.int .i64 0) 31
      rw [size_alloc] at q
      exact q.below ((Below.refl _ _).alloc (Nat.le_refl _) _)
    exact h1.kept (hk _ (by omega))
  · have h1 : Zro W (w.heap.size + 1) := by
      rw [hW]
      have q := zro16 (w.alloc o1) 31
      rw [size_alloc] at q
      exact q.kept (Below.heap_alloc _ _ _ (by rw [two_size]; omega))
    exact h1.kept (hk _ (by omega))
/-- What is known of the result. -/
def Fit (m : Mb) (ts : List Ms) : Prop := (∃ K, WfK K m) ∧ WfZ m ∧ ∀ x, x ∈ ts → 1 ≤ x.frm ∧ YZ x
theorem RdyP.done {p : Nat} {w wx wz : World} {s : Ad} {m : Mb} {a : Option Addr} {n c : Nat} {ts : List Ms} (h : RdyP p w wx s m a n c ts) (hf : Fit m ts) (ho : ∀ g, g ≠ w.heap.size + 1 → wz.heap[g]? = wx.heap[g]?) : n = ts.length ∧ MbV wz (fun g => g ≠ p) s m ∧ RwV msR wz (fun _ => True) a c ts := by
  obtain ⟨⟨K, hk⟩, hz, hx⟩ := hf
  obtain ⟨e, hr⟩ := h.k.o.reads
  have h1 : MbV wx (fun g => g ≠ p) s m := h.k.r.sub fun g hg _ => by have := hg.2; omega
  have h2 : MbV wx (fun g => g ≠ w.heap.size + 1) s m := mb_offz h.z (h1.sub fun _ _ _ => trivial) hk hz
  refine ⟨e, (h1.and h2).kept fun g hg _ => ⟨ho g hg.2, hg.1⟩, ?_⟩
  exact mss_boxz h.z hr.all hx ho
theorem RdyP.fin {p : Nat} {w wx X : World} {s : Ad} {m : Mb} {a : Option Addr} {n c : Nat} {ts : List Ms} {v0 v1 v2 v3 v4 v5 v6 v7 v8 v9 v10 v11 v12 v13 v14 v15 : Value} (h : RdyP p w wx s m a n c ts) (hf : Fit m ts) (hX : Cl16 X (w.heap.size + 1) v0 v1 v2 v3 v4 v5 v6 v7 v8 v9 v10 v11 v12 v13 v14 v15) (ho : ∀ g, g ≠ w.heap.size + 1 → X.heap[g]? = wx.heap[g]?) (hb : Below w.heap.size w X) : Cl16 X.drew (w.heap.size + 1) v0 v1 v2 v3 v4 v5 v6 v7 v8 v9 v10 v11 v12 v13 v14 v15 ∧ TkQ p (m, ts) w (.returned (.tuple #[mbA s m, .slice a n c])) X.drew := by
  obtain ⟨e, q1, q2⟩ := h.done hf (wz := X.drew) ho
  subst e
  exact ⟨hX.below (Below.refl _ _).drew, s, a, c, rfl, q1, q2, hb.drew⟩
theorem RdyP.prop {p : Nat} {w wx X : World} {s : Ad} {m : Mb} {a : Option Addr} {n c : Nat} {ts : List Ms} {v0 v1 v2 v3 v4 v5 v6 v7 v8 v9 v10 v11 v12 v13 v14 v15 : Value} {k e : Int} (h : RdyP p w wx s m a n c ts) (hf : Fit m ts) (hX : Cl16 X (w.heap.size + 1) v0 v1 v2 v3 v4 v5 v6 v7 v8 v9 v10 v11 v12 v13 v14 v15) (ho : ∀ g, g ≠ w.heap.size + 1 → X.heap[g]? = wx.heap[g]?) (hb : Below w.heap.size w X) : Cl16 X (w.heap.size + 1) v0 v1 v2 v3 v4 v5 v6 v7 v8 v9 v10 v11 v12 v13 v14 v15 ∧ PpQ p (m, k, ts, e) w (.returned (.tuple #[mbA s m, .int .i64 k, .slice a n c, .int .i64 e])) X := by
  obtain ⟨e1, q1, q2⟩ := h.done hf (wz := X) ho
  subst e1
  exact ⟨hX, s, a, c, rfl, q1, q2, hb⟩
theorem RdyP.below {p : Nat} {w wx wy : World} {s : Ad} {m : Mb} {a : Option Addr} {n c : Nat} {ts : List Ms} (h : RdyP p w wx s m a n c ts) (hb : Below wx.heap.size wx wy) : RdyP p w wy s m a n c ts := ⟨h.k.below hb, h.q.below hb, h.b.trans (hb.mono h.b.size), h.z.kept (hb.block _ h.q.lt)⟩
theorem fit_tick {K : Int} {m m2 : Mb} {t2 : List Ms} {d : Int} (hk : WfK K m) (hz : WfZ m) (e : tickM m d = (m2, t2)) : Fit m2 t2 := by
  have h1 := tick_k hk d
  have h2 := tick_z hk hz d
  rw [e] at h1 h2
  exact ⟨⟨_, h1.1⟩, h2.1, fun x hx => ⟨(h1.2.1 x hx).f1, h2.2 x hx⟩⟩
theorem fit_prop {K : Int} {m m2 : Mb} {t2 : List Ms} {d : BB} {k e : Int} (hk : WfK K m) (hz : WfZ m) (hd : d.length ≤ 20) (q : proposeM m d = (m2, k, t2, e)) : Fit m2 t2 := by
  have h1 := propose_k hk d hd
  have h2 := propose_z hk hz d
  rw [q] at h1 h2
  exact ⟨⟨_, h1.1⟩, h2.1, fun x hx => ⟨(h1.2.1 x hx).f1, h2.2 x hx⟩⟩
end
end Go.Proofs.Ytfmfphfckaiejaa
