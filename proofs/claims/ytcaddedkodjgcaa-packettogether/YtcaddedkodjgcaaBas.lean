/-
  Bytes, cells and rows in memory.
-/
import Derived.Test.YtcaddedkodjgcaaRows
import Derived.Laws.BitsAllLaws
import Derived.OpenShut
import Derived.WalkKit
import Derived.ProofKit
import Derived.WalkLawsBesides
import Derived.Outline
import Derived.ChangeOld
import Derived.OwnWalk
import Derived.Laws.AppendOwnNone
import Derived.Laws.BytesString
import Derived.Deep.RegionLaw
import Derived.Deep.QuietTactic
import Derived.BigQuiet
import Derived.Maps.AppendAt
import Derived.Deep.RegionHeld3
import Derived.Laws.MakeOwn
namespace Go.Proofs.Ytcaddedkodjgcaa
open Go.RowKit
set_option linter.unusedVariables false

theorem cell_kept {w w' : World} {g : Nat} (h : w'.heap[g]? = w.heap[g]?) (o : Nat) : w'.cell? ⟨g, o, none⟩ = w.cell? ⟨g, o, none⟩ := by simp only [World.cell?]; rw [h]
theorem le_alloc (w : World) (o : Obj) : w.heap.size ≤ (w.alloc o).heap.size := by
  show w.heap.size ≤ (w.heap.push _).size
  rw [Array.size_push]; omega
theorem cell_of_row (w : World) (b off : Nat) (cs : Array Value) (t : TypeId) (f : Nat × Nat) (h : w.heap[b]? = some (.cells cs t f)) : w.cell? ⟨b, off, none⟩ = cs[off]? := by
  simp [World.cell?, h]
theorem heap_alloc_new (w : World) (o : Obj) : (w.alloc o).heap[w.heap.size]? = some o := by
  show (w.heap.push o)[w.heap.size]? = _
  simp
theorem size_alloc (w : World) (o : Obj) : (w.alloc o).heap.size = w.heap.size + 1 := by
  show (w.heap.push o).size = _
  rw [Array.size_push]
theorem below_drewN {B : Nat} {w w' : World} (h : Below B w w') : ∀ n, Below B w (w'.drewN n)
  | 0 => h
  | n + 1 => Below.drew (below_drewN h n)
def InR (x : Int) : Prop := -9223372036854775808 ≤ x ∧ x ≤ 9223372036854775807
theorem inR_zero : InR 0 := ⟨by decide, by decide⟩
theorem size_set (w : World) (p : Addr) (x : Value) : (w.setCell p x).heap.size = w.heap.size := by simp only [World.setCell]; simp
theorem frozen_kept {w w' : World} {g : Nat} (h : w'.heap[g]? = w.heap[g]?) (o : Nat) : w'.frozen? ⟨g, o, none⟩ = w.frozen? ⟨g, o, none⟩ := by simp only [World.frozen?]; rw [h]
theorem cell_set {w : World} {M j k : Nat} {v u : Value} (h : w.cell? ⟨M, j, none⟩ = some u) : (w.setCell ⟨M, k, none⟩ v).cell? ⟨M, j, none⟩ = some (if k = j then v else u) := by
  by_cases e : k = j
  · subst e
    rw [if_pos rfl]
    exact World.cell?_setCell_same' _ _ _ (by rw [h]; rfl)
  · rw [if_neg e]
    have hne : (⟨M, k, none⟩ : Addr) ≠ ⟨M, j, none⟩ := by intro h; injection h with _ h _; exact e h
    exact (World.cell?_setCell_other w _ _ v hne).trans h
structure Cell3 (w : World) (b : Nat) (v0 v1 v2 : Value) : Prop where
  c0 : w.cell? ⟨b, 0, none⟩ = some v0
  c1 : w.cell? ⟨b, 1, none⟩ = some v1
  c2 : w.cell? ⟨b, 2, none⟩ = some v2
  free : ∀ i, w.frozen? ⟨b, i, none⟩ = false
theorem Cell3.new (w : World) (v0 v1 v2 : Value) (t : TypeId) : Cell3 (w.alloc (.cells #[v0, v1, v2] t)) w.heap.size v0 v1 v2 := by
  have k := heap_alloc_new w (.cells #[v0, v1, v2] t)
  refine ⟨?_, ?_, ?_, fun i => by simp only [World.frozen?]; rw [k]; simp⟩ <;> (rw [cell_of_row _ _ _ _ t (0, 0) k]; rfl)
theorem Cell3.kept {w w' : World} {b : Nat} {v0 v1 v2 : Value} (h : Cell3 w b v0 v1 v2) (e : w'.heap[b]? = w.heap[b]?) : Cell3 w' b v0 v1 v2 := ⟨(cell_kept e _).trans h.c0, (cell_kept e _).trans h.c1, (cell_kept e _).trans h.c2, fun i => (frozen_kept e _).trans (h.free i)⟩
theorem Cell3.lt {w : World} {b : Nat} {v0 v1 v2 : Value} (h : Cell3 w b v0 v1 v2) : b < w.heap.size := World.block_lt_of_cell? w _ h.c0
theorem Cell3.put {w : World} {b : Nat} {v0 v1 v2 : Value} (h : Cell3 w b v0 v1 v2) (j : Nat) (x : Value) : Cell3 (w.setCell ⟨b, j, none⟩ x) b (if j = 0 then x else v0) (if j = 1 then x else v1) (if j = 2 then x else v2) :=
  ⟨cell_set h.c0, cell_set h.c1, cell_set h.c2, fun i => by simp only [World.frozen?_setCell]; exact h.free i⟩
theorem three_other {w : World} {M o g : Nat} {u0 u1 u2 : Value} (hg : g ≠ M) : (((w.setCell ⟨M, o, none⟩ u0).setCell ⟨M, o + 1, none⟩ u1).setCell ⟨M, o + 2, none⟩ u2).heap[g]? = w.heap[g]? := by
  rw [Below.heap_setCell _ _ _ _ hg, Below.heap_setCell _ _ _ _ hg, Below.heap_setCell _ _ _ _ hg]
theorem three_below {B : Nat} {a w : World} {M o : Nat} {u0 u1 u2 : Value} (h : Below B a w) (hM : B ≤ M) : Below B a (((w.setCell ⟨M, o, none⟩ u0).setCell ⟨M, o + 1, none⟩ u1).setCell ⟨M, o + 2, none⟩ u2) := ((h.setCell (p := ⟨M, o, none⟩) hM _).setCell (p := ⟨M, o + 1, none⟩) hM _).setCell (p := ⟨M, o + 2, none⟩) hM _
/-- Two cells of a block. -/
structure Cell2 (w : World) (b : Nat) (v0 v1 : Value) : Prop where
  c0 : w.cell? ⟨b, 0, none⟩ = some v0
  c1 : w.cell? ⟨b, 1, none⟩ = some v1
  free : ∀ i, w.frozen? ⟨b, i, none⟩ = false
theorem Cell2.kept {w w' : World} {b : Nat} {v0 v1 : Value} (h : Cell2 w b v0 v1) (e : w'.heap[b]? = w.heap[b]?) : Cell2 w' b v0 v1 :=
  ⟨(cell_kept e _).trans h.c0, (cell_kept e _).trans h.c1, fun i => by have := h.free i; simp only [World.frozen?] at this ⊢; rw [e]; exact this⟩
theorem Cell2.lt {w : World} {b : Nat} {v0 v1 : Value} (h : Cell2 w b v0 v1) : b < w.heap.size := World.block_lt_of_cell? w _ h.c0
theorem Cell2.below {w w' : World} {b : Nat} {v0 v1 : Value} (h : Cell2 w b v0 v1) (hf : Below w.heap.size w w') : Cell2 w' b v0 v1 := h.kept (hf.block b h.lt)
theorem Cell2.new (w : World) (v0 v1 : Value) (t : TypeId) : Cell2 (w.alloc (.cells #[v0, v1] t)) w.heap.size v0 v1 := by
  have k := heap_alloc_new w (.cells #[v0, v1] t)
  refine ⟨?_, ?_, fun i => by simp only [World.frozen?]; rw [k]; simp⟩ <;> (rw [cell_of_row _ _ _ _ t (0, 0) k]; rfl)

def B (x : BitVec 8) : Int := (x.toNat : Int)
def nth (l : List (BitVec 8)) (k : Nat) : BitVec 8 := l.getD k 0#8
theorem B_range (x : BitVec 8) : 0 ≤ B x ∧ B x ≤ 255 := by have := x.isLt; unfold B; omega
theorem byte_of {n : Int} (h : (Lit.int .u8 n).wf = true) : ∃ b : BitVec 8, n = B b := by
  have hb := bounds_u8 h
  refine ⟨BitVec.ofNat 8 n.toNat, ?_⟩
  unfold B
  rw [BitVec.toNat_ofNat]
  omega
theorem bytes_of : ∀ {zs : List Int}, (∀ n ∈ zs, (Lit.int .u8 n).wf = true) → ∃ l : List (BitVec 8), zs = l.map B
  | [], _ => ⟨[], rfl⟩
  | n :: zs, h => by
    obtain ⟨b, rfl⟩ := byte_of (h n (by simp))
    obtain ⟨l, rfl⟩ := bytes_of (zs := zs) (fun m hm => h m (by simp [hm]))
    exact ⟨b :: l, rfl⟩
/-- A slice of bytes that reads as l. -/
def Reads (w : World) (a : Option Addr) (l : List (BitVec 8)) : Prop :=
  l.length ≤ maxLen ∧ (l = [] ∨ ∃ b off, a = some ⟨b, off, none⟩ ∧ ∀ i, i < l.length → w.cell? ⟨b, off + i, none⟩ = some (.int .u8 (B (nth l i))))
/-- WHAT THE WALK IS TOLD OF A SLICE OF INTEGERS THAT CAME IN: it is nil; or it leads to a row of 'cap' cells, the numbers 'zs' (the first 'len' are its elements, the rest its spare room), each fitting its kind. -/
def IsRow (k : IntKind) (w : World) (a : Option Addr) (len cap : Nat) (zs : List Int) : Prop :=
  (a = none ∧ len = 0 ∧ cap = 0 ∧ zs = []) ∨
  ∃ x, a = some x ∧ len ≤ cap ∧ cap ≤ maxLen ∧ zs.length = cap ∧ (∀ i, i < zs.length → w.cell? (x.add i) = some (.int k (zs.getD i 0))) ∧ ∀ n ∈ zs, (Lit.int k n).wf = true
theorem add_plain (b off i : Nat) : (⟨b, off, none⟩ : Addr).add i = ⟨b, off + i, none⟩ := by unfold Addr.add; split <;> simp_all
theorem reads_of {w : World} {a : Option Addr} {len cap : Nat} {zs : List Int} (h : IsRow .u8 w a len cap zs) : ∃ l : List (BitVec 8), len = l.length ∧ Reads w a l := by
  rcases h with ⟨rfl, rfl, rfl, rfl⟩ | ⟨x, rfl, hl, hm, hz, hcell, hwz⟩
  · exact ⟨[], rfl, by decide, .inl rfl⟩
  · obtain ⟨m, rfl⟩ := bytes_of hwz
    rw [List.length_map] at hz
    refine ⟨m.take len, by simp; omega, by simp; omega, ?_⟩
    by_cases h0 : m.take len = []
    · exact .inl h0
    · right
      have hp : 0 < len := by
        rcases Nat.eq_zero_or_pos len with h | h
        · subst h; simp at h0
        · exact h
      obtain ⟨b, off, spot⟩ := x
      have hc := hcell 0 (by simp; omega)
      have hspot : spot = none := by simpa [Addr.add] using World.cell?_spot hc
      subst hspot
      refine ⟨b, off, rfl, fun i hi => ?_⟩
      have hi' : i < len := by simp at hi; omega
      have hi2 : i < m.length := by omega
      have := hcell i (by simp; omega)
      rw [add_plain] at this
      rw [this]
      simp [nth, hi', hi2]
theorem Reads.below {w w' : World} {a : Option Addr} {l : List (BitVec 8)} (h : Reads w a l) (hb : Below w.heap.size w w') : Reads w' a l := by
  obtain ⟨hm, h⟩ := h
  refine ⟨hm, ?_⟩
  rcases h with h | ⟨b, off, ha, hc⟩
  · exact .inl h
  · refine .inr ⟨b, off, ha, fun i hi => ?_⟩
    have h1 := hc i hi
    have hlt : b < w.heap.size := World.block_lt_of_cell? w _ h1
    exact (hb.cell (p := ⟨b, off + i, none⟩) hlt).trans h1
def bytesV (l : List (BitVec 8)) : List Value := l.map fun b => .int .u8 (B b)
/-- A slice value that reads as l. -/
def ReadsV (w : World) (v : Value) (l : List (BitVec 8)) : Prop := ∃ a cap, v = .slice a l.length cap ∧ (a = none → cap = 0) ∧ l.length ≤ cap ∧ cap ≤ maxLen ∧ Reads w a l
theorem ReadsV.below {w w' : World} {v : Value} {l : List (BitVec 8)} (h : ReadsV w v l) (hb : Below w.heap.size w w') : ReadsV w' v l := by
  obtain ⟨a, cap, h1, h2, h3, h4, h5⟩ := h
  exact ⟨a, cap, h1, h2, h3, h4, h5.below hb⟩
theorem ReadsV.nil (w : World) : ReadsV w (.slice none 0 0) [] := ⟨none, 0, rfl, fun _ => rfl, Nat.le_refl _, by decide, by decide, .inl rfl⟩
theorem readsV_of {w : World} {a : Option Addr} {len cap : Nat} {zs : List Int} (h : IsRow .u8 w a len cap zs) : ∃ l : List (BitVec 8), len = l.length ∧ ReadsV w (.slice a len cap) l := by
  obtain ⟨l, hl, hr⟩ := reads_of h
  rcases h with ⟨rfl, rfl, rfl, _⟩ | ⟨x, hx, h1, h2, _⟩
  · obtain rfl : l = [] := List.length_eq_zero_iff.1 hl.symm
    exact ⟨[], rfl, ReadsV.nil w⟩
  · exact ⟨l, hl, a, cap, by rw [hl], (fun ha => by rw [ha] at hx; cases hx), by omega, h2, hr⟩
theorem bytesV_getElem {l : List (BitVec 8)} {j : Nat} {u : Value} (h : (bytesV l)[j]? = some u) : j < l.length ∧ u = .int .u8 (B (nth l j)) := by
  unfold bytesV at h
  rw [List.getElem?_map] at h
  by_cases hj : j < l.length
  · simp [hj] at h
    exact ⟨hj, by simp [nth, hj, h]⟩
  · simp [List.getElem?_eq_none (by omega : l.length ≤ j)] at h
theorem bytesV_at {l : List (BitVec 8)} {j : Nat} (h : j < l.length) : (bytesV l)[j]? = some (.int .u8 (B (nth l j))) := by
  simp [bytesV, nth, h]
theorem bytesV_one {l : List (BitVec 8)} : ∀ u ∈ bytesV l, u.oneCell' = true := by
  intro u hu
  simp [bytesV] at hu
  obtain ⟨b, _, rfl⟩ := hu
  rfl
theorem bytesV_append (l m : List (BitVec 8)) : bytesV (l ++ m) = bytesV l ++ bytesV m := by simp [bytesV]
theorem bytesV_length (l : List (BitVec 8)) : (bytesV l).length = l.length := by simp [bytesV]
/-- A row of the call's own. -/
def Owns (w : World) (base : Nat) (v : Value) (l : List (BitVec 8)) : Prop := w.ownsRow base 5 1 v l.length (bytesV l)
theorem Owns.nil (w : World) (base : Nat) : Owns w base (.slice none 0 0) [] := World.ownsRow_nil _ _ _ _
theorem Owns.alloc {w : World} {base : Nat} {v : Value} {l : List (BitVec 8)} (h : Owns w base v l) (o : Obj) : Owns (w.alloc o) base v l := World.ownsRow.alloc h o
/-- What is owned is read. -/
theorem ReadsV.of_own {w : World} {base : Nat} {v : Value} {l : List (BitVec 8)} (h : Owns w base v l) : ReadsV w v l := by
  unfold Owns at h
  have hh := h
  rcases h.2 with ⟨rfl, h0⟩ | ⟨g, cap, cur, rfl, _, _, hnc, hcm, _, _⟩
  · have : l = [] := List.length_eq_zero_iff.1 h0
    subst this
    exact ReadsV.nil w
  · refine ⟨some ⟨g, 0, none⟩, cap, rfl, (fun h => by cases h), hnc, hcm, by omega, .inr ⟨g, 0, rfl, fun i hi => ?_⟩⟩
    rw [Nat.zero_add, hh.cellAt i (by omega), bytesV_at hi]
theorem cells_of {w : World} {a : Option Addr} {len cap : Nat} {l : List (BitVec 8)} (h : ReadsV w (.slice a len cap) l) (hp : 0 < len) : ∃ b off, a = some ⟨b, off, none⟩ ∧ b < w.heap.size ∧ ∀ i, i < len → w.cell? ⟨b, off + i, none⟩ = some (.int .u8 (B (nth l i))) := by
  obtain ⟨a', cap', hv, _, _, _, hr⟩ := h
  simp only [Value.slice.injEq] at hv
  obtain ⟨rfl, hl, rfl⟩ := hv
  rcases hr.2 with h0 | ⟨b, off, ha, hc⟩
  · subst h0; simp at hl; omega
  · exact ⟨b, off, ha, World.block_lt_of_cell? w _ (hc 0 (by omega)), fun i hi => hc i (by omega)⟩
theorem Try.info5 : (Try.prog.info? 5).map (fun i => (i.zero, i.size, i.bytes)) = some (some (.int .u8 0), 1, 1) := by kernel_rfl
/-- What Same holds against each other. -/
def str (l : List (BitVec 8)) : ByteArray := ⟨(l.map fun b => UInt8.ofNat b.toNat).toArray⟩
theorem str_toList (l : List (BitVec 8)) : (str l).toList = l.map fun b => UInt8.ofNat b.toNat := by unfold str; rw [ByteArray.toList_mk]
theorem str_inj {l m : List (BitVec 8)} (h : l.map (fun b => UInt8.ofNat b.toNat) = m.map fun b => UInt8.ofNat b.toNat) : l = m := by
  induction l generalizing m with
  | nil => cases m with
    | nil => rfl
    | cons _ _ => simp at h
  | cons x l ih => cases m with
    | nil => simp at h
    | cons y m =>
      simp only [List.map_cons, List.cons.injEq] at h
      rw [ih h.2]
      have h1 := congrArg UInt8.toNat h.1
      have hx := x.isLt
      have hy := y.isLt
      simp at h1
      rw [BitVec.eq_of_toNat_eq (x := x) (y := y) (by omega)]
theorem str_same (l m : List (BitVec 8)) : ((str l).toList == (str m).toList) = decide (l = m) := by
  rw [str_toList, str_toList]
  by_cases h : l = m
  · subst h; simp
  · rw [decide_eq_false h, beq_eq_false_iff_ne]
    exact fun e => h (str_inj e)
theorem str_push : ∀ (l : List (BitVec 8)) (s : ByteArray), (l.map B).foldl (fun r n => r.push (UInt8.ofNat n.toNat)) s = ⟨s.data ++ (l.map fun b => UInt8.ofNat b.toNat).toArray⟩
  | [], s => by simp
  | b :: l, s => by
    simp only [List.map_cons, List.foldl_cons]
    rw [str_push l]
    simp [ByteArray.push, B]
theorem readsV_kept {w w' : World} {a : Option Addr} {n c : Nat} {l : List (BitVec 8)} (h : ReadsV w (.slice a n c) l) (hk : l ≠ [] → ∀ x, a = some x → w'.heap[x.block]? = w.heap[x.block]?) : ReadsV w' (.slice a n c) l := by
  obtain ⟨a', cap, h1, h2, h3, h4, h5, h6⟩ := h
  simp only [Value.slice.injEq] at h1
  obtain ⟨rfl, rfl, rfl⟩ := h1
  refine ⟨_, _, rfl, h2, h3, h4, h5, ?_⟩
  rcases h6 with h | ⟨b, off, ha, hc⟩
  · exact .inl h
  · by_cases h0 : l = []
    · exact .inl h0
    · refine .inr ⟨b, off, ha, fun i hi => (cell_kept (hk h0 ⟨b, off, none⟩ ha) _).trans (hc i hi)⟩

theorem convert_str {w : World} {a : Option Addr} {n c : Nat} {l : List (BitVec 8)} (h : ReadsV w (.slice a n c) l) : (convert 27 9 (.slice a n c)).run Try.prog w = .ok (.string (str l)) w := by
  obtain ⟨a', c', hv, hn, _, _, hr⟩ := h
  simp only [Value.slice.injEq] at hv
  obtain ⟨rfl, rfl, rfl⟩ := hv
  rw [run_convert_bytes_string w 27 9 5 _ _ _ Try.underlying27 Try.underlying5 Try.underlying9]
  cases a with
  | none =>
    have : l = [] := by
      rcases hr.2 with h | ⟨_, _, h, _⟩
      · exact h
      · cases h
    subst this
    rfl
  | some ad =>
    rw [run_bytesToString w ad l.length c (l.map B) ?_]
    · rw [str_push]; simp [str]
    · have := run_loadCells_list (P := Try.prog) w ad (bytesV l) ?_
      · rw [bytesV_length] at this
        rw [this]
        simp [bytesV]
      · intro j v hj
        obtain ⟨hj1, rfl⟩ := bytesV_getElem hj
        rcases hr.2 with h0 | ⟨b, off, hb, hc⟩
        · subst h0; simp at hj1
        · cases hb
          rw [add_plain]
          exact hc j hj1

theorem in_of_wf {n : Int} (h : (Lit.int .i64 n).wf = true) : InR n := by
  simp only [Lit.wf, IntKind.min, IntKind.max, IntKind.signed, IntKind.bits, Bool.and_eq_true, decide_eq_true_eq, if_true] at h
  constructor <;> omega
theorem getD_range {α : Type} (len : Nat) (T : Nat → α) (i : Nat) (hi : i < len) (z : α) : ((List.range len).map T).getD i z = T i := by
  rw [List.getD_eq_getElem?_getD, List.getElem?_map, List.getElem?_range hi]; rfl

end Go.Proofs.Ytcaddedkodjgcaa
