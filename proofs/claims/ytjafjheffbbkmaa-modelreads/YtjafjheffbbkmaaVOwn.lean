/-
  Bytes as Go's numbers; what a slice of bytes reads as; rows of bytes that a call makes by append, told as lists of bytes. Over whatever program, but for one closed fact.
-/
import Derived.Test.YtjafjheffbbkmaaRows
import Derived.Test.YtjafjheffbbkmaaVMath
import Derived.Laws.BitsAllLaws
import Derived.WalkKit
import Derived.ProofKit
import Derived.WalkLawsBesides
import Derived.Outline
import Derived.ChangeOld
import Derived.Laws.AppendOwnNone
import Derived.OwnWalk
import Derived.Deep.RegionLaw
namespace Go.Proofs.Ytjafjheffbbkmaa.V
open Go.RowKit Pack

def B (x : BitVec 8) : Int := (x.toNat : Int)
def nth (l : List (BitVec 8)) (k : Nat) : BitVec 8 := l.getD k 0#8
theorem B_range (x : BitVec 8) : 0 ≤ B x ∧ B x ≤ 255 := by have := x.isLt; unfold B; omega

theorem byte_of {n : Int} (h : (Lit.int .u8 n).wf = true) : ∃ b : BitVec 8, n = B b := by
  have hb := bounds_u8 h
  refine ⟨BitVec.ofNat 8 n.toNat, ?_⟩
  unfold B
  rw [BitVec.toNat_ofNat]
  omega
theorem bytes_of : ∀ {zs : List Int}, (∀ n ∈ zs, (Lit.int .u8 n).wf = true) → ∃ l : List (BitVec 8), zs = l.map B
  | [], _ => ⟨[], rfl⟩
  | n :: zs, h => by
    obtain ⟨b, rfl⟩ := byte_of (h n (by simp))
    obtain ⟨l, rfl⟩ := bytes_of (zs := zs) (fun m hm => h m (by simp [hm]))
    exact ⟨b :: l, rfl⟩

/-- A slice of bytes that reads as l. -/
def Reads (w : World) (a : Option Addr) (l : List (BitVec 8)) : Prop :=
  l.length ≤ maxLen ∧ (l = [] ∨ ∃ b off, a = some ⟨b, off, none⟩ ∧ ∀ i, i < l.length → w.cell? ⟨b, off + i, none⟩ = some (.int .u8 (B (nth l i))))

/-- WHAT THE WALK IS TOLD OF A SLICE OF INTEGERS THAT CAME IN: it is nil; or it leads to a row of 'cap' cells, the numbers 'zs' (the first 'len' are its elements, the rest its spare room), each fitting its kind. -/
def IsRow (k : IntKind) (w : World) (a : Option Addr) (len cap : Nat) (zs : List Int) : Prop :=
  (a = none ∧ len = 0 ∧ cap = 0 ∧ zs = []) ∨
  ∃ x, a = some x ∧ len ≤ cap ∧ cap ≤ maxLen ∧ zs.length = cap ∧ (∀ i, i < zs.length → w.cell? (x.add i) = some (.int k (zs.getD i 0))) ∧ ∀ n ∈ zs, (Lit.int k n).wf = true

theorem add_plain (b off i : Nat) : (⟨b, off, none⟩ : Addr).add i = ⟨b, off + i, none⟩ := by unfold Addr.add; split <;> simp_all

theorem reads_of {w : World} {a : Option Addr} {len cap : Nat} {zs : List Int} (h : IsRow .u8 w a len cap zs) : ∃ l : List (BitVec 8), len = l.length ∧ Reads w a l := by
  rcases h with ⟨rfl, rfl, rfl, rfl⟩ | ⟨x, rfl, hl, hm, hz, hcell, hwz⟩
  · exact ⟨[], rfl, by decide, .inl rfl⟩
  · obtain ⟨m, rfl⟩ := bytes_of hwz
    rw [List.length_map] at hz
    refine ⟨m.take len, by simp; omega, by simp; omega, ?_⟩
    by_cases h0 : m.take len = []
    · exact .inl h0
    · right
      have hp : 0 < len := by
        rcases Nat.eq_zero_or_pos len with h | h
        · subst h; simp at h0
        · exact h
      obtain ⟨b, off, spot⟩ := x
      have hc := hcell 0 (by simp; omega)
      have hspot : spot = none := by simpa [Addr.add] using World.cell?_spot hc
      subst hspot
      refine ⟨b, off, rfl, fun i hi => ?_⟩
      have hi' : i < len := by simp at hi; omega
      have hi2 : i < m.length := by omega
      have := hcell i (by simp; omega)
      rw [add_plain] at this
      rw [this]
      simp [nth, hi', hi2]

theorem Reads.below {w w' : World} {a : Option Addr} {l : List (BitVec 8)} (h : Reads w a l) (hb : Below w.heap.size w w') : Reads w' a l := by
  obtain ⟨hm, h⟩ := h
  refine ⟨hm, ?_⟩
  rcases h with h | ⟨b, off, ha, hc⟩
  · exact .inl h
  · refine .inr ⟨b, off, ha, fun i hi => ?_⟩
    have h1 := hc i hi
    have hlt : b < w.heap.size := World.block_lt_of_cell? w _ h1
    exact (hb.cell (p := ⟨b, off + i, none⟩) hlt).trans h1

def bytesV (l : List (BitVec 8)) : List Value := l.map fun b => .int .u8 (B b)

/-- A slice value that reads as l. -/
def ReadsV (w : World) (v : Value) (l : List (BitVec 8)) : Prop := ∃ a cap, v = .slice a l.length cap ∧ (a = none → cap = 0) ∧ l.length ≤ cap ∧ cap ≤ maxLen ∧ Reads w a l

theorem ReadsV.below {w w' : World} {v : Value} {l : List (BitVec 8)} (h : ReadsV w v l) (hb : Below w.heap.size w w') : ReadsV w' v l := by
  obtain ⟨a, cap, h1, h2, h3, h4, h5⟩ := h
  exact ⟨a, cap, h1, h2, h3, h4, h5.below hb⟩

theorem ReadsV.nil (w : World) : ReadsV w (.slice none 0 0) [] := ⟨none, 0, rfl, fun _ => rfl, Nat.le_refl _, by decide, by decide, .inl rfl⟩

theorem readsV_of {w : World} {a : Option Addr} {len cap : Nat} {zs : List Int} (h : IsRow .u8 w a len cap zs) : ∃ l : List (BitVec 8), len = l.length ∧ ReadsV w (.slice a len cap) l := by
  obtain ⟨l, hl, hr⟩ := reads_of h
  rcases h with ⟨rfl, rfl, rfl, _⟩ | ⟨x, hx, h1, h2, _⟩
  · obtain rfl : l = [] := List.length_eq_zero_iff.1 hl.symm
    exact ⟨[], rfl, ReadsV.nil w⟩
  · exact ⟨l, hl, a, cap, by rw [hl], (fun ha => by rw [ha] at hx; cases hx), by omega, h2, hr⟩

/-- A cut of what reads. -/
theorem Reads.cut {w : World} {a : Option Addr} {l : List (BitVec 8)} (hr : Reads w a l) (k h : Nat) (c : Bool) (hc : c = true → h ≤ k) : Reads w (bif c then a else a.map (·.add k)) ((l.take h).drop k) := by
  refine ⟨by have := hr.1; simp; omega, ?_⟩
  by_cases h0 : (l.take h).drop k = []
  · exact .inl h0
  right
  have hlen : 0 < ((l.take h).drop k).length := by
    rcases Nat.eq_zero_or_pos ((l.take h).drop k).length with h' | h'
    · exact absurd (List.length_eq_zero_iff.1 h') h0
    · exact h'
  have hkh : ¬ h ≤ k := by
    intro hle
    apply h0
    simp; omega
  have hcf : c = false := by cases c with
    | false => rfl
    | true => exact absurd (hc rfl) hkh
  subst hcf
  rcases hr.2 with h' | ⟨b, off, rfl, hcell⟩
  · subst h'; simp at hlen
  · refine ⟨b, off + k, by simp [add_plain], fun i hi => ?_⟩
    simp at hi
    rw [Nat.add_assoc, hcell (k + i) (by omega)]
    simp [nth, show k + i < l.length by omega, show k + i < h by omega]

theorem ReadsV.cut {w : World} {a : Option Addr} {l : List (BitVec 8)} (hr : Reads w a l) {k h m : Nat} (hn : a = none → m = k) (h1 : k ≤ h) (h2 : h ≤ l.length) (h3 : h ≤ m) (hm : m ≤ maxLen) :
    ReadsV w (.slice (if m = k then a else a.map (·.add (k * 1))) (h - k) (m - k)) ((l.take h).drop k) := by
  have hl : ((l.take h).drop k).length = h - k := by simp; omega
  refine ⟨_, m - k, by rw [hl], ?_, by omega, by omega, ?_⟩
  · intro ha
    split at ha
    · omega
    · rw [hn (by cases a with
        | none => rfl
        | some _ => simp at ha)]; omega
  · have := hr.cut k h (decide (m = k)) (by simp; omega)
    rw [Nat.mul_one]
    by_cases hmk : m = k
    · simpa [hmk] using this
    · simpa [hmk] using this

theorem bytesV_getElem {l : List (BitVec 8)} {j : Nat} {u : Value} (h : (bytesV l)[j]? = some u) : j < l.length ∧ u = .int .u8 (B (nth l j)) := by
  unfold bytesV at h
  rw [List.getElem?_map] at h
  by_cases hj : j < l.length
  · simp [hj] at h
    exact ⟨hj, by simp [nth, hj, h]⟩
  · simp [List.getElem?_eq_none (by omega : l.length ≤ j)] at h

theorem bytesV_at {l : List (BitVec 8)} {j : Nat} (h : j < l.length) : (bytesV l)[j]? = some (.int .u8 (B (nth l j))) := by
  simp [bytesV, nth, h]

theorem bytesV_one {l : List (BitVec 8)} : ∀ u ∈ bytesV l, u.oneCell' = true := by
  intro u hu
  simp [bytesV] at hu
  obtain ⟨b, _, rfl⟩ := hu
  rfl

theorem bytesV_append (l m : List (BitVec 8)) : bytesV (l ++ m) = bytesV l ++ bytesV m := by simp [bytesV]
theorem bytesV_length (l : List (BitVec 8)) : (bytesV l).length = l.length := by simp [bytesV]

/-- A row of the call's own. -/
def Owns (w : World) (base : Nat) (v : Value) (l : List (BitVec 8)) : Prop := w.ownsRow base 5 1 v l.length (bytesV l)

theorem Owns.nil (w : World) (base : Nat) : Owns w base (.slice none 0 0) [] := World.ownsRow_nil _ _ _ _
theorem Owns.alloc {w : World} {base : Nat} {v : Value} {l : List (BitVec 8)} (h : Owns w base v l) (o : Obj) : Owns (w.alloc o) base v l := World.ownsRow.alloc h o

/-- What is owned is read. -/
theorem ReadsV.of_own {w : World} {base : Nat} {v : Value} {l : List (BitVec 8)} (h : Owns w base v l) : ReadsV w v l := by
  unfold Owns at h
  have hh := h
  rcases h.2 with ⟨rfl, h0⟩ | ⟨g, cap, cur, rfl, _, _, hnc, hcm, _, _⟩
  · have : l = [] := List.length_eq_zero_iff.1 h0
    subst this
    exact ReadsV.nil w
  · refine ⟨some ⟨g, 0, none⟩, cap, rfl, (fun h => by cases h), hnc, hcm, by omega, .inr ⟨g, 0, rfl, fun i hi => ?_⟩⟩
    rw [Nat.zero_add, hh.cellAt i (by omega), bytesV_at hi]

/-- 'append(v, x...)', v a row of the call's own. -/
theorem wpList_append_bytes {P : Program} {w : World} {ops : Array Oper} {rest : List Oper} {o : Oper} {a : Act} {Q : Exit → Act → World → Prop} (hgd : o.guard = none) (s x : Operand) (t : TypeId)
    (ho : o.op = .call { callee := .builtin .append, args := #[s, x], argTypes := #[t, t] })
    (base : Nat) (ht : P.underlying t = some (.slice 5)) (hinfo : (P.info? 5).map (fun i => (i.zero, i.size, i.bytes)) = some (some (.int .u8 0), 1, 1))
    (v : Value) (l : List (BitVec 8)) (hs : a.eval s = v) (hown : Owns w base v l)
    (v2 : Value) (l2 : List (BitVec 8)) (hx : a.eval x = v2) (hr : ReadsV w v2 l2) (hlen : l.length + l2.length ≤ 140737488355328) (hbase : base ≤ w.heap.size)
    (h : ∀ v' w', Owns w' base v' (l ++ l2) → Below base w w' → wpList P ops Q rest (a.put o.dst v') w') : wpList P ops Q (o :: rest) a w := by
  obtain ⟨i, hi, hz, hsize, hby⟩ := info_parts hinfo
  obtain ⟨ad, cap, rfl, hnil, _, _, hrd⟩ := hr
  cases ad with
  | none =>
    have hl2 : l2 = [] := by
      rcases hrd.2 with h | ⟨_, _, h, _⟩
      · exact h
      · cases h
    subst hl2
    have hc : cap = 0 := hnil rfl
    subst hc
    have hh := h v w (by simpa using hown) (Below.refl _ _)
    exact wpList_append_own_none hgd s x t ho base 5 i 1 ht hi v l.length (bytesV l) hs hown hx hh
  | some ad =>
    refine wpList_append_own w hgd s x t ho base 5 i (.int .u8 0) 1 1 ht hi hz hsize hby rfl (by decide) v l.length (bytesV l) hs hown ad l2.length cap (bytesV l2) hx (by simp [bytesV_length]) ?_ bytesV_one
      (by unfold maxLen; omega) (by omega) hbase ?_
    · intro j u hj
      obtain ⟨hj1, rfl⟩ := bytesV_getElem hj
      rcases hrd.2 with h0 | ⟨b, off, hb, hc⟩
      · subst h0; simp at hj1
      · cases hb
        rw [add_plain]
        exact hc j hj1
    · intro v' w' h1 h2 _
      refine h v' w' ?_ ((Below.refl _ _).grown h2 hbase (fun k hk => (World.ownsRow.lt hown k hk).1))
      show w'.ownsRow base 5 1 v' (l ++ l2).length (bytesV (l ++ l2))
      rw [List.length_append, bytesV_append]; exact h1

/-- A new block of one byte. -/
theorem reads_one (w : World) (b : BitVec 8) (e : TypeId) : ReadsV (w.alloc (.cells #[.int .u8 (B b)] e)) (.slice (some ⟨w.heap.size, 0, none⟩) 1 1) [b] := by
  refine ⟨_, 1, rfl, (fun h => by cases h), by simp, by unfold maxLen; omega, by unfold maxLen; simp, .inr ⟨w.heap.size, 0, rfl, fun i hi => ?_⟩⟩
  rw [Nat.zero_add, cell_of_row _ w.heap.size i _ e (0, 0) (heap_alloc_new w _)]
  match i, hi with
  | 0, _ => rfl

theorem base_le {n : Nat} {wr : World} (h : n ≤ wr.heap.size) (o : Obj) : n ≤ (wr.alloc o).heap.size := by
  show n ≤ (wr.heap.push o).size
  rw [Array.size_push]; omega

theorem cells_of {w : World} {a : Option Addr} {len cap : Nat} {l : List (BitVec 8)} (h : ReadsV w (.slice a len cap) l) (hp : 0 < len) : ∃ b off, a = some ⟨b, off, none⟩ ∧ b < w.heap.size ∧ ∀ i, i < len → w.cell? ⟨b, off + i, none⟩ = some (.int .u8 (B (nth l i))) := by
  obtain ⟨a', cap', hv, _, _, _, hr⟩ := h
  simp only [Value.slice.injEq] at hv
  obtain ⟨rfl, hl, rfl⟩ := hv
  rcases hr.2 with h0 | ⟨b, off, ha, hc⟩
  · subst h0; simp at hl; omega
  · exact ⟨b, off, ha, World.block_lt_of_cell? w _ (hc 0 (by omega)), fun i hi => hc i (by omega)⟩

theorem Try.info5 : (Try.prog.info? 5).map (fun i => (i.zero, i.size, i.bytes)) = some (some (.int .u8 0), 1, 1) := by kernel_rfl

end Go.Proofs.Ytjafjheffbbkmaa.V
