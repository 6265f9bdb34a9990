/-
  Bytes as Go's numbers; what a slice of bytes reads as; rows of bytes that a call makes by append, told as lists of bytes. Over whatever program, but for one closed fact.
-/
import Derived.Test.YtcaddedkodjgcaaBas
import Derived.Test.YtcaddedkodjgcaaPmt
import Derived.Laws.BitsAllLaws
import Derived.WalkKit
import Derived.ProofKit
import Derived.WalkLawsBesides
import Derived.Outline
import Derived.ChangeOld
import Derived.Laws.AppendOwnNone
import Derived.OwnWalk
import Derived.Deep.RegionLaw
namespace Go.Proofs.Ytcaddedkodjgcaa
open Go.RowKit Pack

/-- A cut of what reads. -/
theorem Reads.cut {w : World} {a : Option Addr} {l : List (BitVec 8)} (hr : Reads w a l) (k h : Nat) (c : Bool) (hc : c = true → h ≤ k) : Reads w (bif c then a else a.map (·.add k)) ((l.take h).drop k) := by
  refine ⟨by have := hr.1; simp; omega, ?_⟩
  by_cases h0 : (l.take h).drop k = []
  · exact .inl h0
  right
  have hlen : 0 < ((l.take h).drop k).length := by
    rcases Nat.eq_zero_or_pos ((l.take h).drop k).length with h' | h'
    · exact absurd (List.length_eq_zero_iff.1 h') h0
    · exact h'
  have hkh : ¬ h ≤ k := by
    intro hle
    apply h0
    simp; omega
  have hcf : c = false := by cases c with
    | false => rfl
    | true => exact absurd (hc rfl) hkh
  subst hcf
  rcases hr.2 with h' | ⟨b, off, rfl, hcell⟩
  · subst h'; simp at hlen
  · refine ⟨b, off + k, by simp [add_plain], fun i hi => ?_⟩
    simp at hi
    rw [Nat.add_assoc, hcell (k + i) (by omega)]
    simp [nth, show k + i < l.length by omega, show k + i < h by omega]

theorem ReadsV.cut {w : World} {a : Option Addr} {l : List (BitVec 8)} (hr : Reads w a l) {k h m : Nat} (hn : a = none → m = k) (h1 : k ≤ h) (h2 : h ≤ l.length) (h3 : h ≤ m) (hm : m ≤ maxLen) :
    ReadsV w (.slice (if m = k then a else a.map (·.add (k * 1))) (h - k) (m - k)) ((l.take h).drop k) := by
  have hl : ((l.take h).drop k).length = h - k := by simp; omega
  refine ⟨_, m - k, by rw [hl], ?_, by omega, by omega, ?_⟩
  · intro ha
    split at ha
    · omega
    · rw [hn (by cases a with
        | none => rfl
        | some _ => simp at ha)]; omega
  · have := hr.cut k h (decide (m = k)) (by simp; omega)
    rw [Nat.mul_one]
    by_cases hmk : m = k
    · simpa [hmk] using this
    · simpa [hmk] using this

/-- 'append(v, x...)', v a row of the call's own. -/
theorem wpList_append_bytes {P : Program} {w : World} {ops : Array Oper} {rest : List Oper} {o : Oper} {a : Act} {Q : Exit → Act → World → Prop} (hgd : o.guard = none) (s x : Operand) (t : TypeId)
    (ho : o.op = .call { callee := .builtin .append, args := #[s, x], argTypes := #[t, t] })
    (base : Nat) (ht : P.underlying t = some (.slice 5)) (hinfo : (P.info? 5).map (fun i => (i.zero, i.size, i.bytes)) = some (some (.int .u8 0), 1, 1))
    (v : Value) (l : List (BitVec 8)) (hs : a.eval s = v) (hown : Owns w base v l)
    (v2 : Value) (l2 : List (BitVec 8)) (hx : a.eval x = v2) (hr : ReadsV w v2 l2) (hlen : l.length + l2.length ≤ 140737488355328) (hbase : base ≤ w.heap.size)
    (h : ∀ v' w', Owns w' base v' (l ++ l2) → Below base w w' → wpList P ops Q rest (a.put o.dst v') w') : wpList P ops Q (o :: rest) a w := by
  obtain ⟨i, hi, hz, hsize, hby⟩ := info_parts hinfo
  obtain ⟨ad, cap, rfl, hnil, _, _, hrd⟩ := hr
  cases ad with
  | none =>
    have hl2 : l2 = [] := by
      rcases hrd.2 with h | ⟨_, _, h, _⟩
      · exact h
      · cases h
    subst hl2
    have hc : cap = 0 := hnil rfl
    subst hc
    have hh := h v w (by simpa using hown) (Below.refl _ _)
    exact wpList_append_own_none hgd s x t ho base 5 i 1 ht hi v l.length (bytesV l) hs hown hx hh
  | some ad =>
    refine wpList_append_own w hgd s x t ho base 5 i (.int .u8 0) 1 1 ht hi hz hsize hby rfl (by decide) v l.length (bytesV l) hs hown ad l2.length cap (bytesV l2) hx (by simp [bytesV_length]) ?_ bytesV_one
      (by unfold maxLen; omega) (by omega) hbase ?_
    · intro j u hj
      obtain ⟨hj1, rfl⟩ := bytesV_getElem hj
      rcases hrd.2 with h0 | ⟨b, off, hb, hc⟩
      · subst h0; simp at hj1
      · cases hb
        rw [add_plain]
        exact hc j hj1
    · intro v' w' h1 h2 _
      refine h v' w' ?_ ((Below.refl _ _).grown h2 hbase (fun k hk => (World.ownsRow.lt hown k hk).1))
      show w'.ownsRow base 5 1 v' (l ++ l2).length (bytesV (l ++ l2))
      rw [List.length_append, bytesV_append]; exact h1

/-- A new block of one byte. -/
theorem reads_one (w : World) (b : BitVec 8) (e : TypeId) : ReadsV (w.alloc (.cells #[.int .u8 (B b)] e)) (.slice (some ⟨w.heap.size, 0, none⟩) 1 1) [b] := by
  refine ⟨_, 1, rfl, (fun h => by cases h), by simp, by unfold maxLen; omega, by unfold maxLen; simp, .inr ⟨w.heap.size, 0, rfl, fun i hi => ?_⟩⟩
  rw [Nat.zero_add, cell_of_row _ w.heap.size i _ e (0, 0) (heap_alloc_new w _)]
  match i, hi with
  | 0, _ => rfl

theorem base_le {n : Nat} {wr : World} (h : n ≤ wr.heap.size) (o : Obj) : n ≤ (wr.alloc o).heap.size := by
  show n ≤ (wr.heap.push o).size
  rw [Array.size_push]; omega

theorem Owns.below {w w' : World} {base : Nat} {v : Value} {l : List (BitVec 8)} (h : Owns w base v l) (hb : Below w.heap.size w w') : Owns w' base v l := by
  refine ⟨h.1, ?_⟩
  rcases h.2 with hn | ⟨g, cap, cur, hv, hg, hh, rest⟩
  · exact .inl hn
  · refine .inr ⟨g, cap, cur, hv, hg, ?_, rest⟩
    rw [hb.block g (Array.getElem?_eq_some_iff.1 hh).1]
    exact hh

end Go.Proofs.Ytcaddedkodjgcaa
