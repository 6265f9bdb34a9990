/-
  Bytes as Go's numbers; what a slice of bytes reads as; rows of bytes that a call makes by append, told as lists of bytes. Over whatever program, but for one closed fact.
-/
import Derived.Test.YtcaddedkodjgcaaPow
import Derived.Test.YtcaddedkodjgcaaCbi
import Derived.Laws.BitsAllLaws
import Derived.OpenShut
import Derived.WalkKit
import Derived.ProofKit
import Derived.WalkLawsBesides
import Derived.Outline
import Derived.ChangeOld
import Derived.Laws.AppendOwnNone
import Derived.OwnWalk
import Derived.Deep.RegionLaw
namespace Go.Proofs.Ytcaddedkodjgcaa
open Go.RowKit Crc

/-- 'append(v, x...)', v a row of the call's own. -/
theorem wpList_append_row {P : Program} {w : World} {ops : Array Oper} {rest : List Oper} {o : Oper} {a : Act} {Q : Exit → Act → World → Prop} (hgd : o.guard = none) (s x : Operand) (t : TypeId)
    (ho : o.op = .call { callee := .builtin .append, args := #[s, x], argTypes := #[t, t] })
    (base : Nat) (e : TypeId) (ht : P.underlying t = some (.slice e)) (hinfo : (P.info? e).map (fun i => (i.zero, i.size, i.bytes)) = some (some (.int .u8 0), 1, 1))
    (v : Value) (l : List (BitVec 8)) (hs : a.eval s = v) (hown : w.ownsRow base e 1 v l.length (bytesV l))
    (v2 : Value) (l2 : List (BitVec 8)) (hx : a.eval x = v2) (hr : ReadsV w v2 l2) (hlen : l.length + l2.length ≤ 140737488355328) (hbase : base ≤ w.heap.size)
    (h : ∀ v' w', w'.ownsRow base e 1 v' (l ++ l2).length (bytesV (l ++ l2)) → w.grownBy w' v.ownBlock → wpList P ops Q rest (a.put o.dst v') w') : wpList P ops Q (o :: rest) a w := by
  obtain ⟨i, hi, hz, hsize, hby⟩ := info_parts hinfo
  obtain ⟨ad, cap, rfl, hnil, _, _, hrd⟩ := hr
  cases ad with
  | none =>
    have hl2 : l2 = [] := by
      rcases hrd.2 with h | ⟨_, _, h, _⟩
      · exact h
      · cases h
    subst hl2
    have hc : cap = 0 := hnil rfl
    subst hc
    have hh := h v w (by simpa using hown) ⟨rfl, rfl, rfl, Nat.le_refl _, fun _ _ _ => rfl⟩
    exact wpList_append_own_none hgd s x t ho base e i 1 ht hi v l.length (bytesV l) hs hown hx hh
  | some ad =>
    refine wpList_append_own w hgd s x t ho base e i (.int .u8 0) 1 1 ht hi hz hsize hby rfl (by decide) v l.length (bytesV l) hs hown ad l2.length cap (bytesV l2) hx (by simp [bytesV_length]) ?_ bytesV_one
      (by unfold maxLen; omega) (by omega) hbase ?_
    · intro j u hj
      obtain ⟨hj1, rfl⟩ := bytesV_getElem hj
      rcases hrd.2 with h0 | ⟨b, off, hb, hc⟩
      · subst h0; simp at hj1
      · cases hb
        have hadd : (⟨b, off, none⟩ : Addr).add j = ⟨b, off + j, none⟩ := by unfold Addr.add; split <;> simp_all
        rw [hadd]
        exact hc j hj1
    · intro v' w' h1 h2 _
      exact h v' w' (by rw [List.length_append, bytesV_append]; exact h1) h2

/-- The same where something comes of it: the value has a head. -/
theorem wpList_append_rowsome {P : Program} {w : World} {ops : Array Oper} {rest : List Oper} {o : Oper} {a : Act} {Q : Exit → Act → World → Prop} (hgd : o.guard = none) (s x : Operand) (t : TypeId)
    (ho : o.op = .call { callee := .builtin .append, args := #[s, x], argTypes := #[t, t] })
    (base : Nat) (e : TypeId) (ht : P.underlying t = some (.slice e)) (hinfo : (P.info? e).map (fun i => (i.zero, i.size, i.bytes)) = some (some (.int .u8 0), 1, 1))
    (v : Value) (l : List (BitVec 8)) (hs : a.eval s = v) (hown : w.ownsRow base e 1 v l.length (bytesV l))
    (v2 : Value) (l2 : List (BitVec 8)) (hx : a.eval x = v2) (hr : ReadsV w v2 l2) (hlen : l.length + l2.length ≤ 140737488355328) (hbase : base ≤ w.heap.size)
    (n : Nat) (hn : (l ++ l2).length = n) (hpos : 0 < n)
    (h : ∀ g cap w', w'.ownsRow base e 1 (.slice (some ⟨g, 0, none⟩) n cap) n (bytesV (l ++ l2)) → w.grownBy w' v.ownBlock → wpList P ops Q rest (a.put o.dst (.slice (some ⟨g, 0, none⟩) n cap)) w') : wpList P ops Q (o :: rest) a w := by
  refine wpList_append_row hgd s x t ho base e ht hinfo v l hs hown v2 l2 hx hr hlen hbase ?_
  intro v' w' h1 h2
  rw [hn] at h1
  rcases h1.2 with ⟨_, h0⟩ | ⟨g, cap, _, rfl, _⟩
  · omega
  · exact h g cap w' h1 h2

/-- The same as one step of a region that draws its order. -/
theorem step_append_row {P : Program} {w : World} {ops : Array Oper} {o : Oper} {a : Act} {K : Act → World → Prop} {Q : Exit → Act → World → Prop} {E : Prop} (hgd : o.guard = none) (s x : Operand) (t : TypeId)
    (ho : o.op = .call { callee := .builtin .append, args := #[s, x], argTypes := #[t, t] })
    (base : Nat) (e : TypeId) (ht : P.underlying t = some (.slice e)) (hinfo : (P.info? e).map (fun i => (i.zero, i.size, i.bytes)) = some (some (.int .u8 0), 1, 1))
    (v : Value) (l : List (BitVec 8)) (hs : a.eval s = v) (hown : w.ownsRow base e 1 v l.length (bytesV l))
    (ad : Addr) (c : Nat) (l2 : List (BitVec 8)) (hx : a.eval x = .slice (some ad) l2.length c) (hr : ReadsV w (.slice (some ad) l2.length c) l2) (hlen : l.length + l2.length ≤ 140737488355328) (hbase : base ≤ w.heap.size)
    (h : ∀ v' w', w'.ownsRow base e 1 v' (l ++ l2).length (bytesV (l ++ l2)) → w.grownBy w' v.ownBlock → K (a.put o.dst v') w') :
    if Region.wanted o (yielded ops a.tmps) = true then Oper.wp P o a w K Q else E := by
  have hw : Region.wanted o (yielded ops a.tmps) = true := by simp [Region.wanted, hgd]
  rw [if_pos hw]
  obtain ⟨i, hi, hz, hsize, hby⟩ := info_parts hinfo
  obtain ⟨ad', cap, hv, hnil, _, _, hrd⟩ := hr
  simp only [Value.slice.injEq, true_and] at hv
  obtain ⟨rfl, rfl⟩ := hv
  refine wp_append_own w s x t ho base e i (.int .u8 0) 1 1 ht hi hz hsize hby rfl (by decide) v l.length (bytesV l) hs hown ad l2.length c (bytesV l2) hx (by simp [bytesV_length]) ?_ bytesV_one
    (by unfold maxLen; omega) (by omega) hbase ?_
  · intro j u hj
    obtain ⟨hj1, rfl⟩ := bytesV_getElem hj
    rcases hrd.2 with h0 | ⟨b, off, hb, hc⟩
    · subst h0; simp at hj1
    · cases hb
      have hadd : (⟨b, off, none⟩ : Addr).add j = ⟨b, off + j, none⟩ := by unfold Addr.add; split <;> simp_all
      rw [hadd]
      exact hc j hj1
  · intro v' w' h1 h2 _
    exact h v' w' (by rw [List.length_append, bytesV_append]; exact h1) h2

theorem Reads.alloc {w : World} {a : Option Addr} {l : List (BitVec 8)} (h : Reads w a l) (o : Obj) : Reads (w.alloc o) a l := h.below ((Below.refl _ _).alloc (Nat.le_refl _) _)
theorem below_nil {w w1 : World} (h : w.grownBy w1 (Value.slice none 0 0).ownBlock) : Below w.heap.size w w1 := (Below.refl _ _).grown h (Nat.le_refl _) (fun _ hk => by cases hk)
theorem below_own {w w1 w2 : World} {v : Value} {n : Nat} {xs : List Value} {e : TypeId} (hb : Below w.heap.size w w1) (ho : w1.ownsRow w.heap.size e 1 v n xs) (h : w1.grownBy w2 v.ownBlock) : Below w.heap.size w w2 :=
  hb.grown h hb.size (fun k hk => (ho.lt k hk).1)

end Go.Proofs.Ytcaddedkodjgcaa
