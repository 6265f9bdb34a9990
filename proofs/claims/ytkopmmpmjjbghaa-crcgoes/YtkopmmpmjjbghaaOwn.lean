/-
  Rows of bytes that a call makes by append, told as lists of bytes; over whatever program.
-/
import Derived.Test.YtkopmmpmjjbghaaView
import Derived.Laws.AppendOwnNone
import Derived.OwnWalk
import Derived.Deep.RegionLaw
namespace Go.Proofs.Ytkopmmpmjjbghaa
open Go.RowKit Crc

def bytesV (l : List (BitVec 8)) : List Value := l.map fun b => .int .u8 (B b)

/-- A slice value that reads as l. -/
def ReadsV (w : World) (v : Value) (l : List (BitVec 8)) : Prop := ∃ a cap, v = .slice a l.length cap ∧ (a = none → cap = 0) ∧ Reads w a l

theorem ReadsV.below {w w' : World} {v : Value} {l : List (BitVec 8)} (h : ReadsV w v l) (hb : Below w.heap.size w w') : ReadsV w' v l := by
  obtain ⟨a, cap, h1, h2, h3⟩ := h
  exact ⟨a, cap, h1, h2, h3.below hb⟩

theorem readsV_of {w : World} {a : Option Addr} {len cap : Nat} {zs : List Int} (h : IsRow .u8 w a len cap zs) : ∃ l : List (BitVec 8), len = l.length ∧ ReadsV w (.slice a len cap) l := by
  obtain ⟨l, hl, hr⟩ := reads_of h
  refine ⟨l, hl, a, cap, by rw [hl], fun ha => ?_, hr⟩
  rcases h with ⟨_, _, hc, _⟩ | ⟨x, hx, _⟩
  · exact hc
  · rw [ha] at hx; cases hx

theorem bytesV_getElem {l : List (BitVec 8)} {j : Nat} {u : Value} (h : (bytesV l)[j]? = some u) : j < l.length ∧ u = .int .u8 (B (nth l j)) := by
  unfold bytesV at h
  rw [List.getElem?_map] at h
  by_cases hj : j < l.length
  · simp [hj] at h
    exact ⟨hj, by simp [nth, hj, h]⟩
  · simp [List.getElem?_eq_none (by omega : l.length ≤ j)] at h

theorem bytesV_at {l : List (BitVec 8)} {j : Nat} (h : j < l.length) : (bytesV l)[j]? = some (.int .u8 (B (nth l j))) := by
  simp [bytesV, nth, h]

theorem bytesV_one {l : List (BitVec 8)} : ∀ u ∈ bytesV l, u.oneCell' = true := by
  intro u hu
  simp [bytesV] at hu
  obtain ⟨b, _, rfl⟩ := hu
  rfl

theorem bytesV_append (l m : List (BitVec 8)) : bytesV (l ++ m) = bytesV l ++ bytesV m := by simp [bytesV]
theorem bytesV_length (l : List (BitVec 8)) : (bytesV l).length = l.length := by simp [bytesV]

/-- What is owned is read. -/
theorem ReadsV.of_own {w : World} {base : Nat} {e : TypeId} {v : Value} {l : List (BitVec 8)} (h : w.ownsRow base e 1 v l.length (bytesV l)) : ReadsV w v l := by
  have hh := h
  rcases h.2 with ⟨rfl, h0⟩ | ⟨g, cap, cur, rfl, _, _, hnc, hcm, _, _⟩
  · have : l = [] := List.length_eq_zero_iff.1 h0
    subst this
    exact ⟨none, 0, rfl, fun _ => rfl, by decide, .inl rfl⟩
  · refine ⟨some ⟨g, 0, none⟩, cap, rfl, (fun h => by cases h), by omega, .inr ⟨g, 0, rfl, fun i hi => ?_⟩⟩
    rw [Nat.zero_add, hh.cellAt i (by omega), bytesV_at hi]

/-- 'append(v, x...)', v a row of the call's own. -/
theorem wpList_append_bytes {P : Program} {w : World} {ops : Array Oper} {rest : List Oper} {o : Oper} {a : Act} {Q : Exit → Act → World → Prop} (hgd : o.guard = none) (s x : Operand) (t : TypeId)
    (ho : o.op = .call { callee := .builtin .append, args := #[s, x], argTypes := #[t, t] })
    (base : Nat) (e : TypeId) (ht : P.underlying t = some (.slice e)) (hinfo : (P.info? e).map (fun i => (i.zero, i.size, i.bytes)) = some (some (.int .u8 0), 1, 1))
    (v : Value) (l : List (BitVec 8)) (hs : a.eval s = v) (hown : w.ownsRow base e 1 v l.length (bytesV l))
    (v2 : Value) (l2 : List (BitVec 8)) (hx : a.eval x = v2) (hr : ReadsV w v2 l2) (hlen : l.length + l2.length ≤ 140737488355328) (hbase : base ≤ w.heap.size)
    (h : ∀ v' w', w'.ownsRow base e 1 v' (l ++ l2).length (bytesV (l ++ l2)) → w.grownBy w' v.ownBlock → wpList P ops Q rest (a.put o.dst v') w') : wpList P ops Q (o :: rest) a w := by
  obtain ⟨i, hi, hz, hsize, hby⟩ := info_parts hinfo
  obtain ⟨ad, cap, rfl, hnil, hrd⟩ := hr
  cases ad with
  | none =>
    have hl2 : l2 = [] := by
      rcases hrd.2 with h | ⟨_, _, h, _⟩
      · exact h
      · cases h
    subst hl2
    have hc : cap = 0 := hnil rfl
    subst hc
    have hh := h v w (by simpa using hown) ⟨rfl, rfl, rfl, Nat.le_refl _, fun _ _ _ => rfl⟩
    exact wpList_append_own_none hgd s x t ho base e i 1 ht hi v l.length (bytesV l) hs hown hx hh
  | some ad =>
    refine wpList_append_own w hgd s x t ho base e i (.int .u8 0) 1 1 ht hi hz hsize hby rfl (by decide) v l.length (bytesV l) hs hown ad l2.length cap (bytesV l2) hx (by simp [bytesV_length]) ?_ bytesV_one
      (by unfold maxLen; omega) (by omega) hbase ?_
    · intro j u hj
      obtain ⟨hj1, rfl⟩ := bytesV_getElem hj
      rcases hrd.2 with h0 | ⟨b, off, hb, hc⟩
      · subst h0; simp at hj1
      · cases hb
        have hadd : (⟨b, off, none⟩ : Addr).add j = ⟨b, off + j, none⟩ := by unfold Addr.add; split <;> simp_all
        rw [hadd]
        exact hc j hj1
    · intro v' w' h1 h2 _
      exact h v' w' (by rw [List.length_append, bytesV_append]; exact h1) h2

/-- The same where something comes of it: the value has a head. -/
theorem wpList_append_some {P : Program} {w : World} {ops : Array Oper} {rest : List Oper} {o : Oper} {a : Act} {Q : Exit → Act → World → Prop} (hgd : o.guard = none) (s x : Operand) (t : TypeId)
    (ho : o.op = .call { callee := .builtin .append, args := #[s, x], argTypes := #[t, t] })
    (base : Nat) (e : TypeId) (ht : P.underlying t = some (.slice e)) (hinfo : (P.info? e).map (fun i => (i.zero, i.size, i.bytes)) = some (some (.int .u8 0), 1, 1))
    (v : Value) (l : List (BitVec 8)) (hs : a.eval s = v) (hown : w.ownsRow base e 1 v l.length (bytesV l))
    (v2 : Value) (l2 : List (BitVec 8)) (hx : a.eval x = v2) (hr : ReadsV w v2 l2) (hlen : l.length + l2.length ≤ 140737488355328) (hbase : base ≤ w.heap.size)
    (n : Nat) (hn : (l ++ l2).length = n) (hpos : 0 < n)
    (h : ∀ g cap w', w'.ownsRow base e 1 (.slice (some ⟨g, 0, none⟩) n cap) n (bytesV (l ++ l2)) → w.grownBy w' v.ownBlock → wpList P ops Q rest (a.put o.dst (.slice (some ⟨g, 0, none⟩) n cap)) w') : wpList P ops Q (o :: rest) a w := by
  refine wpList_append_bytes hgd s x t ho base e ht hinfo v l hs hown v2 l2 hx hr hlen hbase ?_
  intro v' w' h1 h2
  rw [hn] at h1
  rcases h1.2 with ⟨_, h0⟩ | ⟨g, cap, _, rfl, _⟩
  · omega
  · exact h g cap w' h1 h2

/-- The same as one step of a region that draws its order. -/
theorem step_append_bytes {P : Program} {w : World} {ops : Array Oper} {o : Oper} {a : Act} {K : Act → World → Prop} {Q : Exit → Act → World → Prop} {E : Prop} (hgd : o.guard = none) (s x : Operand) (t : TypeId)
    (ho : o.op = .call { callee := .builtin .append, args := #[s, x], argTypes := #[t, t] })
    (base : Nat) (e : TypeId) (ht : P.underlying t = some (.slice e)) (hinfo : (P.info? e).map (fun i => (i.zero, i.size, i.bytes)) = some (some (.int .u8 0), 1, 1))
    (v : Value) (l : List (BitVec 8)) (hs : a.eval s = v) (hown : w.ownsRow base e 1 v l.length (bytesV l))
    (ad : Addr) (c : Nat) (l2 : List (BitVec 8)) (hx : a.eval x = .slice (some ad) l2.length c) (hr : ReadsV w (.slice (some ad) l2.length c) l2) (hlen : l.length + l2.length ≤ 140737488355328) (hbase : base ≤ w.heap.size)
    (h : ∀ v' w', w'.ownsRow base e 1 v' (l ++ l2).length (bytesV (l ++ l2)) → w.grownBy w' v.ownBlock → K (a.put o.dst v') w') :
    if Region.wanted o (yielded ops a.tmps) = true then Oper.wp P o a w K Q else E := by
  have hw : Region.wanted o (yielded ops a.tmps) = true := by simp [Region.wanted, hgd]
  rw [if_pos hw]
  obtain ⟨i, hi, hz, hsize, hby⟩ := info_parts hinfo
  obtain ⟨ad', cap, hv, hnil, hrd⟩ := hr
  simp only [Value.slice.injEq, true_and] at hv
  obtain ⟨rfl, rfl⟩ := hv
  refine wp_append_own w s x t ho base e i (.int .u8 0) 1 1 ht hi hz hsize hby rfl (by decide) v l.length (bytesV l) hs hown ad l2.length c (bytesV l2) hx (by simp [bytesV_length]) ?_ bytesV_one
    (by unfold maxLen; omega) (by omega) hbase ?_
  · intro j u hj
    obtain ⟨hj1, rfl⟩ := bytesV_getElem hj
    rcases hrd.2 with h0 | ⟨b, off, hb, hc⟩
    · subst h0; simp at hj1
    · cases hb
      have hadd : (⟨b, off, none⟩ : Addr).add j = ⟨b, off + j, none⟩ := by unfold Addr.add; split <;> simp_all
      rw [hadd]
      exact hc j hj1
  · intro v' w' h1 h2 _
    exact h v' w' (by rw [List.length_append, bytesV_append]; exact h1) h2

/-- A new block of one byte, behind a draw. -/
theorem reads_one (w : World) (b : BitVec 8) (e : TypeId) : ReadsV (w.alloc (.cells #[.int .u8 (B b)] e)) (.slice (some ⟨w.heap.size, 0, none⟩) 1 1) [b] := by
  refine ⟨_, 1, rfl, (fun h => by cases h), by unfold maxLen; simp, .inr ⟨w.heap.size, 0, rfl, fun i hi => ?_⟩⟩
  rw [Nat.zero_add, cell_of_row _ w.heap.size i _ e (0, 0) (heap_alloc_new w _)]
  match i, hi with
  | 0, _ => rfl
theorem reads_one_drew (w : World) (b : BitVec 8) (e : TypeId) : ReadsV (w.alloc (.cells #[.int .u8 (B b)] e)).drew (.slice (some ⟨w.heap.size, 0, none⟩) 1 1) [b] := reads_one w b e

theorem below_nil {w w1 : World} (h : w.grownBy w1 (Value.slice none 0 0).ownBlock) : Below w.heap.size w w1 := (Below.refl _ _).grown h (Nat.le_refl _) (fun _ hk => by cases hk)
theorem below_own {w w1 w2 : World} {v : Value} {n : Nat} {xs : List Value} {e : TypeId} (hb : Below w.heap.size w w1) (ho : w1.ownsRow w.heap.size e 1 v n xs) (h : w1.grownBy w2 v.ownBlock) : Below w.heap.size w w2 :=
  hb.grown h hb.size (fun k hk => (ho.lt k hk).1)

/-- The sum of whatever reads as l. -/
theorem sum_row (v : Value) (l : List (BitVec 8)) (w : World) (hr : ReadsV w v l) : Calls Try.prog 9 #[v] w fun e w' => e = .returned (.int .u32 (W (sum l))) ∧ w' = w := by
  obtain ⟨a, cap, rfl, _, h⟩ := hr
  exact sum_any a cap l w h
theorem update_row (s : BitVec 32) (v : Value) (l : List (BitVec 8)) (w : World) (hr : ReadsV w v l) : Calls Try.prog 11 #[.int .u32 (W s), v] w fun e w' => e = .returned (.int .u32 (W (go s l))) ∧ w' = w := by
  obtain ⟨a, cap, rfl, _, h⟩ := hr
  exact update_any s a cap l w h

theorem Try.info5 : (Try.prog.info? 5).map (fun i => (i.zero, i.size, i.bytes)) = some (some (.int .u8 0), 1, 1) := by kernel_rfl

end Go.Proofs.Ytkopmmpmjjbghaa
