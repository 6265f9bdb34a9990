/-
  Regions whose order is drawn: a load may be taken first, although its cell is stored into later in the region: what is held is held up to that store.
-/
import Derived.Test.YtcaddedkodjgcaaBas
import Derived.Deep.RegionHeld3
namespace Go.Proofs.Ytcaddedkodjgcaa
open Go
set_option linter.unusedVariables false

section
variable {P : Program} {ops : Array Oper} {Q : Exit → Act → World → Prop} {md : Region.Mode} {T : World → Prop} {k0 : Nat}
/-- What is held: T, up to operation k0. -/
def UpTo (T : World → Prop) (k0 : Nat) (L : Array Bool) (w : World) : Prop := L.getD k0 false = true ∨ T w
/-- Each order, T held up to operation k0. -/
def Ordd (P : Program) (md : Region.Mode) (ops : Array Oper) (Q : Exit → Act → World → Prop) (T : World → Prop) (k0 : Nat) (n : Nat) : Array Bool → Act → World → Prop :=
  Nat.rec (fun L a w => Region.ready md ops L = [] ∧ Q .normal a w) (fun _ rest L a w => (Region.ready md ops L = [] → Q .normal a w) ∧ ∀ i ∈ Region.ready md ops L, wpOp P ops Q i (fun b u => UpTo T k0 (L.setIfInBounds i true) u ∧ rest (L.setIfInBounds i true) b u) a w) n
theorem Ordd.any : ∀ (n : Nat) (L : Array Bool) (a : Act) (w : World), Ordd P md ops Q T k0 n L a w → wpAny P md ops Q n L a w := by
  intro n
  induction n with
  | zero => exact fun _ _ _ h => h
  | succ n ih => exact fun L a w h => ⟨h.1, fun i hi => wpOp_mono (fun b u q => ih _ b u q.2) (h.2 i hi)⟩
theorem Ordd.first {i : Nat} {oi ok : Oper} {v : Value} (hi : ops[i]? = some oi) (hk : ops[k0]? = some ok) (hki : ∃ e ∈ ok.after, Region.binds md e = true ∧ e.on = i) (hik : i ≠ k0)
    (hsel : ∀ (j : Nat) (o : Oper) cs b, ops[j]? = some o → o.op ≠ .select cs b) (hQ : ∀ c a w, Q (.panic c) (a.put oi.dst v) w → Q (.panic c) a w) :
    ∀ (n : Nat) (L : Array Bool) (a : Act) (w : World), (∀ j oj, ops[j]? = some oj → j ≠ i → L.getD j true = false → (∀ e ∈ oj.after, Region.binds md e = true → e.on ≠ i) → oi.apart ops oj = true) →
      i ∈ Region.ready md ops L → L.getD k0 false = false → YieldsIf P ops T oi v a → T w → Ordd P md ops Q T k0 n (L.setIfInBounds i true) (a.put oi.dst v) w → Ordd P md ops Q T k0 (n + 1) L a w := by
  intro n
  induction n with
  | zero =>
    intro L a w _ hr h0 hy hT H
    refine ⟨fun q => absurd hr (by rw [q]; exact List.not_mem_nil), fun j hj => ?_⟩
    by_cases e : j = i
    · subst e
      exact hy.wpOp hi hT ⟨.inr hT, H⟩
    · have q := ready_mono hj e
      rw [H.1] at q
      cases q
  | succ n ih =>
    intro L a w hf hr h0 hy hT H
    refine ⟨fun q => absurd hr (by rw [q]; exact List.not_mem_nil), fun j hj => ?_⟩
    by_cases e : j = i
    · subst e
      exact hy.wpOp hi hT ⟨.inr hT, H⟩
    · obtain ⟨hjL, oj, hoj, hal⟩ := mem_ready.1 hj
      have hiL := (mem_ready.1 hr).1
      have wait : ∀ x ∈ oj.after, Region.binds md x = true → x.on ≠ i := fun x hx hb q => by
        have h1 := hal x hx hb
        rw [q] at h1
        rcases Nat.lt_or_ge i L.size with z | z
        · simp [z] at hiL h1
          rw [hiL] at h1
          cases h1
        · simp [Array.getElem?_eq_none z] at h1
      have hjk : j ≠ k0 := fun q => by
        subst q
        obtain ⟨x, hx, hb, ho⟩ := hki
        rw [hk] at hoj
        cases hoj
        exact wait x hx hb ho
      have step := wpOp_putIf hoj (hf j oj hoj e hjL wait) (fun cs b => hsel i oi cs b hi) (fun cs b => hsel j oj cs b hoj) hQ hy (H.2 j (ready_mono hj e))
      have h0' : (L.setIfInBounds j true).getD k0 false = false := by rw [getD_set_ne false hjk]; exact h0
      refine wpOp_mono (fun b u q => ?_) step
      obtain ⟨hy', hT', hR⟩ := q
      have hT2 : T u := by
        rcases hT' with z | z
        · rw [getD_set_ne false hjk] at z
          rw [getD_set_ne false hik, h0] at z
          cases z
        · exact z
      refine ⟨.inr hT2, ih _ b u ?_ (ready_mono hr (Ne.symm e)) h0' hy' hT2 ?_⟩
      · intro k ok2 hk2 hki2 hun hno
        refine hf k ok2 hk2 hki2 ?_ hno
        by_cases q : j = k
        · subst q; exact hjL
        · rw [getD_set_ne true q] at hun; exact hun
      · rw [Array.setIfInBounds_comm _ _ e]
        exact hR
/-- Operation i is taken first; operation k0 waits for it. -/
theorem Ordd.take {i : Nat} {oi ok : Oper} {v : Value} {n : Nat} {L : Array Bool} {a : Act} {w : World} (hi : ops[i]? = some oi) (hk : ops[k0]? = some ok) (hki : (ok.after.any fun e => Region.binds md e && e.on == i) = true) (hik : i ≠ k0)
    (hs : Region.noSelect ops = true) (hf : Region.free md ops L i = true) (hr : (Region.ready md ops L).contains i = true) (h0 : L.getD k0 false = false)
    (hQ : ∀ c a w, Q (.panic c) (a.put oi.dst v) w → Q (.panic c) a w) (hy : YieldsIf P ops T oi v a) (hT : T w)
    (h : Ordd P md ops Q T k0 n (L.setIfInBounds i true) (a.put oi.dst v) w) : Ordd P md ops Q T k0 (n + 1) L a w := by
  refine Ordd.first hi hk ?_ hik (Region.noSelect_spec hs) hQ n L a w (Region.free_spec hi hf) (by simpa using hr) h0 hy hT h
  rw [Array.any_eq_true'] at hki
  obtain ⟨e, he, q⟩ := hki
  simp only [Bool.and_eq_true, beq_iff_eq] at q
  exact ⟨e, he, q.1, q.2⟩
/-- What may come up now. -/
def Nowd (P : Program) (md : Region.Mode) (ops : Array Oper) (Q : Exit → Act → World → Prop) (T : World → Prop) (k0 n : Nat) (L : Array Bool) (a : Act) (w : World) (rs : List Nat) : Prop := ∀ i ∈ rs, wpOp P ops Q i (fun b u => UpTo T k0 (L.setIfInBounds i true) u ∧ Ordd P md ops Q T k0 n (L.setIfInBounds i true) b u) a w
theorem Nowd.nil {n : Nat} {L : Array Bool} {a : Act} {w : World} : Nowd P md ops Q T k0 n L a w [] := fun _ h => by cases h
theorem Nowd.cons {n : Nat} {L : Array Bool} {a : Act} {w : World} {i : Nat} {o : Oper} {rs : List Nat} (ho : ops[i]? = some o)
    (h : ∀ K : Act → World → Prop, Shut (∀ b u, UpTo T k0 (L.setIfInBounds i true) u → Ordd P md ops Q T k0 n (L.setIfInBounds i true) b u → K b u) → if Region.wanted o (yielded ops a.tmps) = true then Oper.wp P o a w K Q else K (a.put o.dst undef) w)
    (hs : Nowd P md ops Q T k0 n L a w rs) : Nowd P md ops Q T k0 n L a w (i :: rs) := fun j hj => by
  rcases List.mem_cons.1 hj with rfl | hj
  · exact wpOp_step ho (fun K hK => h K (fun b u q1 q2 => hK b u ⟨q1, q2⟩))
  · exact hs j hj
theorem Ordd.ready {rs : List Nat} {n : Nat} {L : Array Bool} {a : Act} {w : World} (hr : Region.ready md ops L = rs) (hne : rs ≠ []) (h : Nowd P md ops Q T k0 n L a w rs) : Ordd P md ops Q T k0 (n + 1) L a w :=
  ⟨fun q => absurd (hr ▸ q) hne, hr ▸ h⟩
theorem Ordd.done {L : Array Bool} {a : Act} {w : World} (hr : Region.ready md ops L = []) (h : Q .normal a w) (n : Nat) : Ordd P md ops Q T k0 n L a w := by
  cases n with
  | zero => exact ⟨hr, h⟩
  | succ n => exact ⟨fun _ => h, by rw [hr]; exact fun i hi => by cases hi⟩
theorem Ordd.begin_ {id : Nat} {a : Act} {w : World} (k0 : Nat) (T : World → Prop) (hm : P.follows .mixedOrders = true) (h : Ordd P .any ops Q T k0 ops.size (Array.replicate ops.size false) a w.drew) : (Code.region id ops true).wp P Q a w :=
  wp_region_any hm (Ordd.any _ _ _ _ h)
end
end Go.Proofs.Ytcaddedkodjgcaa
