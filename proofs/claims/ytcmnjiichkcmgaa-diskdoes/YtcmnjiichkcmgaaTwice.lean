/-
  A crash behind a crash.
-/
import Derived.Test.YtcmnjiichkcmgaaTwo
import Derived.Deep.RegionHeld3
namespace Go.Proofs.Ytcmnjiichkcmgaa
open Go.RowKit Go.Maps Go.Sort
set_option linter.unusedVariables false

/-- All is synced, and no file is empty. -/
def Settled (F : Tab) : Prop := ∀ k l s, F k = some (l, s) → s = l.length ∧ l ≠ []

theorem getD_mem {ks : List Key} {i : Nat} (h : i < ks.length) : ks.getD i [] ∈ ks := by
  have e : ks.getD i [] = ks[i] := by simp [h]
  rw [e]; exact List.getElem_mem _
theorem getD_ne {ks : List Key} (hn : ks.Nodup) {i j : Nat} (hi : i < ks.length) (hj : j < ks.length) (hij : i ≠ j) : ks.getD i [] ≠ ks.getD j [] := by
  have e1 : ks.getD i [] = ks[i] := by simp [hi]
  have e2 : ks.getD j [] = ks[j] := by simp [hj]
  rw [e1, e2]
  rcases Nat.lt_or_gt_of_ne hij with h | h
  · exact List.pairwise_iff_getElem.1 hn i j hi hj h
  · exact fun e => List.pairwise_iff_getElem.1 hn j i hj hi h e.symm
theorem crashTo_at {F : Tab} {ks : List Key} (zs : List Int) (hn : ks.Nodup) {i : Nat} (hi : i < ks.length) : ∀ j, i < j → j ≤ ks.length → crashTo F ks zs j (ks.getD i []) = settled (left F (ks.getD i []) zs i)
  | 0, h, _ => absurd h (Nat.not_lt_zero _)
  | j + 1, h, hj => by
    show upd _ _ _ _ = _
    by_cases e : i = j
    · subst e
      rw [upd_same]
      have := crashTo_next (F := F) zs hn hi
      unfold left bytesOf syncOf
      rw [this]
    · rw [upd_other _ _ (getD_ne hn hi (by omega) e)]
      exact crashTo_at zs hn hi j (by omega) (by omega)
theorem mem_getD {ks : List Key} {k : Key} (h : k ∈ ks) : ∃ i, i < ks.length ∧ ks.getD i [] = k := by
  obtain ⟨i, hi, rfl⟩ := List.getElem_of_mem h
  exact ⟨i, hi, by simp [hi]⟩
theorem crash_none {F : Tab} {ks : List Key} (zs : List Int) (h : NamesOf F ks) {k : Key} (hk : F k = none) : crashTo F ks zs ks.length k = none := by
  rw [crashTo_later F ks zs k ks.length (fun i hi e => ?_)]
  · exact hk
  · have := (h.mem k).1 (e ▸ getD_mem hi)
    rw [hk] at this; cases this
theorem crash_settled {F : Tab} {ks : List Key} (zs : List Int) (h : NamesOf F ks) : Settled (crashTo F ks zs ks.length) := by
  intro k l s hk
  cases hF : F k with
  | none => rw [crash_none zs h hF] at hk; cases hk
  | some x =>
    obtain ⟨i, hi, rfl⟩ := mem_getD ((h.mem k).2 (by rw [hF]; rfl))
    rw [crashTo_at zs h.once hi _ hi (Nat.le_refl _)] at hk
    unfold settled at hk
    split at hk
    · cases hk
    · simp only [Option.some.injEq, Prod.mk.injEq] at hk
      obtain ⟨rfl, rfl⟩ := hk
      exact ⟨rfl, by assumption⟩
theorem settled_id {F : Tab} {ks : List Key} (zs : List Int) (h : NamesOf F ks) (hs : Settled F) : ∀ j, j ≤ ks.length → crashTo F ks zs j = F
  | 0, _ => rfl
  | j + 1, hj => by
    show upd (crashTo F ks zs j) (ks.getD j []) (settled (left (crashTo F ks zs j) (ks.getD j []) zs j)) = F
    rw [settled_id zs h hs j (by omega)]
    funext k
    by_cases e : k = ks.getD j []
    · subst e
      rw [upd_same]
      have hm := (h.mem _).1 (getD_mem (ks := ks) (i := j) (by omega))
      cases hF : F (ks.getD j []) with
      | none => rw [hF] at hm; cases hm
      | some x =>
        obtain ⟨l, s⟩ := x
        obtain ⟨rfl, hne⟩ := hs _ l s hF
        unfold left bytesOf syncOf
        rw [hF]
        simp [settled, hne]
        exact List.take_of_length_le (by omega)
    · exact upd_other _ _ e
theorem crash_twice {F : Tab} {ks ks' : List Key} {zs ys : List Int} (h : NamesOf F ks) (h' : NamesOf (crashTo F ks zs ks.length) ks') : crashTo (crashTo F ks zs ks.length) ks' ys ks'.length = crashTo F ks zs ks.length :=
  settled_id ys h' (crash_settled zs h) _ (Nat.le_refl _)

theorem StrsV.below {w w' : World} {v : Value} {ks : List Key} (h : StrsV w v ks) (hb : Below w.heap.size w w') : StrsV w' v ks := by
  obtain ⟨a, c, h1, h4⟩ := h
  refine ⟨a, c, h1, ?_⟩
  rcases h4 with h | ⟨g, ha, hc⟩
  · exact .inl h
  · refine .inr ⟨g, ha, fun i hi => ?_⟩
    have h5 := hc i hi
    have hlt : g < w.heap.size := World.block_lt_of_cell? w _ h5
    exact (hb.cell (p := ⟨g, i, none⟩) hlt).trans h5
theorem strs_at {w : World} {a : Option Addr} {n c : Nat} {ks : List Key} (h : StrsV w (.slice a n c) ks) {i : Nat} (hi : i < n) : ks.length = n ∧ ∃ g, a = some ⟨g, 0, none⟩ ∧ w.cell? ⟨g, i, none⟩ = some (.string (nameS (ks.getD i []))) := by
  obtain ⟨a', c', hv, h⟩ := h
  simp only [Value.slice.injEq] at hv
  obtain ⟨rfl, rfl, rfl⟩ := hv
  rcases h with h | ⟨g, ha, hc⟩
  · subst h; simp at hi
  · exact ⟨rfl, g, ha, hc i hi⟩

end Go.Proofs.Ytcmnjiichkcmgaa
