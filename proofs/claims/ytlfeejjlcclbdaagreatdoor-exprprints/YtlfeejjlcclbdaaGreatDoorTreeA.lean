/-
  The document's Tree: the contract.
-/
import Derived.Test.YtlfeejjlcclbdaaGreatDoorTreB
import Derived.Test.YtlfeejjlcclbdaaGreatDoorSplW
namespace Go.Proofs.YtlfeejjlcclbdaaGreatDoor
open Go.RowKit
set_option linter.unusedVariables false


theorem treeN_nil : ∀ f, treeN f [] = zeroT
  | 0 => rfl
  | _ + 1 => rfl
theorem best_some {l : List W} {k : Nat} (h : splitM l = some k) : bestI (goG l l.length).best = k ∧ k < l.length := by
  rw [← goG_all] at h
  cases hb : (goG l l.length).best with
  | none => rw [hb] at h; cases h
  | some x =>
    rw [hb] at h
    have h' : some x.1 = some k := h
    injection h' with h'
    have := (all_gone l l.length (Nat.le_refl _)).best x hb
    exact ⟨by show (x.1 : Int) = k; rw [h'], by omega⟩
theorem best_none {l : List W} (h : splitM l = none) : bestI (goG l l.length).best = -1 := by
  rw [← goG_all] at h
  cases hb : (goG l l.length).best with
  | none => rfl
  | some x => rw [hb] at h; cases h
theorem atL_mem {l : List W} {i : Nat} (h : i < l.length) : atL l i ∈ l := by
  unfold atL; rw [List.getD_eq_getElem?_getD, List.getElem?_eq_getElem h]; exact List.getElem_mem h
theorem tree_any : ∀ (f : Nat) (l : List W) (t : Tr), (∀ x ∈ l, Wok x) → KT t → treeN f l = t → l.length ≤ 4096 → ∀ (b o cap : Nat) (w : World), l.length ≤ cap → Lie w b o l →
    Calls Tryz.prog 32 #[.slice (some ⟨b, o, none⟩) l.length cap] w (TPost w t)
  | 0, l, t, _, hk, ht, _, _, _, _, _, _, _ => absurd ht.symm hk.ne
  | f + 1, [], t, _, hk, ht, _, _, _, _, _, _, _ => absurd ht.symm hk.ne
  | f + 1, x :: r, t, hok, hk, ht, hlen, b, o, cap, w, hcap, hL => by
    have hs : ∀ w, Lie w b o (x :: r) → Calls Tryz.prog 42 #[.slice (some ⟨b, o, none⟩) (x :: r).length cap] w fun e w' => e = .returned (.int .i64 (bestI (goG (x :: r) (x :: r).length).best)) ∧ Below w.heap.size w w' :=
      fun w h => rsp_any (x :: r) hlen (fun i hi => (hok _ (atL_mem hi)).1) b o cap hcap w h
    have hr : r.length < 4096 := by simp at hlen; omega
    have hc : r.length + 1 ≤ cap := by simpa using hcap
    cases hsp : splitM (x :: r) with
    | some k =>
      have ht' : (⟨kindW (atL (x :: r) k), 0, [], [treeN f ((x :: r).take k), treeN f ((x :: r).drop (k + 1))]⟩ : Tr) = t := by
        rw [← ht]
        show _ = (match splitM (x :: r) with | some k => _ | none => _)
        rw [hsp]; rfl
      obtain ⟨hb, hkl⟩ := best_some hsp
      rw [hb] at hs
      subst ht'
      have k1 : KT (treeN f ((x :: r).take k)) := hk.kid (by simp)
      have k2 : KT (treeN f ((x :: r).drop (k + 1))) := hk.kid (by simp)
      have h1 : 1 ≤ k := by
        rcases Nat.eq_zero_or_pos k with h | h
        · subst h; exact absurd (treeN_nil f) k1.ne
        · exact h
      have h2 : k + 1 < (x :: r).length := by
        rcases Nat.lt_or_ge (k + 1) (x :: r).length with h | h
        · exact h
        · rw [List.drop_eq_nil_of_le h] at k2; exact absurd (treeN_nil f) k2.ne
      have l1 : ((x :: r).take k).length = k := by rw [List.length_take]; omega
      have l2 : ((x :: r).drop (k + 1)).length = (x :: r).length - (k + 1) := List.length_drop
      refine tree_two (x :: r) hlen b o cap hcap k h1 h2 w hL _ _ hs (fun w h => ?_) (fun w h => ?_) (kind_as (hok _ (atL_mem hkl)).1 rfl)
      · have := tree_any f _ _ (fun y hy => hok y (List.mem_of_mem_take hy)) k1 rfl (by rw [l1]; omega) b o cap w (by rw [l1]; omega) h
        rw [l1] at this; exact this
      · have := tree_any f _ _ (fun y hy => hok y (List.mem_of_mem_drop hy)) k2 rfl (by rw [l2]; omega) b _ (cap - (k + 1)) w (by rw [l2]; omega) h
        rw [l2] at this; exact this
    | none =>
      have ht' : nodeH (treeN f) (x :: r) = t := by
        rw [← ht]
        show _ = (match splitM (x :: r) with | some k => _ | none => _)
        rw [hsp]
      rw [best_none hsp] at hs
      have ht2 : (if isW x 45 then ⟨5, 0, [], [treeN f r]⟩ else if isW x 33 then ⟨6, 0, [], [treeN f r]⟩ else if isW x 40 then treeN f r.dropLast else if x.kind = 1 then ⟨1, x.n, [], []⟩ else named x.text) = t := ht'
      have hox := hok x (List.mem_cons_self ..)
      have hor : ∀ y ∈ r, Wok y := fun y hy => hok y (List.mem_cons_of_mem _ hy)
      by_cases h45 : isW x 45 = true
      · rw [if_pos h45] at ht2
        subst ht2
        have k1 : KT (treeN f r) := hk.kid (by simp)
        have hr1 : 1 ≤ r.length := by
          cases r with
          | nil => exact absurd (treeN_nil f) k1.ne
          | cons _ _ => simp
        exact tree_neg x r hr b o cap hc w hL hs hr1 _ h45 (fun w h => tree_any f r _ hor k1 rfl (by omega) b _ _ w (by omega) h)
      rw [if_neg h45] at ht2
      by_cases h33 : isW x 33 = true
      · rw [if_pos h33] at ht2
        subst ht2
        have k1 : KT (treeN f r) := hk.kid (by simp)
        have hr1 : 1 ≤ r.length := by
          cases r with
          | nil => exact absurd (treeN_nil f) k1.ne
          | cons _ _ => simp
        exact tree_not x r hr b o cap hc w hL hs hr1 _ h33 (fun w h => tree_any f r _ hor k1 rfl (by omega) b _ _ w (by omega) h)
      rw [if_neg h33] at ht2
      by_cases h40 : isW x 40 = true
      · rw [if_pos h40] at ht2
        have hr1 : 2 ≤ r.length := by
          rcases Nat.lt_or_ge 1 r.length with h | h
          · exact h
          · have e : r.dropLast = [] := by
              match r, h with
              | [], _ => rfl
              | [a], _ => rfl
            rw [e, treeN_nil] at ht2
            exact absurd ht2.symm hk.ne
        have ld : r.dropLast.length = r.length - 1 := List.length_dropLast
        refine tree_in x r hr b o cap hc w hL hs hr1 t h40 (fun w h => ?_)
        have := tree_any f r.dropLast t (fun y hy => hor y (List.mem_of_mem_take (by rw [List.dropLast_eq_take] at hy; exact hy))) hk ht2 (by omega) b _ (cap - 1) w (by omega) h
        rw [ld] at this; exact this
      rw [if_neg h40] at ht2
      have b1 : isW x 45 = false := by simpa using h45
      have b2 : isW x 33 = false := by simpa using h33
      have b3 : isW x 40 = false := by simpa using h40
      by_cases h1 : x.kind = 1
      · rw [if_pos h1] at ht2
        subst ht2
        exact tree_num x r hr b o cap hc w hL hs h1 hox.2.1
      rw [if_neg h1] at ht2
      subst ht2
      unfold named
      by_cases hy : x.text = yesB
      · rw [if_pos hy]; exact tree_yes x r hr b o cap hc w hL hs h1 b1 b2 b3 hox.2.2.1 hy
      · rw [if_neg hy]
        by_cases hn : x.text = noB
        · rw [if_pos hn]; exact tree_no x r hr b o cap hc w hL hs h1 b1 b2 b3 hox.2.2.1 hy hn
        · rw [if_neg hn]; exact tree_var x r hr b o cap hc w hL hs h1 b1 b2 b3 hox.2.2.1 hy hn
end Go.Proofs.YtlfeejjlcclbdaaGreatDoor
