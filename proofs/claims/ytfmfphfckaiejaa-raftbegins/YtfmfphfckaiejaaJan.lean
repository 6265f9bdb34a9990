/-
  Layer 14: what so many have; Reached.
-/
import Derived.Test.YtfmfphfckaiejaaJae
import Derived.Test.YtfmfphfckaiejaaJam
import Derived.Sort.OwnSortedInts
namespace Go.Proofs.Ytfmfphfckaiejaa
open Go.RowKit
set_option linter.unusedVariables false


/-- A row of numbers of the call's own. -/
def OwI (w : World) (base g cap : Nat) (l : List Int) : Prop := ∃ cur, base ≤ g ∧ w.heap[g]? = some (.cells cur 3 (0, 0)) ∧ l.length ≤ cap ∧ cap ≤ maxLen ∧ cur.size = cap * 1 ∧ cur.toList.take l.length = l.map (Value.int .i64)
theorem Clone_any (l : List Int) (a : Option Addr) (c : Nat) (w : World) (hl : IlV w a c l) (h0 : 0 < l.length) (h3 : l.length ≤ 1000000) : Calls Try.prog 92 #[.slice a l.length c] w fun e w' => ∃ g cap, e = .returned (.slice (some ⟨g, 0, none⟩) l.length cap) ∧ Hid (OwI w' w.heap.size g cap l) ∧ Hid (Below w.heap.size w w') := by
  obtain ⟨b, o, rfl, _, _⟩ := hl.at_ h0
  refine (Try.slices_Clone_int b o l.length c l w (Nat.le_refl _) (by omega) fun j hj => ?_).mono ?_
  · obtain ⟨b2, o2, e, hc, _⟩ := hl.at_ hj
    simp only [Option.some.injEq, Addr.mk.injEq, and_true] at e
    obtain ⟨rfl, rfl⟩ := e
    exact hc
  · rintro e w' ⟨v', rfl, hown, _, hb⟩
    rw [List.take_of_length_le (Nat.le_refl _)] at hown
    rcases hown.2 with ⟨_, q⟩ | ⟨g, cap, cur, rfl, q1, q2, q3, q4, q5, q6⟩
    · omega
    · exact ⟨g, cap, rfl, ⟨cur, q1, q2, q3, q4, q5, by rw [Nat.mul_one] at q6; exact q6⟩, hb⟩
theorem Sort_any (l : List Int) (base g cap : Nat) (w : World) (h : OwI w base g cap l) (h3 : l.length ≤ 1000000) : Calls Try.prog 93 #[.slice (some ⟨g, 0, none⟩) l.length cap] w fun e w' => e = .returned (.tuple #[]) ∧ Hid (∀ i, i < l.length → w'.cell? ⟨g, i, none⟩ = some (.int .i64 ((sortM l).getD i 0))) ∧ Hid (Below base w w') := by
  obtain ⟨cur, q1, q2, q3, q4, q5, q6⟩ := h
  have hg : g < w.heap.size := (Array.getElem?_eq_some_iff.1 q2).1
  refine (Try.slices_Sort_int g 0 cap l w (holds_of_blockI q2 q6) hg (by omega)).mono ?_
  rintro e w' ⟨rfl, n, os, rfl⟩
  have hs := ownsRow_sortedI (n := n) (os := os) (ts := sortM l) (sortM_length l) q1 q2 q3 q4 q5
  refine ⟨rfl, fun i hi => ?_, (Below.refl _ _).grown (grownBy_sortedI _) (by omega) fun k hk => by injection hk with hk; omega⟩
  have := hs.cellAt i (by omega)
  have hi2 : i < (sortM l).length := by rw [sortM_length]; exact hi
  rw [List.getElem?_map, List.getElem?_eq_getElem hi2] at this
  rw [List.getD_eq_getElem?_getD, List.getElem?_eq_getElem hi2]
  rw [Option.getD_some]
  exact this
set_option maxRecDepth 100000 in
set_option maxHeartbeats 400000 in
theorem had_any (l : List Int) (a : Option Addr) (c : Nat) (M i : Nat) (w : World) (hl : IlV w a c l) (h0 : 0 < M) (hi : i + M = l.length) (h3 : l.length ≤ 1000000) : Calls Try.prog 88 #[.slice a l.length c, .int .i64 M] w fun e w' => e = .returned (.int .i64 ((sortM l).getD i 0)) ∧ Below w.heap.size w w' := by
  have HCl : Hid (Calls Try.prog 92 #[.slice a l.length c] w fun e w' => ∃ g cap, e = .returned (.slice (some ⟨g, 0, none⟩) l.length cap) ∧ Hid (OwI w' w.heap.size g cap l) ∧ Hid (Below w.heap.size w w')) := Clone_any l a c w hl (by omega) h3
  have HSo : Hid (∀ base g cap w, OwI w base g cap l → Calls Try.prog 93 #[.slice (some ⟨g, 0, none⟩) l.length cap] w fun e w' => e = .returned (.tuple #[]) ∧ Hid (∀ i, i < l.length → w'.cell? ⟨g, i, none⟩ = some (.int .i64 ((sortM l).getD i 0))) ∧ Hid (Below base w w')) := fun base g cap w q => Sort_any l base g cap w q h3
  have hc1 := hl.cap1
  have hc2 := hl.cap2
  have hsub : ((l.length : Nat) : Int) - (M : Nat) = (i : Nat) := by omega
  have hi2 : i < l.length := by omega
  have h4 : ¬ ((M : Nat) : Int) < 1 := by omega
  clear hl
  have HI : Hid (i + M = l.length) := hi
  clear hi
  generalize hn : l.length = n at *
  clear hn
  go_enter Try.func88, Try.ntmps88
  go_wp2_with (first
    | (go_at_call 92; refine HCl.out.mono ?_; rintro e w1 ⟨g, cap, rfl, HO, HB⟩)
    | (go_at_call 93; refine (HSo.out _ _ _ _ HO.out).mono ?_; rintro e w2 ⟨rfl, HS, HB2⟩; have x1 := HS.out i hi2))
  go_ret
  exact ⟨rfl, HB.out.trans HB2.out⟩
set_option maxRecDepth 100000 in
set_option maxHeartbeats 400000 in
theorem Reached_any (l : List Int) (a : Option Addr) (c : Nat) (w : World) (hl : IlV w a c l) (h3 : l.length ≤ 1000000) : Calls Try.prog 83 #[.slice a l.length c] w fun e w' => ∃ x, e = .returned (.int .i64 x) ∧ Hid (Rch l x) ∧ InR x ∧ Below w.heap.size w w' := by
  have hc1 := hl.cap1
  have hc2 := hl.cap2
  have HI : Hid (InR (l.length : Nat)) := ⟨by omega, by omega⟩
  by_cases h0 : l.length = 0
  · have HR : Hid (Rch l 0) := rch_none h0
    have e0 : enM ((l.length : Nat) : Int) = 0 := enM_low (by omega)
    clear hl
    have h9 : ∀ w, Calls Try.prog 88 #[.slice a 0 c, .int .i64 0] w fun e w' => e = .returned (.int .i64 0) ∧ w' = w := by
      intro w
      go_enter Try.func88, Try.ntmps88
      go_wp2
      go_ret
      exact ⟨rfl, rfl⟩
    have H9 : Hid (∀ w, Calls Try.prog 88 #[.slice a 0 c, .int .i64 0] w fun e w' => e = .returned (.int .i64 0) ∧ w' = w) := h9
    clear h9
    rw [h0] at e0 hc1 HI ⊢
    clear h0 h3
    have HE : Hid (enM ((0 : Nat) : Int) = 0) := e0
    clear e0
    go_enter Try.func83, Try.ntmps83
    go_wp2_with (first
      | (go_at_call 89; refine (Enough_any 0 _ HI.out).mono ?_; rintro e w' ⟨rfl, rfl⟩; rw [show enM 0 = 0 from HE.out])
      | (go_at_call 88; refine (H9.out _).mono ?_; rintro e w1 ⟨rfl, rfl⟩))
    go_ret
    exact ⟨_, rfl, HR, ⟨by decide, by decide⟩, Below.refl _ _⟩
  · obtain ⟨i, M, hM, hi⟩ : ∃ i M : Nat, M = l.length / 2 + 1 ∧ i + M = l.length := ⟨l.length - (l.length / 2 + 1), l.length / 2 + 1, rfl, by omega⟩
    have HR : Hid (Rch l ((sortM l).getD i 0)) := Rch.sorted (by omega) (by omega)
    have HE : Hid (enM ((l.length : Nat) : Int) = (M : Nat)) := by
      show enM _ = _
      rw [enM_pos (by omega)]
      omega
    have HH : Hid (Calls Try.prog 88 #[.slice a l.length c, .int .i64 M] w fun e w' => e = .returned (.int .i64 ((sortM l).getD i 0)) ∧ Below w.heap.size w w') := had_any l a c M i w hl (by omega) hi h3
    have HX : Hid (InR ((sortM l).getD i 0)) := by
      obtain ⟨hm, _, _⟩ := HR.out.2 (by omega)
      obtain ⟨j, hj, e⟩ := List.getElem_of_mem hm
      have := hl.inr j hj
      rw [List.getD_eq_getElem?_getD, List.getElem?_eq_getElem hj, Option.getD_some, e] at this
      exact this
    generalize (sortM l).getD i 0 = x at *
    clear hl hM hi
    generalize hn : l.length = n at *
    clear hn
    go_enter Try.func83, Try.ntmps83
    go_wp2_with (first
      | (go_at_call 89; refine (Enough_any _ _ HI.out).mono ?_; rintro e w' ⟨rfl, rfl⟩; rw [HE.out])
      | (go_at_call 88; refine HH.out.mono ?_; rintro e w1 ⟨rfl, HB⟩))
    go_ret
    exact ⟨_, rfl, HR, HX.out, HB⟩
end Go.Proofs.Ytfmfphfckaiejaa
