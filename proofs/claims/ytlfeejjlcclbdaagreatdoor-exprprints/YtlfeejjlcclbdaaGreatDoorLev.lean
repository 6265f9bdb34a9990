/-
  The document's small functions of words: contracts.
-/
import Derived.Test.YtlfeejjlcclbdaaGreatDoorTreeM
import Derived.Test.YtlfeejjlcclbdaaGreatDoorSigns
namespace Go.Proofs.YtlfeejjlcclbdaaGreatDoor
open Go.RowKit
set_option linter.unusedVariables false


set_option maxRecDepth 100000 in
set_option maxHeartbeats 400000 in
theorem is_any (x : W) (c : UInt8) (w : World) : Calls Tryz.prog 40 #[wordV x, .string ⟨#[c]⟩] w fun e w' => e = .returned (.bool (isW x c)) ∧ Below w.heap.size w w' := by
  unfold wordV
  by_cases hk : x.kind = 3
  · rw [isW_eq c hk, hk]
    have hb : ((ba x.text).toList == [c]) = decide (x.text = [c]) := by
      rw [ba_toList]
      by_cases h : x.text = [c]
      · rw [decide_eq_true h]; simpa using h
      · rw [decide_eq_false h]; simpa using h
    have hb2 : (⟨#[c]⟩ : ByteArray).toList = [c] := ByteArray.toList_mk ..
    generalize ba x.text = s at *
    generalize decide (x.text = [c]) = bb at *
    go_enter Tryz.func40, Tryz.ntmps40
    go_wp2_with fail
    go_ret
    exact ⟨rfl, (Below.refl _ _).alloc (Nat.le_refl _) _⟩
  · rw [isW_no hk]
    have hk2 : ((x.kind : Int) == 3) = false := by simp; omega
    generalize ba x.text = s at *
    go_enter Tryz.func40, Tryz.ntmps40
    go_wp2_with fail
    go_ret
    exact ⟨rfl, (Below.refl _ _).alloc (Nat.le_refl _) _⟩
set_option maxRecDepth 100000 in
set_option maxHeartbeats 400000 in
theorem level_any (k : Int) (w : World) : Calls Tryz.prog 28 #[.int .i64 k] w fun e w' => e = .returned (.int .i64 (rowK k)) ∧ w' = w := by
  go_enter Tryz.func28, Tryz.ntmps28
  go_wp2
  all_goals (go_ret; refine ⟨?_, rfl⟩; congr 3; unfold rowK; simp_all)
set_option maxRecDepth 100000 in
set_option maxHeartbeats 1600000 in
theorem kind_any (x : W) (hx : x.kind = 3 → ∃ c, x.text = [c]) (w : World) : Calls Tryz.prog 41 #[wordV x] w fun e w' => e = .returned (.int .i64 (kindW x)) ∧ Below w.heap.size w w' := by
  unfold wordV
  by_cases hk : x.kind = 3
  · obtain ⟨c, hc⟩ := hx hk
    have e : kindW x = kindC c := by unfold kindW; rw [if_pos hk, hc]; rfl
    rw [e, hk, hc]
    have hb : (ba [c]) = ⟨#[c]⟩ := rfl
    rw [hb]
    have hl : (⟨#[c]⟩ : ByteArray).toList = [c] := ByteArray.toList_mk ..
    unfold kindC
    have key : ∀ e : UInt8, ([c] == [e]) = decide (c = e) := fun e => by
      by_cases h : c = e
      · subst h; simp
      · simp [h]
    have g1 := key 124; have g2 := key 38; have g3 := key 61; have g4 := key 60; have g5 := key 43; have g6 := key 45; have g7 := key 42; have g8 := key 47
    clear key e hc hx
    go_enter Tryz.func41, Tryz.ntmps41
    go_wp2_with fail
    all_goals go_ret
    all_goals refine ⟨?_, (Below.refl _ _).alloc (Nat.le_refl _) _⟩
    all_goals first | rfl | simp_all
  · have e : kindW x = 0 := by unfold kindW; rw [if_neg hk]
    rw [e]
    have hk2 : ((x.kind : Int) != 3) = true := by simp; omega
    generalize ba x.text = s at *
    go_enter Tryz.func41, Tryz.ntmps41
    go_wp2_with fail
    go_ret
    exact ⟨rfl, (Below.refl _ _).alloc (Nat.le_refl _) _⟩
end Go.Proofs.YtlfeejjlcclbdaaGreatDoor
