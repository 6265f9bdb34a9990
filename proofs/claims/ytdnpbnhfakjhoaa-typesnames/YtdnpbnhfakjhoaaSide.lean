/-
  A side: the loop over signs: contracts.
-/
import Derived.Test.YtdnpbnhfakjhoaaOper
import Derived.Deep.LoopGhost
namespace Go.Proofs.Ytdnpbnhfakjhoaa
open Go.RowKit
set_option linter.unusedVariables false


theorem kindC_range (c : UInt8) : kindC c = 0 ∨ 7 ≤ kindC c ∧ kindC c ≤ 14 := by
  unfold kindC
  repeat' split
  all_goals omega
theorem nextK_range (ws : List W) : nextK ws = 0 ∨ 7 ≤ nextK ws ∧ nextK ws ≤ 14 := by
  cases ws with
  | nil => exact .inl rfl
  | cons x r =>
    show kindW x = 0 ∨ 7 ≤ kindW x ∧ kindW x ≤ 14
    unfold kindW
    split
    · unfold kindS
      split
      · exact kindC_range _
      · exact .inl rfl
    · exact .inl rfl
theorem Cell4.set {w : World} {b : Nat} {v0 v1 v2 v3 : Value} (h : Cell4 w b v0 v1 v2 v3) (u0 u1 u2 u3 : Value) : Cell4 ((((w.setCell ⟨b, 0, none⟩ u0).setCell ⟨b, 1, none⟩ u1).setCell ⟨b, 2, none⟩ u2).setCell ⟨b, 3, none⟩ u3) b u0 u1 u2 u3 := by
  have h0 := h.c0; have h1 := h.c1; have h2 := h.c2; have h3 := h.c3
  refine ⟨?_, ?_, ?_, ?_, fun i => by simp only [World.frozen?_setCell]; exact h.free i⟩
  · rw [World.cell?_setCell_other _ _ _ _ (by simp), World.cell?_setCell_other _ _ _ _ (by simp), World.cell?_setCell_other _ _ _ _ (by simp), World.cell?_setCell_same' _ _ _ (by rw [h0]; rfl)]
  · rw [World.cell?_setCell_other _ _ _ _ (by simp), World.cell?_setCell_other _ _ _ _ (by simp), World.cell?_setCell_same' _ _ _ (by rw [World.cell?_setCell_other _ _ _ _ (by simp), h1]; rfl)]
  · rw [World.cell?_setCell_other _ _ _ _ (by simp), World.cell?_setCell_same' _ _ _ (by rw [World.cell?_setCell_other _ _ _ _ (by simp), World.cell?_setCell_other _ _ _ _ (by simp), h2]; rfl)]
  · rw [World.cell?_setCell_same' _ _ _ (by rw [World.cell?_setCell_other _ _ _ _ (by simp), World.cell?_setCell_other _ _ _ _ (by simp), World.cell?_setCell_other _ _ _ _ (by simp), h3]; rfl)]
theorem Post.alloc {rb en : Nat} {w w' : World} {R : Res} {e : Ending} (h : Post rb en w R e w') (o : Obj) : Post rb en w R e (w'.alloc o) := by
  cases R with
  | error x => exact ⟨h.1, h.2.alloc o⟩
  | ok x =>
    obtain ⟨⟨k, n, s, a, l, c, h1, h2⟩, h3, h4⟩ := h
    exact ⟨⟨k, n, s, a, l, c, h1, h2.alloc o⟩, h3.alloc o, h4.alloc o⟩
end Go.Proofs.Ytdnpbnhfakjhoaa
