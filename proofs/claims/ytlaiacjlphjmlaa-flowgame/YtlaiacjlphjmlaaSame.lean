/-
  Are two trees the same: contracts (the program's).
-/
import Derived.Test.YtlaiacjlphjmlaaBasZ
import Derived.Deep.RegionHeld3
namespace Go.Proofs.Ytlaiacjlphjmlaa
open Go.RowKit
set_option linter.unusedVariables false



/-- The answer that two trees are the same, or not. -/
def SameP (t t2 : Tr) (e : Ending) : Prop := ∃ b, e = .returned (.bool b) ∧ (b = true ↔ t = t2)
theorem SameP.no {t t2 : Tr} (h : ¬ t = t2) : SameP t t2 (.returned (.bool false)) := ⟨false, rfl, fun h => absurd h (by decide), fun e => absurd e h⟩
theorem SameP.yes {t t2 : Tr} (h : t = t2) : SameP t t2 (.returned (.bool true)) := ⟨true, rfl, fun _ => h, fun _ => rfl⟩
theorem SameP.of_yes {t t2 : Tr} {e : Ending} (h : SameP t t2 e) (he : t = t2) : e = .returned (.bool true) := by
  obtain ⟨b, h1, h2⟩ := h
  rw [h1, h2.2 he]
theorem SameP.of_no {t t2 : Tr} {e : Ending} (h : SameP t t2 e) (he : ¬ t = t2) : e = .returned (.bool false) := by
  obtain ⟨b, h1, h2⟩ := h
  cases b with
  | false => exact h1
  | true => exact absurd (h2.1 rfl) he
/-- Told whether two trees are the same. -/
def Tells (f : FuncId) (t : Tr) : Prop := ∀ (P Q : Nat → Prop) (t2 : Tr) (v1 v2 : Value) (w : World), Tre w P v1 t → Tre w Q v2 t2 →
  Calls Try.prog f #[v1, v2] w fun e w' => SameP t t2 e ∧ Below w.heap.size w w'
theorem Tre.drawn {w : World} {P : Nat → Prop} {v : Value} {t : Tr} (h : Tre w P v t) : Tre w.drew P v t := h.kept fun g hg _ => ⟨rfl, hg⟩
theorem kids_eq {l m : List Tr} (h : l.length = m.length) (hj : ∀ j, j < l.length → l.getD j zeroT = m.getD j zeroT) : l = m := by
  apply List.ext_getElem h
  intro j h1 h2
  have := hj j h1
  rw [List.getD_eq_getElem?_getD, List.getD_eq_getElem?_getD, List.getElem?_eq_getElem h1, List.getElem?_eq_getElem h2] at this
  exact this
theorem toList_ne {s t : Bs} (h : ¬ s = t) : ((ba s).toList == (ba t).toList) = false := by rw [ba_toList, ba_toList]; simpa using h
theorem getD_mem {l : List Tr} {i : Nat} (h : i < l.length) : l.getD i zeroT ∈ l := by rw [List.getD_eq_getElem?_getD, List.getElem?_eq_getElem h]; exact List.getElem_mem h
end Go.Proofs.Ytlaiacjlphjmlaa
