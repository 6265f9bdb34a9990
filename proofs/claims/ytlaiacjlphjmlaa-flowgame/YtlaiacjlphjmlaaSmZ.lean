/-
  The program's Same, with its closures and slices.EqualFunc: contracts.
-/
import Derived.Test.YtlaiacjlphjmlaaChD
import Derived.Test.YtlaiacjlphjmlaaSame
import Derived.Laws.EntriesVeiled
namespace Go.Proofs.Ytlaiacjlphjmlaa
section
open Go.RowKit
set_option linter.unusedVariables false

/-- The answer that two are the same, or not. -/
def SameQ {α : Type} (x y : α) (e : Ending) : Prop := ∃ b, e = .returned (.bool b) ∧ (b = true ↔ x = y)
theorem SameQ.no {α : Type} {t t2 : α} (h : ¬ t = t2) : SameQ t t2 (.returned (.bool false)) := ⟨false, rfl, fun h => absurd h (by decide), fun e => absurd e h⟩
theorem SameQ.yes {α : Type} {t t2 : α} (h : t = t2) : SameQ t t2 (.returned (.bool true)) := ⟨true, rfl, fun _ => h, fun _ => rfl⟩
theorem SameQ.of_yes {α : Type} {t t2 : α} {e : Ending} (h : SameQ t t2 e) (he : t = t2) : e = .returned (.bool true) := by
  obtain ⟨b, h1, h2⟩ := h
  rw [h1, h2.2 he]
theorem SameQ.of_no {α : Type} {t t2 : α} {e : Ending} (h : SameQ t t2 e) (he : ¬ t = t2) : e = .returned (.bool false) := by
  obtain ⟨b, h1, h2⟩ := h
  cases b with
  | false => exact h1
  | true => exact absurd (h2.1 rfl) he
theorem list_same {α : Type} {l m : List α} (h : l.length = m.length) (hj : ∀ j (h1 : j < l.length) (h2 : j < m.length), l[j] = m[j]) : l = m := List.ext_getElem h fun j h1 h2 => hj j h1 h2
end
section
open Go.RowKit
set_option linter.unusedVariables false

theorem fl_eq {f g : Fl} : f = g ↔ f.to = g.to ∧ f.ifs = g.ifs := by
  constructor
  · rintro rfl; exact ⟨rfl, rfl⟩
  · obtain ⟨a, b⟩ := f
    obtain ⟨c, d⟩ := g
    rintro ⟨h1, h2⟩
    simp only at h1 h2
    rw [h1, h2]
theorem pl_eq {f g : Pl} : f = g ↔ f.kind = g.kind ∧ f.name = g.name ∧ f.n = g.n ∧ f.arg = g.arg ∧ f.out = g.out := by
  constructor
  · rintro rfl; exact ⟨rfl, rfl, rfl, rfl, rfl⟩
  · obtain ⟨a, b, c, d, e⟩ := f
    obtain ⟨a', b', c', d', e'⟩ := g
    rintro ⟨h1, h2, h3, h4, h5⟩
    simp only at h1 h2 h3 h4 h5
    rw [h1, h2, h3, h4, h5]
theorem cell5_second (w : World) (o : Obj) (v0 v1 v2 v3 v4 : Value) (t : TypeId) : Cell5 ((w.alloc o).alloc (.cells #[v0, v1, v2, v3, v4] t)) (w.heap.size + 1) v0 v1 v2 v3 v4 := by
  have := Cell5.new (w.alloc o) v0 v1 v2 v3 v4 t
  rw [size_alloc] at this
  exact this
end
section
open Go.RowKit
set_option linter.unusedVariables false

theorem df_eq {f g : Df} : f = g ↔ f.id = g.id ∧ f.places = g.places := by
  constructor
  · rintro rfl; exact ⟨rfl, rfl⟩
  · obtain ⟨a, b⟩ := f
    obtain ⟨c, d⟩ := g
    rintro ⟨h1, h2⟩
    simp only at h1 h2
    rw [h1, h2]
/-- The law's example. -/
def smallD : Df := ⟨[112], [⟨1, [], 0, [], [⟨1, []⟩]⟩, ⟨2, [112, 97, 121], 2, [], [⟨2, []⟩]⟩, ⟨8, [], 0, [], []⟩]⟩
theorem small_ok : checkD smallD = 0 := by decide
theorem none_flow : checkD ⟨[112], []⟩ = 8 := by decide
theorem small_len : (defB smallD).length = 25 := by decide
def notYes : Tr := ⟨6, 0, [], [⟨3, 0, [], []⟩]⟩
theorem notYes_ok : checkM 16 notYes = 0 := by decide
theorem notYes_read : exprE [6, 3, 9] = .ok (notYes, [9]) := by rfl
theorem notYes_put : treeB 16 notYes = [6, 3] := by rfl
set_option maxRecDepth 100000 in
theorem Small_any (w : World) : Calls Try.prog 17 #[] w fun e w' => ∃ a c, e = .returned (.agg #[.string ⟨#[112]⟩, .slice a 3 c]) ∧ DfV w' (fun g => w.heap.size ≤ g) smallD a c ∧ Below w.heap.size w w' := by
  go_enter Try.func17, Try.ntmps17
  go_wp2
  obtain ⟨W, hW⟩ : ∃ W, W = ((((w.alloc (.cells #[.string ⟨#[112]⟩, .slice (some ⟨w.heap.size + 1 + 1 + 1, 0, none⟩) 3 3] 24)).alloc (.cells #[.int .i64 1, .slice none 0 0] 39)).alloc (.cells #[.int .i64 2, .slice none 0 0] 39)).alloc (.cells #[.int .i64 1, .string ⟨#[]⟩, .int .i64 0, .slice none 0 0, .slice (some ⟨w.heap.size + 1, 0, none⟩) 1 1, .int .i64 2, .string ⟨#[112, 97, 121]⟩, .int .i64 2, .slice none 0 0, .slice (some ⟨w.heap.size + 1 + 1, 0, none⟩) 1 1, .int .i64 8, .string ⟨#[]⟩, .int .i64 0, .slice none 0 0, .slice none 0 0] 37)) := ⟨_, rfl⟩
  rw [← hW]
  have hB : Below w.heap.size w W := by
    rw [hW]
    exact ((((Below.refl _ _).alloc (Nat.le_refl _) _).alloc (le_alloc _ _) _).alloc (Nat.le_trans (le_alloc _ _) (le_alloc _ _)) _).alloc (Nat.le_trans (Nat.le_trans (le_alloc _ _) (le_alloc _ _)) (le_alloc _ _)) _
  have r0 : W.heap[w.heap.size]? = some (.cells #[.string ⟨#[112]⟩, .slice (some ⟨w.heap.size + 1 + 1 + 1, 0, none⟩) 3 3] 24 (0, 0)) := by
    rw [hW, heap_alloc_old _ _ (by rw [size_alloc, size_alloc, size_alloc]; omega), heap_alloc_old _ _ (by rw [size_alloc, size_alloc]; omega), heap_alloc_old _ _ (by rw [size_alloc]; omega)]
    exact heap_alloc_new w _
  have r1 : W.heap[w.heap.size + 1]? = some (.cells #[.int .i64 1, .slice none 0 0] 39 (0, 0)) := by
    rw [hW, heap_alloc_old _ _ (by rw [size_alloc, size_alloc, size_alloc]; omega), heap_alloc_old _ _ (by rw [size_alloc, size_alloc]; omega)]
    have := heap_alloc_new (w.alloc (.cells #[.string ⟨#[112]⟩, .slice (some ⟨w.heap.size + 1 + 1 + 1, 0, none⟩) 3 3] 24)) (.cells #[.int .i64 1, .slice none 0 0] 39)
    rw [size_alloc] at this
    exact this
  have r2 : W.heap[w.heap.size + 1 + 1]? = some (.cells #[.int .i64 2, .slice none 0 0] 39 (0, 0)) := by
    rw [hW, heap_alloc_old _ _ (by rw [size_alloc, size_alloc, size_alloc]; omega)]
    have := heap_alloc_new ((w.alloc (.cells #[.string ⟨#[112]⟩, .slice (some ⟨w.heap.size + 1 + 1 + 1, 0, none⟩) 3 3] 24)).alloc (.cells #[.int .i64 1, .slice none 0 0] 39)) (.cells #[.int .i64 2, .slice none 0 0] 39)
    rw [size_alloc, size_alloc] at this
    exact this
  have r3 : W.heap[w.heap.size + 1 + 1 + 1]? = some (.cells #[.int .i64 1, .string ⟨#[]⟩, .int .i64 0, .slice none 0 0, .slice (some ⟨w.heap.size + 1, 0, none⟩) 1 1, .int .i64 2, .string ⟨#[112, 97, 121]⟩, .int .i64 2, .slice none 0 0, .slice (some ⟨w.heap.size + 1 + 1, 0, none⟩) 1 1, .int .i64 8, .string ⟨#[]⟩, .int .i64 0, .slice none 0 0, .slice none 0 0] 37 (0, 0)) := by
    have := heap_alloc_new (((w.alloc (.cells #[.string ⟨#[112]⟩, .slice (some ⟨w.heap.size + 1 + 1 + 1, 0, none⟩) 3 3] 24)).alloc (.cells #[.int .i64 1, .slice none 0 0] 39)).alloc (.cells #[.int .i64 2, .slice none 0 0] 39)) (.cells #[.int .i64 1, .string ⟨#[]⟩, .int .i64 0, .slice none 0 0, .slice (some ⟨w.heap.size + 1, 0, none⟩) 1 1, .int .i64 2, .string ⟨#[112, 97, 121]⟩, .int .i64 2, .slice none 0 0, .slice (some ⟨w.heap.size + 1 + 1, 0, none⟩) 1 1, .int .i64 8, .string ⟨#[]⟩, .int .i64 0, .slice none 0 0, .slice none 0 0] 37)
    rw [size_alloc, size_alloc, size_alloc] at this
    rw [hW]; exact this
  have k0 : W.cell? ⟨w.heap.size, 0, none⟩ = some (.string ⟨#[112]⟩) := by rw [cell_of_row _ _ _ _ 24 (0, 0) r0]; rfl
  have k1 : W.cell? ⟨w.heap.size, 1, none⟩ = some (.slice (some ⟨w.heap.size + 1 + 1 + 1, 0, none⟩) 3 3) := by rw [cell_of_row _ _ _ _ 24 (0, 0) r0]; rfl
  have hD : DfV W (fun g => w.heap.size ≤ g) smallD (some ⟨w.heap.size + 1 + 1 + 1, 0, none⟩) 3 := by
    have f1 : FlsV W (fun g => w.heap.size ≤ g) (.slice (some ⟨w.heap.size + 1, 0, none⟩) 1 1) [⟨1, []⟩] := ⟨_, 1, rfl, Nat.le_refl _, by decide, fun i hi => by
      obtain rfl : i = 0 := by simpa using hi
      exact ⟨w.heap.size + 1, 0, none, 0, rfl, by omega, by rw [cell_of_row _ _ _ _ 39 (0, 0) r1]; rfl, by rw [cell_of_row _ _ _ _ 39 (0, 0) r1]; rfl, ExsV.nil _ _, by decide, by decide⟩⟩
    have f2 : FlsV W (fun g => w.heap.size ≤ g) (.slice (some ⟨w.heap.size + 1 + 1, 0, none⟩) 1 1) [⟨2, []⟩] := ⟨_, 1, rfl, Nat.le_refl _, by decide, fun i hi => by
      obtain rfl : i = 0 := by simpa using hi
      exact ⟨w.heap.size + 1 + 1, 0, none, 0, rfl, by omega, by rw [cell_of_row _ _ _ _ 39 (0, 0) r2]; rfl, by rw [cell_of_row _ _ _ _ 39 (0, 0) r2]; rfl, ExsV.nil _ _, by decide, by decide⟩⟩
    have hc : ∀ o, W.cell? ⟨w.heap.size + 1 + 1 + 1, o, none⟩ = _ := fun o => cell_of_row _ _ _ _ 37 (0, 0) r3
    refine ⟨by decide, _, 3, rfl, Nat.le_refl _, by decide, fun i hi => ?_⟩
    have : i = 0 ∨ i = 1 ∨ i = 2 := by simp [smallD] at hi; omega
    rcases this with rfl | rfl | rfl
    · exact ⟨w.heap.size + 1 + 1 + 1, 0, none, 0, _, 1, rfl, by omega, by rw [hc]; rfl, by rw [hc]; rfl, by rw [hc]; rfl, by rw [hc]; rfl, by rw [hc]; rfl, ⟨by decide, by decide⟩, ⟨by decide, by decide⟩, by decide, ExsV.nil _ _, f1⟩
    · exact ⟨w.heap.size + 1 + 1 + 1, 0, none, 0, _, 1, rfl, by omega, by rw [hc]; rfl, by rw [hc]; rfl, by rw [hc]; rfl, by rw [hc]; rfl, by rw [hc]; rfl, ⟨by decide, by decide⟩, ⟨by decide, by decide⟩, by decide, ExsV.nil _ _, f2⟩
    · exact ⟨w.heap.size + 1 + 1 + 1, 0, none, 0, none, 0, rfl, by omega, by rw [hc]; rfl, by rw [hc]; rfl, by rw [hc]; rfl, by rw [hc]; rfl, by rw [hc]; rfl, ⟨by decide, by decide⟩, ⟨by decide, by decide⟩, by decide, ExsV.nil _ _, FlsV.nil _ _⟩
  refine bodyPost_ret (v := .agg #[.string ⟨#[112]⟩, .slice (some ⟨w.heap.size + 1 + 1 + 1, 0, none⟩) 3 3]) (by simp [results, Try.results17, go_sem, k0, k1]) rfl ⟨_, _, rfl, hD, hB⟩
end
end Go.Proofs.Ytlaiacjlphjmlaa
