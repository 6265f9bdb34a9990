/-
  The document's files and the files of a disk: how they hang together.
-/
import Derived.Test.YtcmnjiichkcmgaaRacts2
import Derived.Test.YtcmnjiichkcmgaaKeeps
namespace Go.Proofs.Ytcmnjiichkcmgaa
open Go.RowKit Go.Maps Go.Sort
set_option linter.unusedVariables false

def nk (f : Fl) : Key := key f.name
def Rising (fs : List Fl) : Prop := fs.Pairwise (fun a b => nk a < nk b)
theorem lt_of {a b : Key} (h : a ≤ b) (hne : a ≠ b) : a < b := by
  by_cases hlt : a < b
  · exact hlt
  · exact absurd (List.le_antisymm h (List.not_lt.1 hlt)) hne
theorem name_of_nk {f g : Fl} (h : nk f = nk g) : f.name = g.name := key_inj h
theorem lt_irr (a : Key) : ¬ a < a := List.lt_irrefl a
theorem lt_name {a b : Fl} (h : nk a < nk b) : a.name ≠ b.name := fun e => lt_irr (nk b) (by unfold nk at *; rw [e] at h; exact h)

/-- The document's files are the disk's. -/
structure Rel (fs : List Fl) (F : Tab) : Prop where
  rise : Rising fs
  vals : ∀ f ∈ fs, F (nk f) = some (f.firm ++ f.loose, f.firm.length)
  mem : ∀ k, (F k).isSome = true → ∃ f ∈ fs, nk f = k

theorem Rel.start : Rel [] none' := ⟨List.Pairwise.nil, by simp, fun k h => by cases h⟩
theorem Rel.names {fs : List Fl} {F : Tab} (h : Rel fs F) : NamesOf F (fs.map nk) := by
  refine ⟨?_, ?_, fun k => ?_⟩
  · exact List.pairwise_map.2 (h.rise.imp (fun hlt => List.le_of_lt hlt))
  · exact List.pairwise_map.2 (h.rise.imp (fun {a b} hlt (e : nk a = nk b) => lt_irr (nk b) (by rw [e] at hlt; exact hlt)))
  · rw [List.mem_map]
    constructor
    · rintro ⟨f, hf, rfl⟩
      rw [h.vals f hf]; rfl
    · intro hk
      obtain ⟨f, hf, e⟩ := h.mem k hk
      exact ⟨f, hf, e⟩

theorem ge_iff {x f : Fl} : ge x f = true ↔ ¬ nk x < nk f := by
  unfold ge nk
  rw [bytesLess_eq, toList_key, toList_key]
  simp
theorem putGo_done (f : Fl) : ∀ (xs : List Fl), (∀ x ∈ xs, x.name ≠ f.name) → putGo f xs true = xs
  | [], _ => rfl
  | x :: xs, h => by
    unfold putGo
    simp only [Bool.not_true, Bool.false_and, Bool.false_eq_true, if_false, List.nil_append, Bool.true_or]
    rw [if_neg (h x (by simp)), putGo_done f xs (fun y hy => h y (by simp [hy]))]
    rfl
theorem put_is (f : Fl) : ∀ (fs : List Fl), Rising fs → Rising (putGo f fs false) ∧ ∀ g, g ∈ putGo f fs false ↔ g = f ∨ (g ∈ fs ∧ g.name ≠ f.name)
  | [], _ => ⟨by simp [putGo, Rising], by simp [putGo]⟩
  | x :: xs, h => by
    have hx := (List.pairwise_cons.1 h).1
    have hxs := (List.pairwise_cons.1 h).2
    by_cases hlt : nk x < nk f
    · have hg : ge x f = false := by
        cases hh : ge x f with
        | false => rfl
        | true => exact absurd hlt (ge_iff.1 hh)
      have hne := lt_name hlt
      obtain ⟨i1, i2⟩ := put_is f xs hxs
      have e : putGo f (x :: xs) false = x :: putGo f xs false := by
        conv => lhs; unfold putGo
        simp [hg, hne]
      rw [e]
      refine ⟨List.pairwise_cons.2 ⟨fun g hgm => ?_, i1⟩, fun g => ?_⟩
      · rcases (i2 g).1 hgm with rfl | ⟨h1, _⟩
        · exact hlt
        · exact hx g h1
      · rw [List.mem_cons, i2, List.mem_cons]
        constructor
        · rintro (rfl | rfl | ⟨h1, h2⟩)
          · exact .inr ⟨.inl rfl, hne⟩
          · exact .inl rfl
          · exact .inr ⟨.inr h1, h2⟩
        · rintro (rfl | ⟨rfl | h1, h2⟩)
          · exact .inr (.inl rfl)
          · exact .inl rfl
          · exact .inr (.inr ⟨h1, h2⟩)
    · have hg : ge x f = true := ge_iff.2 hlt
      have hle : nk f ≤ nk x := List.not_lt.1 hlt
      have hrest : ∀ y ∈ xs, nk f < nk y := fun y hy => List.lt_of_le_of_lt hle (hx y hy)
      have hd : putGo f xs true = xs := putGo_done f xs (fun y hy e => lt_name (hrest y hy) e.symm)
      by_cases hn : x.name = f.name
      · have e : putGo f (x :: xs) false = f :: xs := by
          conv => lhs; unfold putGo
          simp [hg, hn, hd]
        rw [e]
        refine ⟨List.pairwise_cons.2 ⟨hrest, hxs⟩, fun g => ?_⟩
        rw [List.mem_cons, List.mem_cons]
        constructor
        · rintro (rfl | h1)
          · exact .inl rfl
          · exact .inr ⟨.inr h1, fun e => lt_name (hrest g h1) e.symm⟩
        · rintro (rfl | ⟨rfl | h1, h2⟩)
          · exact .inl rfl
          · exact absurd hn h2
          · exact .inr h1
      · have e : putGo f (x :: xs) false = f :: x :: xs := by
          conv => lhs; unfold putGo
          simp [hg, hn, hd]
        have hfx : nk f < nk x := lt_of hle (fun e => hn (name_of_nk e).symm)
        rw [e]
        refine ⟨List.pairwise_cons.2 ⟨fun y hy => ?_, h⟩, fun g => ?_⟩
        · rcases List.mem_cons.1 hy with rfl | hy
          · exact hfx
          · exact hrest y hy
        · rw [List.mem_cons, List.mem_cons]
          constructor
          · rintro (rfl | rfl | h1)
            · exact .inl rfl
            · exact .inr ⟨.inl rfl, hn⟩
            · exact .inr ⟨.inr h1, fun e => lt_name (hrest g h1) e.symm⟩
          · rintro (rfl | ⟨rfl | h1, h2⟩)
            · exact .inl rfl
            · exact .inr (.inl rfl)
            · exact .inr (.inr h1)

theorem nk_ne {f g : Fl} (h : g.name ≠ f.name) : nk g ≠ nk f := fun e => h (name_of_nk e)
theorem Rel.put {fs : List Fl} {F : Tab} (h : Rel fs F) (f : Fl) : Rel (putL fs f) (upd F (nk f) (some (f.firm ++ f.loose, f.firm.length))) := by
  obtain ⟨p1, p2⟩ := put_is f fs h.rise
  refine ⟨p1, fun g hg => ?_, fun k hk => ?_⟩
  · rcases (p2 g).1 hg with rfl | ⟨h1, h2⟩
    · rw [upd_same]
    · rw [upd_other _ _ (nk_ne h2)]; exact h.vals g h1
  · by_cases e : k = nk f
    · exact ⟨f, (p2 f).2 (.inl rfl), e.symm⟩
    · rw [upd_other _ _ e] at hk
      obtain ⟨g, hg, rfl⟩ := h.mem k hk
      exact ⟨g, (p2 g).2 (.inr ⟨hg, fun e2 => e (by unfold nk; rw [e2])⟩), rfl⟩
theorem without_mem (s : ByteArray) : ∀ (fs : List Fl) (g : Fl), g ∈ withoutL s fs ↔ g ∈ fs ∧ g.name ≠ s
  | [], g => by simp [withoutL]
  | f :: r, g => by
    have := without_mem s r g
    unfold withoutL
    by_cases e : f.name = s
    · rw [if_pos e, this, List.mem_cons]
      constructor
      · rintro ⟨h1, h2⟩; exact ⟨.inr h1, h2⟩
      · rintro ⟨rfl | h1, h2⟩
        · exact absurd e h2
        · exact ⟨h1, h2⟩
    · rw [if_neg e, List.mem_cons, this, List.mem_cons]
      constructor
      · rintro (rfl | ⟨h1, h2⟩)
        · exact ⟨.inl rfl, e⟩
        · exact ⟨.inr h1, h2⟩
      · rintro ⟨rfl | h1, h2⟩
        · exact .inl rfl
        · exact .inr ⟨h1, h2⟩
theorem without_sub (s : ByteArray) : ∀ (fs : List Fl), (withoutL s fs).Sublist fs
  | [] => by simp [withoutL]
  | f :: r => by
    unfold withoutL
    by_cases e : f.name = s
    · rw [if_pos e]; exact (without_sub s r).cons _
    · rw [if_neg e]; exact (without_sub s r).cons_cons _
theorem Rel.without {fs : List Fl} {F : Tab} (h : Rel fs F) (s : ByteArray) : Rel (withoutL s fs) (upd F (key s) none) := by
  refine ⟨h.rise.sublist (without_sub s fs), fun g hg => ?_, fun k hk => ?_⟩
  · obtain ⟨h1, h2⟩ := (without_mem s fs g).1 hg
    rw [upd_other _ _ (show nk g ≠ key s from fun e => h2 (key_inj e))]
    exact h.vals g h1
  · by_cases e : k = key s
    · subst e; rw [upd_same] at hk; cases hk
    · rw [upd_other _ _ e] at hk
      obtain ⟨g, hg, rfl⟩ := h.mem k hk
      exact ⟨g, (without_mem s fs g).2 ⟨hg, fun e2 => e (by unfold nk; rw [e2])⟩, rfl⟩

theorem getD_memF {fs : List Fl} {i : Nat} (h : i < fs.length) : fs.getD i noFl ∈ fs := by
  have e : fs.getD i noFl = fs[i] := by simp [h]
  rw [e]; exact List.getElem_mem _
theorem Rel.found {fs : List Fl} {F : Tab} (h : Rel fs F) {s : ByteArray} {k : Nat} (hf : find fs s = some k) : F (key s) = some ((fs.getD k noFl).firm ++ (fs.getD k noFl).loose, (fs.getD k noFl).firm.length) := by
  obtain ⟨hk, hn⟩ := find_some hf
  have := h.vals _ (getD_memF hk)
  unfold nk at this
  rwa [hn] at this
theorem Rel.lost {fs : List Fl} {F : Tab} (h : Rel fs F) {s : ByteArray} (hf : find fs s = none) : F (key s) = none := by
  cases hF : F (key s) with
  | none => rfl
  | some x =>
    obtain ⟨g, hg, e⟩ := h.mem (key s) (by rw [hF]; rfl)
    exact absurd (key_inj e) (findFrom_none hf g hg)
theorem Rel.bytes {fs : List Fl} {F : Tab} (h : Rel fs F) (s : ByteArray) : bytesL fs s = bytesOf F (key s) := by
  unfold bytesL bytesOf
  cases hf : find fs s with
  | none => rw [h.lost hf]
  | some k => rw [h.found hf]
/-- Where a file stands it is found. -/
theorem find_at {fs : List Fl} (h : Rising fs) {i : Nat} (hi : i < fs.length) : find fs (fs.getD i noFl).name = some i := by
  cases hf : find fs (fs.getD i noFl).name with
  | none => exact absurd rfl (findFrom_none hf _ (getD_memF hi))
  | some k =>
    obtain ⟨hk, hn⟩ := find_some hf
    rcases Nat.lt_trichotomy k i with hlt | rfl | hlt
    · exfalso
      have := List.pairwise_iff_getElem.1 h k i hk hi hlt
      have e1 : fs.getD k noFl = fs[k] := by simp [hk]
      have e2 : fs.getD i noFl = fs[i] := by simp [hi]
      rw [e1, e2] at hn
      exact lt_name this hn
    · rfl
    · exfalso
      have := List.pairwise_iff_getElem.1 h i k hi hk hlt
      have e1 : fs.getD k noFl = fs[k] := by simp [hk]
      have e2 : fs.getD i noFl = fs[i] := by simp [hi]
      rw [e1, e2] at hn
      exact lt_name this hn.symm


end Go.Proofs.Ytcmnjiichkcmgaa
