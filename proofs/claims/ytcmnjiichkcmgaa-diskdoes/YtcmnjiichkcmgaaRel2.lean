/-
  A crash, and each act, on the document's files and on the disk's: the same.
-/
import Derived.Test.YtcmnjiichkcmgaaRcrash
import Derived.Test.YtcmnjiichkcmgaaRel
namespace Go.Proofs.Ytcmnjiichkcmgaa
open Go.RowKit Go.Maps Go.Sort
set_option linter.unusedVariables false

theorem crash_mem (zs : List Int) : ∀ (fs : List Fl) (i : Nat) (g : Fl), g ∈ crashL zs fs i ↔ ∃ j, j < fs.length ∧ leftL zs (fs.getD j noFl) (i + j) ≠ [] ∧ g = ⟨(fs.getD j noFl).name, leftL zs (fs.getD j noFl) (i + j), []⟩
  | [], i, g => by simp [crashL]
  | f :: r, i, g => by
    have ih := crash_mem zs r (i + 1) g
    unfold crashL
    rw [List.mem_append, ih]
    constructor
    · rintro (h | ⟨j, hj, h1, h2⟩)
      · by_cases e : leftL zs f i = []
        · rw [if_pos e] at h; simp at h
        · rw [if_neg e] at h
          simp at h
          exact ⟨0, by simp, by simpa using e, by simpa using h⟩
      · refine ⟨j + 1, by simpa using hj, ?_, ?_⟩
        · rw [show i + (j + 1) = i + 1 + j by omega]; simpa using h1
        · rw [show i + (j + 1) = i + 1 + j by omega]; simpa using h2
    · rintro ⟨j, hj, h1, h2⟩
      cases j with
      | zero =>
        left
        have e : leftL zs f i ≠ [] := by simpa using h1
        rw [if_neg e]
        simpa using h2
      | succ j =>
        right
        rw [show i + (j + 1) = i + 1 + j by omega] at h1 h2
        exact ⟨j, by simpa using hj, by simpa using h1, by simpa using h2⟩
theorem crash_sub (zs : List Int) : ∀ (fs : List Fl) (i : Nat), ((crashL zs fs i).map nk).Sublist (fs.map nk)
  | [], i => by simp [crashL]
  | f :: r, i => by
    have ih := crash_sub zs r (i + 1)
    unfold crashL
    by_cases e : leftL zs f i = []
    · rw [if_pos e, List.nil_append]
      exact ih.cons _
    · rw [if_neg e]
      exact ih.cons_cons _
theorem left_is {F : Tab} {f : Fl} (h : F (nk f) = some (f.firm ++ f.loose, f.firm.length)) (zs : List Int) (j : Nat) : left F (nk f) zs j = leftL zs f j := by
  unfold left leftL bytesOf syncOf
  rw [h]
  show (f.firm ++ f.loose).take (f.firm.length + kept zs j ((f.firm ++ f.loose).length - f.firm.length)) = _
  have e : (f.firm ++ f.loose).length - f.firm.length = f.loose.length := by simp
  rw [e, List.take_length_add_append]
  rfl
theorem getD_map {fs : List Fl} {j : Nat} (h : j < fs.length) : (fs.map nk).getD j [] = nk (fs.getD j noFl) := by
  simp [List.getD, h]
theorem Rel.crash {fs : List Fl} {F : Tab} (h : Rel fs F) (zs : List Int) : Rel (crashL zs fs 0) (crashTo F (fs.map nk) zs (fs.map nk).length) := by
  have hn := h.names
  have hat : ∀ j, j < fs.length → crashTo F (fs.map nk) zs (fs.map nk).length (nk (fs.getD j noFl)) = settled (leftL zs (fs.getD j noFl) j) := fun j hj => by
    have := crashTo_at (F := F) zs hn.once (i := j) (by simpa using hj) (fs.map nk).length (by simpa using hj) (Nat.le_refl _)
    rw [getD_map hj, left_is (h.vals _ (getD_memF hj))] at this
    exact this
  refine ⟨?_, fun g hg => ?_, fun k hk => ?_⟩
  · have h1 : (fs.map nk).Pairwise (fun a b => a < b) := List.pairwise_map.2 h.rise
    exact List.pairwise_map.1 (h1.sublist (crash_sub zs fs 0))
  · obtain ⟨j, hj, h1, rfl⟩ := (crash_mem zs fs 0 g).1 hg
    rw [Nat.zero_add] at h1 ⊢
    have := hat j hj
    show crashTo F (fs.map nk) zs (fs.map nk).length (nk (fs.getD j noFl)) = _
    rw [this]
    unfold settled
    rw [if_neg h1]
    simp
  · cases hF : F k with
    | none => rw [crash_none zs hn hF] at hk; cases hk
    | some x =>
      obtain ⟨f, hf, rfl⟩ := h.mem k (by rw [hF]; rfl)
      obtain ⟨j, hj, e⟩ := List.getElem_of_mem hf
      have e2 : fs.getD j noFl = f := by simp [hj, e]
      rw [← e2, hat j hj] at hk
      have hne : leftL zs (fs.getD j noFl) j ≠ [] := fun e3 => by rw [e3] at hk; simp [settled] at hk
      refine ⟨_, (crash_mem zs fs 0 _).2 ⟨j, hj, by rw [Nat.zero_add]; exact hne, rfl⟩, ?_⟩
      rw [← e2]
      rfl

/-- What an act makes of the document's files, and what it answers. -/
def stepL (fs : List Fl) (o : Do) : List Fl × Int :=
  if o.kind = 0 then (if nm o.name then (putL fs ⟨o.name, (entry fs o.name).firm, (entry fs o.name).loose ++ o.b⟩, 0) else (fs, 1))
  else if o.kind = 1 then ((match find fs o.name with | some k => putL fs ⟨o.name, (fs.getD k noFl).firm ++ (fs.getD k noFl).loose, []⟩ | none => fs), (match find fs o.name with | some _ => 0 | none => 9))
  else if o.kind = 2 then ((if nm o.name then (if o.b = [] then withoutL o.name fs else putL fs ⟨o.name, o.b, []⟩) else fs), (if nm o.name then 0 else 1))
  else if o.kind = 3 then (crashL o.keep fs 0, 0)
  else (fs, 0)

theorem Rel.act {fs : List Fl} {F F' : Tab} {o : Do} {x : Int} (h : Rel fs F) (ha : Acted F o F' x) : Rel (stepL fs o).1 F' ∧ (stepL fs o).2 = x := by
  rcases ha with ⟨hk, ha⟩ | ⟨hk, ha⟩ | ⟨hk, ha⟩ | ⟨hk, ks, hks, rfl, rfl⟩ | ⟨k0, k1, k2, k3, rfl, rfl⟩
  · unfold stepL
    rw [if_pos hk]
    rcases ha with ⟨hn, rfl, rfl⟩ | ⟨hn, rfl, rfl⟩
    · rw [if_pos hn]
      refine ⟨?_, rfl⟩
      have e : appF F (key o.name) o.b = upd F (nk ⟨o.name, (entry fs o.name).firm, (entry fs o.name).loose ++ o.b⟩) (some ((entry fs o.name).firm ++ ((entry fs o.name).loose ++ o.b), (entry fs o.name).firm.length)) := by
        unfold appF nk entry bytesOf syncOf
        cases hf : find fs o.name with
        | none => rw [h.lost hf]; simp [noFl]
        | some k => rw [h.found hf]; simp
      rw [e]
      exact h.put _
    · rw [if_neg (by rw [hn]; simp)]
      exact ⟨h, rfl⟩
  · unfold stepL
    rw [if_neg (by omega), if_pos hk]
    rcases ha with ⟨hs, rfl, rfl⟩ | ⟨hs, rfl, rfl⟩
    · cases hf : find fs o.name with
      | none => rw [h.lost hf] at hs; cases hs
      | some k =>
        refine ⟨?_, rfl⟩
        have e : syncF F (key o.name) = upd F (nk ⟨o.name, (fs.getD k noFl).firm ++ (fs.getD k noFl).loose, []⟩) (some (((fs.getD k noFl).firm ++ (fs.getD k noFl).loose) ++ [], ((fs.getD k noFl).firm ++ (fs.getD k noFl).loose).length)) := by
          unfold syncF nk bytesOf
          rw [h.found hf, List.append_nil]
        rw [e]
        exact h.put _
    · cases hf : find fs o.name with
      | none => exact ⟨h, rfl⟩
      | some k => rw [h.found hf] at hs; cases hs
  · unfold stepL
    rw [if_neg (by omega), if_neg (by omega), if_pos hk]
    rcases ha with ⟨hn, rfl, rfl⟩ | ⟨hn, rfl, rfl⟩
    · rw [if_pos hn, if_pos hn]
      refine ⟨?_, rfl⟩
      by_cases hb : o.b = []
      · rw [if_pos hb]
        have e : replF F (key o.name) o.b = upd F (key o.name) none := by unfold replF; rw [if_pos hb]
        rw [e]
        exact h.without _
      · rw [if_neg hb]
        have e : replF F (key o.name) o.b = upd F (nk ⟨o.name, o.b, []⟩) (some (o.b ++ [], o.b.length)) := by unfold replF nk; rw [if_neg hb, List.append_nil]
        rw [e]
        exact h.put _
    · rw [if_neg (by rw [hn]; simp), if_neg (by rw [hn]; simp)]
      exact ⟨h, rfl⟩
  · unfold stepL
    rw [if_neg (by omega), if_neg (by omega), if_neg (by omega), if_pos hk]
    obtain rfl := h.names.unique hks
    exact ⟨h.crash _, rfl⟩
  · unfold stepL
    rw [if_neg k0, if_neg k1, if_neg k2, if_neg k3]
    exact ⟨h, rfl⟩

/-- Files are few, and not long. -/
theorem Rel.fits {fs : List Fl} {F : Tab} (h : Rel fs F) {M : Nat} (hf : Fits F M) {i : Nat} (hi : i < fs.length) : (fs.getD i noFl).firm.length + (fs.getD i noFl).loose.length ≤ M := by
  have := (hf _ _ _ (h.vals _ (getD_memF hi))).2
  rwa [List.length_append] at this

end Go.Proofs.Ytcmnjiichkcmgaa
