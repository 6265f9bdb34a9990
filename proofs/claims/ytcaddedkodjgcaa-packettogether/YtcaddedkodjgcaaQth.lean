/-
  Layer 14 as mathematics: how many are enough, who wins, up to where a majority has come.
-/
namespace Go.Proofs.Ytcaddedkodjgcaa
set_option linter.unusedVariables false

/-- How many are enough. -/
def enM (n : Int) : Int := if n < 1 then 0 else n / 2 + 1
theorem enM_low {n : Int} (h : n < 1) : enM n = 0 := by unfold enM; rw [if_pos h]
theorem enM_pos {n : Int} (h : ¬ n < 1) : enM n = n / 2 + 1 := by unfold enM; rw [if_neg h]
theorem enM_odd {n : Int} (h : ¬ n < 1) (h2 : ¬ n % 2 = 0) : enM n = (n - 1) / 2 + 1 := by rw [enM_pos h]; omega
/-- How many grant. -/
def cntB (l : List Bool) : Nat := l.countP id
theorem cntB_le (l : List Bool) : cntB l ≤ l.length := List.countP_le_length
theorem cntB_take (l : List Bool) (k : Nat) : cntB (l.take k) ≤ k := by
  have := cntB_le (l.take k)
  rw [List.length_take] at this
  omega
theorem cntB_yes {l : List Bool} {k : Nat} (hk : k < l.length) (h : l.getD k false = true) : cntB (l.take (k + 1)) = cntB (l.take k) + 1 := by
  rw [List.getD_eq_getElem?_getD, List.getElem?_eq_getElem hk] at h
  unfold cntB
  rw [List.take_succ_eq_append_getElem hk, List.countP_append]
  simp at h
  simp [h]
theorem cntB_no {l : List Bool} {k : Nat} (hk : k < l.length) (h : l.getD k false = false) : cntB (l.take (k + 1)) = cntB (l.take k) := by
  rw [List.getD_eq_getElem?_getD, List.getElem?_eq_getElem hk] at h
  unfold cntB
  rw [List.take_succ_eq_append_getElem hk, List.countP_append]
  simp at h
  simp [h]
/-- Who wins. -/
def wonM (l : List Bool) : Bool := decide (l.length < 2 * cntB l)
theorem won_of {l : List Bool} : wonM l = true ↔ l.length < 2 * cntB l := by unfold wonM; exact decide_eq_true_iff
theorem won_en {l : List Bool} (h : 0 < l.length) : decide (enM l.length ≤ (cntB l : Nat)) = wonM l := by
  unfold wonM
  have e := enM_pos (n := (l.length : Nat)) (by omega)
  rw [decide_eq_decide, e]
  omega
theorem won_none {l : List Bool} (h : l.length = 0) : wonM l = false := by
  unfold wonM
  have := cntB_le l
  exact decide_eq_false (by omega)
theorem won_more {l : List Bool} : decide (((l.length - cntB l : Nat) : Int) < (cntB l : Nat)) = wonM l := by
  unfold wonM
  have := cntB_le l
  rw [decide_eq_decide]
  omega
theorem cntB_set : ∀ (l : List Bool) (k : Nat), cntB l ≤ cntB (l.set k true)
  | [], k => by simp
  | b :: l, 0 => by unfold cntB; rw [List.set_cons_zero, List.countP_cons, List.countP_cons]; simp; split <;> omega
  | b :: l, k + 1 => by
    have := cntB_set l k
    unfold cntB at *
    rw [List.set_cons_succ, List.countP_cons, List.countP_cons]
    omega
theorem won_set {l : List Bool} {k : Nat} (h : wonM l = true) : wonM (l.set k true) = true := by
  rw [won_of] at *
  have := cntB_set l k
  rw [List.length_set]
  omega
/-- Do both grant at one place? -/
def bothM (a b : List Bool) : Bool := (a.zip b).any fun p => p.1 && p.2
theorem both_no : ∀ {a b : List Bool}, a.length = b.length → bothM a b = false → cntB a + cntB b ≤ a.length
  | [], [], _, _ => by simp [cntB]
  | [], _ :: _, h, _ => by simp at h
  | _ :: _, [], h, _ => by simp at h
  | x :: a, y :: b, h, h2 => by
    simp only [List.length_cons, Nat.add_right_cancel_iff] at h
    unfold bothM at h2
    rw [List.zip_cons_cons, List.any_cons, Bool.or_eq_false_iff] at h2
    have := both_no h h2.2
    have h3 := h2.1
    unfold cntB at *
    rw [List.countP_cons, List.countP_cons, List.length_cons]
    cases x <;> cases y <;> simp at h3 ⊢ <;> omega
theorem both_meet {a b : List Bool} (h : a.length = b.length) (ha : wonM a = true) (hb : wonM b = true) : bothM a b = true := by
  rw [won_of] at ha hb
  cases e : bothM a b with
  | true => rfl
  | false => have := both_no h e; omega
theorem both_yes {a b : List Bool} {k : Nat} (h1 : k < a.length) (h2 : k < b.length) (ha : a.getD k false = true) (hb : b.getD k false = true) : bothM a b = true := by
  unfold bothM
  rw [List.any_eq_true]
  rw [List.getD_eq_getElem?_getD, List.getElem?_eq_getElem h1] at ha
  rw [List.getD_eq_getElem?_getD, List.getElem?_eq_getElem h2] at hb
  simp at ha hb
  have hz : k < (a.zip b).length := by rw [List.length_zip]; omega
  refine ⟨(a.zip b)[k], List.getElem_mem hz, ?_⟩
  rw [List.getElem_zip, ha, hb]
  rfl
theorem both_none {a b : List Bool} (h : ∀ k, k < a.length → k < b.length → a.getD k false = true → b.getD k false = true → False) : bothM a b = false := by
  unfold bothM
  rw [List.any_eq_false]
  intro p hp q
  obtain ⟨k, hk, e⟩ := List.getElem_of_mem hp
  rw [List.length_zip] at hk
  rw [List.getElem_zip] at e
  subst e
  simp only [Bool.and_eq_true] at q
  refine h k (by omega) (by omega) ?_ ?_
  · rw [List.getD_eq_getElem?_getD, List.getElem?_eq_getElem (by omega)]; exact q.1
  · rw [List.getD_eq_getElem?_getD, List.getElem?_eq_getElem (by omega)]; exact q.2
/-- How many have come there, or beyond. -/
def cge (x : Int) (l : List Int) : Nat := l.countP fun y => decide (x ≤ y)
def cgt (x : Int) (l : List Int) : Nat := l.countP fun y => decide (x < y)
/-- x is up to where a majority has come. -/
def Rch (l : List Int) (x : Int) : Prop := (l.length = 0 → x = 0) ∧ (0 < l.length → x ∈ l ∧ l.length < 2 * cge x l ∧ 2 * cgt x l ≤ l.length)
theorem cge_le_cgt {x y : Int} (h : x < y) (l : List Int) : cge y l ≤ cgt x l := by
  unfold cge cgt
  refine List.countP_mono_left fun z _ q => ?_
  simp at q ⊢
  omega
theorem Rch.one {l : List Int} {x y : Int} (h : Rch l x) (h2 : Rch l y) : x = y := by
  by_cases h0 : l.length = 0
  · rw [h.1 h0, h2.1 h0]
  · obtain ⟨_, q1, q2⟩ := h.2 (by omega)
    obtain ⟨_, r1, r2⟩ := h2.2 (by omega)
    by_cases e : x < y
    · have := cge_le_cgt e l; omega
    · by_cases e2 : y < x
      · have := cge_le_cgt e2 l; omega
      · omega
theorem cge_set : ∀ (l : List Int) (k : Nat) (v x : Int), l.getD k 0 ≤ v → cge x l ≤ cge x (l.set k v)
  | [], k, v, x, _ => by simp
  | y :: l, 0, v, x, h => by
    have h' : y ≤ v := by simpa using h
    unfold cge
    rw [List.set_cons_zero, List.countP_cons, List.countP_cons]
    by_cases q : x ≤ y
    · rw [decide_eq_true q, decide_eq_true (show x ≤ v by omega)]
      omega
    · rw [decide_eq_false q]
      simp
  | y :: l, k + 1, v, x, h => by
    have := cge_set l k v x (by simpa using h)
    unfold cge at *
    rw [List.set_cons_succ, List.countP_cons, List.countP_cons]
    omega
theorem Rch.grow {l : List Int} {k : Nat} {v x y : Int} (hv : l.getD k 0 ≤ v) (h : Rch l x) (h2 : Rch (l.set k v) y) (h0 : 0 < l.length) : x ≤ y := by
  obtain ⟨_, q1, q2⟩ := h.2 h0
  obtain ⟨_, r1, r2⟩ := h2.2 (by rw [List.length_set]; exact h0)
  rw [List.length_set] at r1 r2
  by_cases e : y < x
  · have a := cge_le_cgt e (l.set k v)
    have b := cge_set l k v x hv
    omega
  · omega
/-- Sorted. -/
def sortM (l : List Int) : List Int := l.mergeSort fun x y => decide (x ≤ y)
theorem sortM_perm (l : List Int) : (sortM l).Perm l := List.mergeSort_perm l _
theorem sortM_length (l : List Int) : (sortM l).length = l.length := (sortM_perm l).length_eq
theorem sortM_sorted (l : List Int) : (sortM l).Pairwise (fun x y => x ≤ y) := by
  have := List.pairwise_mergeSort (le := fun x y : Int => decide (x ≤ y)) (fun a b c h1 h2 => by simp at *; omega) (fun a b => by simp; omega) l
  exact this.imp fun h => by simpa using h
theorem sorted_ge {s : List Int} (hs : s.Pairwise (fun x y => x ≤ y)) {i : Nat} (hi : i < s.length) : s.length - i ≤ cge s[i] s := by
  have e : cge s[i] (s.drop i) = (s.drop i).length := by
    unfold cge
    rw [List.countP_eq_length]
    intro y hy
    obtain ⟨j, hj, rfl⟩ := List.getElem_of_mem hy
    rw [List.getElem_drop]
    rw [List.length_drop] at hj
    have := List.pairwise_iff_getElem.1 hs
    by_cases e : j = 0
    · subst e; simp
    · simpa using this i (i + j) hi (by omega) (by omega)
  have h2 : cge s[i] s = cge s[i] (s.take i) + cge s[i] (s.drop i) := by
    unfold cge
    rw [← List.countP_append, List.take_append_drop]
  rw [List.length_drop] at e
  omega
theorem sorted_gt {s : List Int} (hs : s.Pairwise (fun x y => x ≤ y)) {i : Nat} (hi : i < s.length) : cgt s[i] s + i + 1 ≤ s.length := by
  have e : cgt s[i] (s.take (i + 1)) = 0 := by
    unfold cgt
    rw [List.countP_eq_zero]
    intro y hy
    obtain ⟨j, hj, rfl⟩ := List.getElem_of_mem hy
    rw [List.getElem_take]
    rw [List.length_take] at hj
    have := List.pairwise_iff_getElem.1 hs
    by_cases e : j = i
    · subst e; simp
    · simpa using this j i (by omega) hi (by omega)
  have h2 : cgt s[i] s = cgt s[i] (s.take (i + 1)) + cgt s[i] (s.drop (i + 1)) := by
    unfold cgt
    rw [← List.countP_append, List.take_append_drop]
  have h3 : cgt s[i] (s.drop (i + 1)) ≤ (s.drop (i + 1)).length := List.countP_le_length
  rw [List.length_drop] at h3
  omega
theorem Rch.sorted {l : List Int} {i : Nat} (h0 : 0 < l.length) (hi : i + (l.length / 2 + 1) = l.length) : Rch l ((sortM l).getD i 0) := by
  have hl := sortM_length l
  have hi2 : i < (sortM l).length := by omega
  rw [List.getD_eq_getElem?_getD, List.getElem?_eq_getElem hi2, Option.getD_some]
  have a := sorted_ge (sortM_sorted l) hi2
  have b := sorted_gt (sortM_sorted l) hi2
  have ca : cge (sortM l)[i] (sortM l) = cge (sortM l)[i] l := (sortM_perm l).countP_eq _
  have cb : cgt (sortM l)[i] (sortM l) = cgt (sortM l)[i] l := (sortM_perm l).countP_eq _
  refine ⟨fun q => by omega, fun _ => ⟨(sortM_perm l).mem_iff.1 (List.getElem_mem hi2), by omega, by omega⟩⟩
theorem rch_none {l : List Int} (h : l.length = 0) : Rch l 0 := ⟨fun _ => rfl, fun q => by omega⟩
theorem rch_529 : Rch [5, 2, 9] 5 := ⟨fun q => (by cases q), fun _ => ⟨by decide, by decide, by decide⟩⟩
/-- What the document's search has found among the first ones. -/
def Fnd (l : List Int) (i : Nat) (best : Int) (found : Bool) : Prop :=
  (found = false → best = 0 ∧ ∀ j, j < i → ¬ l.length < 2 * cge (l.getD j 0) l) ∧
  (found = true → (∃ j, j < l.length ∧ best = l.getD j 0) ∧ l.length < 2 * cge best l ∧ ∀ j, j < i → l.length < 2 * cge (l.getD j 0) l → l.getD j 0 ≤ best)
theorem fnd_start (l : List Int) : Fnd l 0 0 false := ⟨fun _ => ⟨rfl, fun j hj => by omega⟩, fun q => by cases q⟩
theorem Fnd.take {l : List Int} {i : Nat} {best : Int} {found : Bool} (h : Fnd l i best found) (hi : i < l.length) (hc : l.length < 2 * cge (l.getD i 0) l) (h2 : found = false ∨ best < l.getD i 0) : Fnd l (i + 1) (l.getD i 0) true :=
  ⟨fun q => (by cases q), fun _ => ⟨⟨i, hi, rfl⟩, hc, fun j hj hc2 => by
    by_cases e : j = i
    · subst e; omega
    · cases found with
      | false => exact absurd hc2 ((h.1 rfl).2 j (by omega))
      | true =>
        have := (h.2 rfl).2.2 j (by omega) hc2
        rcases h2 with h2 | h2
        · cases h2
        · omega⟩⟩
theorem Fnd.pass {l : List Int} {i : Nat} {best : Int} {found : Bool} (h : Fnd l i best found) (h2 : l.length < 2 * cge (l.getD i 0) l → found = true ∧ l.getD i 0 ≤ best) : Fnd l (i + 1) best found := by
  refine ⟨fun q => ⟨(h.1 q).1, fun j hj hc => ?_⟩, fun q => ⟨(h.2 q).1, (h.2 q).2.1, fun j hj hc => ?_⟩⟩
  · by_cases e : j = i
    · subst e
      rw [(h2 hc).1] at q
      cases q
    · exact (h.1 q).2 j (by omega) hc
  · by_cases e : j = i
    · subst e
      exact (h2 hc).2
    · exact (h.2 q).2.2 j (by omega) hc
theorem Fnd.done {l : List Int} {i : Nat} {best x : Int} {found : Bool} (h : Fnd l i best found) (hi : l.length ≤ i) (hx : Rch l x) : best = x := by
  by_cases h0 : l.length = 0
  · cases found with
    | false => rw [(h.1 rfl).1, hx.1 h0]
    | true =>
      obtain ⟨⟨j, hj, _⟩, _⟩ := h.2 rfl
      omega
  · obtain ⟨hm, q1, q2⟩ := hx.2 (by omega)
    obtain ⟨j, hj, e⟩ := List.getElem_of_mem hm
    have e2 : l.getD j 0 = x := by rw [List.getD_eq_getElem?_getD, List.getElem?_eq_getElem hj]; exact e
    cases found with
    | false => exact absurd (by rw [e2]; exact q1) ((h.1 rfl).2 j (by omega))
    | true =>
      obtain ⟨⟨j2, hj2, e3⟩, r1, r2⟩ := h.2 rfl
      have a := r2 j (by omega) (by rw [e2]; exact q1)
      rw [e2] at a
      by_cases e4 : x < best
      · have := cge_le_cgt e4 l; omega
      · omega
theorem cge_yes {l : List Int} {x : Int} {k : Nat} (hk : k < l.length) (h : x ≤ l.getD k 0) : cge x (l.take (k + 1)) = cge x (l.take k) + 1 := by
  rw [List.getD_eq_getElem?_getD, List.getElem?_eq_getElem hk] at h
  unfold cge
  rw [List.take_succ_eq_append_getElem hk, List.countP_append]
  simp at h
  simp [h]
theorem cge_no {l : List Int} {x : Int} {k : Nat} (hk : k < l.length) (h : ¬ x ≤ l.getD k 0) : cge x (l.take (k + 1)) = cge x (l.take k) := by
  rw [List.getD_eq_getElem?_getD, List.getElem?_eq_getElem hk] at h
  unfold cge
  rw [List.take_succ_eq_append_getElem hk, List.countP_append]
  have h' : ¬ x ≤ l[k] := by simpa using h
  simp [List.countP_cons]
  omega
theorem cgt_yes {l : List Int} {x : Int} {k : Nat} (hk : k < l.length) (h : x < l.getD k 0) : cgt x (l.take (k + 1)) = cgt x (l.take k) + 1 := by
  rw [List.getD_eq_getElem?_getD, List.getElem?_eq_getElem hk] at h
  unfold cgt
  rw [List.take_succ_eq_append_getElem hk, List.countP_append]
  simp at h
  simp [h]
theorem cgt_no {l : List Int} {x : Int} {k : Nat} (hk : k < l.length) (h : ¬ x < l.getD k 0) : cgt x (l.take (k + 1)) = cgt x (l.take k) := by
  rw [List.getD_eq_getElem?_getD, List.getElem?_eq_getElem hk] at h
  unfold cgt
  rw [List.take_succ_eq_append_getElem hk, List.countP_append]
  have h' : ¬ x < l[k] := by simpa using h
  simp [List.countP_cons]
  omega
theorem cge_le (x : Int) (l : List Int) (k : Nat) : cge x (l.take k) ≤ k := by
  have : cge x (l.take k) ≤ (l.take k).length := List.countP_le_length
  rw [List.length_take] at this
  omega
theorem cgt_le (x : Int) (l : List Int) (k : Nat) : cgt x (l.take k) ≤ k := by
  have : cgt x (l.take k) ≤ (l.take k).length := List.countP_le_length
  rw [List.length_take] at this
  omega
end Go.Proofs.Ytcaddedkodjgcaa
