/-
  Of several the last one says what a variable has: mathematics.
-/
import Derived.Test.YtekhfepfaegpaaaChkW
namespace Go.Proofs.Ytekhfepfaegpaaa
open Go.RowKit Pack
set_option linter.unusedVariables false

/-- What a name has. -/
def look : VL → ByteArray → Option Int
  | [], _ => none
  | (m, y) :: r, n => if m = n then some y else look r n
theorem look_none : ∀ {l : VL} {n : ByteArray}, (∀ m ∈ nmsOf l, m ≠ n) → look l n = none
  | [], n, _ => rfl
  | (m, y) :: r, n, h => by
    unfold look
    rw [if_neg (h m (by simp [nmsOf]))]
    exact look_none fun k hk => h k (by simp [nmsOf] at hk ⊢; exact .inr hk)
theorem look_mem : ∀ {l : VL} {n : ByteArray} {x : Int}, look l n = some x → (n, x) ∈ l
  | [], n, x, h => by cases h
  | (m, y) :: r, n, x, h => by
    unfold look at h
    split at h
    · rename_i e
      simp only [Option.some.injEq] at h
      rw [e, h]; simp
    · exact List.mem_cons_of_mem _ (look_mem h)
theorem srt_cons {m : ByteArray} {y : Int} {r : VL} (h : Srt (nmsOf ((m, y) :: r))) : (∀ k ∈ nmsOf r, bl m k = true) ∧ Srt (nmsOf r) := List.pairwise_cons.1 (show (m :: nmsOf r).Pairwise _ from h)
theorem look_srt : ∀ {l : VL} (n : ByteArray), Srt (nmsOf l) → look l n = if fnd (nmsOf l) n = true then some (getV l n) else none
  | [], n, _ => by simp [look, fnd, nmsOf, pos]
  | (m, y) :: r, n, h => by
    obtain ⟨h1, h2⟩ := srt_cons h
    have ih := look_srt n h2
    unfold look
    by_cases hb : bl m n = true
    · rw [if_neg (bl_ne hb), ih]
      have ep : pos (nmsOf ((m, y) :: r)) n = pos (nmsOf r) n + 1 := by simp [nmsOf, pos, hb]
      have ef : fnd (nmsOf ((m, y) :: r)) n = fnd (nmsOf r) n := by
        unfold fnd; rw [ep]; simp [nmsOf]
      have eg : fnd (nmsOf r) n = true → getV ((m, y) :: r) n = getV r n := fun hf => by
        unfold getV; rw [ef, if_pos hf, if_pos hf, ep]; simp [valsOf]
      rw [ef]
      by_cases hf : fnd (nmsOf r) n = true
      · rw [if_pos hf, if_pos hf, eg hf]
      · rw [if_neg hf, if_neg hf]
    · have ep : pos (nmsOf ((m, y) :: r)) n = 0 := by simp [nmsOf, pos, hb]
      have ef : fnd (nmsOf ((m, y) :: r)) n = decide (m = n) := by
        unfold fnd; rw [ep]; simp [nmsOf]
      rw [ef]
      by_cases e : m = n
      · rw [if_pos e, if_pos (by simpa using e)]
        have : getV ((m, y) :: r) n = y := by
          unfold getV; rw [ef, if_pos (by simpa using e), ep]; simp [valsOf]
        rw [this]
      · rw [if_neg e, if_neg (by simpa using e)]
        have hn : bl n m = true := by
          cases hnm : bl n m with
          | true => rfl
          | false => exact absurd (bl_tot (by simpa using hb) hnm) e
        exact look_none fun k hk => fun e2 => by
          subst e2
          have := bl_tr hn (h1 _ hk)
          rw [bl_irr] at this; cases this
theorem look_put : ∀ (l : VL) (n : ByteArray) (x : Int) (k : ByteArray), look (putM l n x) k = if n = k then some x else look l k
  | [], n, x, k => by simp [putM, look]
  | (m, y) :: r, n, x, k => by
    unfold putM
    split
    · rename_i hb
      unfold look
      rw [look_put r n x k]
      by_cases e : n = k
      · subst e; rw [if_neg (bl_ne hb), if_pos rfl, if_pos rfl]
      · rw [if_neg e, if_neg e]
    · split
      · rename_i e
        subst e
        unfold look
        split <;> rfl
      · unfold look
        rfl
theorem look_ext : ∀ {l l' : VL}, Srt (nmsOf l) → Srt (nmsOf l') → (∀ n, look l n = look l' n) → l = l'
  | [], [], _, _, _ => rfl
  | [], (b, y) :: r', _, _, h => by have := h b; simp [look] at this
  | (a, x) :: r, [], _, _, h => by have := h a; simp [look] at this
  | (a, x) :: r, (b, y) :: r', h1, h2, h => by
    obtain ⟨a1, a2⟩ := srt_cons h1
    obtain ⟨b1, b2⟩ := srt_cons h2
    have key : ∀ {p q : ByteArray} {u v : Int} {s t : VL}, bl p q = true → (∀ k ∈ nmsOf t, bl q k = true) → look ((p, u) :: s) p = look ((q, v) :: t) p → False := fun {p q u v s t} hpq ht hh => by
      have e1 : look ((q, v) :: t) p = none := by
        unfold look
        rw [if_neg (fun e => bl_ne hpq e.symm)]
        exact look_none fun k hk e => by
          subst e
          have := bl_tr hpq (ht _ hk)
          rw [bl_irr] at this; cases this
      rw [e1] at hh
      simp [look] at hh
    have hab : a = b := by
      cases hab : bl a b with
      | true => exact (key hab b1 (h a)).elim
      | false =>
        cases hba : bl b a with
        | true => exact (key hba a1 (h b).symm).elim
        | false => exact bl_tot hab hba
    subst hab
    have hxy : x = y := by have := h a; simpa [look] using this
    subst hxy
    have ht : ∀ n, look r n = look r' n := fun n => by
      by_cases e : a = n
      · subst e
        rw [look_none (fun k hk e2 => by have := a1 k hk; rw [e2, bl_irr] at this; cases this), look_none (fun k hk e2 => by have := b1 k hk; rw [e2, bl_irr] at this; cases this)]
      · have := h n
        unfold look at this
        rwa [if_neg e, if_neg e] at this
    rw [look_ext a2 b2 ht]
theorem look_putAll : ∀ (m a : VL) (k : ByteArray), Srt (nmsOf m) → look (putAll a m) k = (look m k).or (look a k)
  | [], a, k, _ => by simp [putAll, look]
  | (n, x) :: m, a, k, h => by
    obtain ⟨h1, h2⟩ := srt_cons h
    have e : putAll a ((n, x) :: m) = putAll (putM a n x) m := rfl
    rw [e, look_putAll m _ k h2, look_put]
    show _ = (if n = k then some x else look m k).or (look a k)
    by_cases hk : n = k
    · subst hk
      rw [if_pos rfl, if_pos rfl, look_none fun q hq e => by have := h1 q hq; rw [e, bl_irr] at this; cases this]
      simp
    · rw [if_neg hk, if_neg hk]
theorem putAll_self {A : VL} (h : Srt (nmsOf A)) : putAll [] A = A := by
  refine look_ext (putAll_srt List.Pairwise.nil) h fun n => ?_
  rw [look_putAll A [] n h]
  simp [look]
theorem putAll_twice {B W : VL} (hB : Srt (nmsOf B)) (hW : Srt (nmsOf W)) : putAll (putAll B W) W = putAll B W := by
  refine look_ext (putAll_srt (putAll_srt hB)) (putAll_srt hB) fun n => ?_
  rw [look_putAll W _ n hW, look_putAll W _ n hW]
  cases look W n <;> simp
theorem putAll_mem : ∀ {m a : VL} {p : ByteArray × Int}, p ∈ putAll a m → p ∈ a ∨ p ∈ m
  | [], a, p, h => .inl h
  | q :: m, a, p, h => by
    rcases putAll_mem (m := m) (a := putM a q.1 q.2) h with h | h
    · rcases putM_mem h with h | h
      · exact .inr (by rw [h]; simp)
      · exact .inl h
    · exact .inr (by simp [h])
theorem srt_filter {A : VL} (f : ByteArray × Int → Bool) (h : Srt (nmsOf A)) : Srt (nmsOf (A.filter f)) := by
  unfold Srt nmsOf at *
  rw [List.pairwise_map] at *
  exact h.filter _
theorem look_filter : ∀ {A : VL} (f : ByteArray × Int → Bool) (k : ByteArray), Srt (nmsOf A) → look (A.filter f) k = match look A k with | some x => if f (k, x) = true then some x else none | none => none
  | [], f, k, _ => rfl
  | (n, x) :: A, f, k, h => by
    obtain ⟨h1, h2⟩ := srt_cons h
    have ih := look_filter f k h2
    by_cases hk : n = k
    · subst hk
      have hn : look A n = none := look_none fun q hq e => by have := h1 q hq; rw [e, bl_irr] at this; cases this
      have e1 : look ((n, x) :: A) n = some x := by unfold look; rw [if_pos rfl]
      rw [e1]
      by_cases hf : f (n, x) = true
      · rw [List.filter_cons_of_pos hf]
        show look ((n, x) :: A.filter f) n = if f (n, x) = true then some x else none
        unfold look; rw [if_pos rfl, if_pos hf]
      · rw [List.filter_cons_of_neg hf, ih, hn]
        show none = if f (n, x) = true then some x else none
        rw [if_neg hf]
    · have e1 : look ((n, x) :: A) k = look A k := by show (if n = k then some x else look A k) = look A k; rw [if_neg hk]
      rw [e1, ← ih]
      by_cases hf : f (n, x) = true
      · rw [List.filter_cons_of_pos hf]
        show (if n = k then some x else look (A.filter f) k) = _
        rw [if_neg hk]
      · rw [List.filter_cons_of_neg hf]
theorem chk_list {A : VL} (h1 : Srt (nmsOf A)) (h2 : ∀ p ∈ A, isVar p.1 = true) (h3 : A.length ≤ 64) : chk (nmsOf A) (valsOf A) = 0 := by
  refine chk_of (by rw [nmsOf_len, valsOf_len]) (by rw [nmsOf_len]; exact h3) (rise_of (fun n hn => ?_) h1)
  obtain ⟨p, hp, rfl⟩ := List.mem_map.1 hn
  exact ⟨h2 p hp, emp_bl (isVar_pos (h2 p hp)).1⟩
theorem zip_self (A : VL) : zipV (nmsOf A, valsOf A) = A := by
  unfold zipV nmsOf valsOf
  induction A with
  | nil => rfl
  | cons p r ih => simpa using ih
theorem zip_srt {v : VP} (h : chk v.1 v.2 = 0) : Srt (nmsOf (zipV v)) := by
  obtain ⟨h1, h2, h3⟩ := chk_ok h
  rw [nms_zip h1]
  exact (rise_all h3).2
theorem zip_var {v : VP} (h : chk v.1 v.2 = 0) : ∀ p ∈ zipV v, isVar p.1 = true := fun p hp => by
  obtain ⟨h1, h2, h3⟩ := chk_ok h
  exact ((rise_all h3).1 p.1 (by rw [← nms_zip h1]; exact List.mem_map.2 ⟨p, hp, rfl⟩)).1
/-- The whole law's mathematics. -/
theorem last_math {v w : VP} {A : VL} (h : ofM [v, w] = (0, A)) :
    chk v.1 v.2 = 0 ∧ chk w.1 w.2 = 0 ∧ chk (nmsOf A) (valsOf A) = 0 ∧ (∀ p ∈ A, isVar p.1 = true) ∧ A.length ≤ 64 ∧ ofM [(nmsOf A, valsOf A), w] = (0, A) ∧
    (∀ n, fnd (nmsOf A) n = (if fnd w.1 n = true then true else fnd v.1 n) ∧ getV A n = if fnd w.1 n = true then getV (zipV w) n else getV (zipV v) n) ∧
    ∃ D, diffM v (nmsOf A, valsOf A) = (0, D) ∧ (∀ p ∈ D, isVar p.1 = true) ∧ ofM [v, (nmsOf D, valsOf D)] = (0, A) := by
  have he : errs [v, w] = 0 := by
    unfold ofM at h
    by_cases he : errs [v, w] = 0
    · exact he
    · rw [if_pos he] at h
      simp only [Prod.mk.injEq] at h
      omega
  have hA : A = putAll (putAll [] (zipV v)) (zipV w) ∧ A.length ≤ 64 := by
    unfold ofM at h
    rw [if_neg (by omega)] at h
    split at h
    · simp only [Prod.mk.injEq] at h; omega
    · rename_i h64
      simp only [Prod.mk.injEq, true_and] at h
      rw [← h]
      exact ⟨rfl, by omega⟩
  obtain ⟨hAe, hAl⟩ := hA
  have hv : chk v.1 v.2 = 0 := errs_ok he v (by simp)
  have hw : chk w.1 w.2 = 0 := errs_ok he w (by simp)
  have sV := zip_srt hv
  have sW := zip_srt hw
  have sA : Srt (nmsOf A) := by rw [hAe]; exact putAll_srt (putAll_srt List.Pairwise.nil)
  have vA : ∀ p ∈ A, isVar p.1 = true := fun p hp => by
    rw [hAe] at hp
    rcases putAll_mem hp with hp | hp
    · rcases putAll_mem hp with hp | hp
      · cases hp
      · exact zip_var hv p hp
    · exact zip_var hw p hp
  have cA := chk_list sA vA hAl
  have lA : ∀ n, look A n = (look (zipV w) n).or (look (zipV v) n) := fun n => by
    rw [hAe, look_putAll _ _ n sW, putAll_self sV]
  have nV : nmsOf (zipV v) = v.1 := nms_zip (chk_ok hv).1
  have nW : nmsOf (zipV w) = w.1 := nms_zip (chk_ok hw).1
  have hlook : ∀ n, (if fnd (nmsOf A) n = true then some (getV A n) else none) = (if fnd w.1 n = true then some (getV (zipV w) n) else none).or (if fnd v.1 n = true then some (getV (zipV v) n) else none) := fun n => by
    have := lA n
    rw [look_srt n sA, look_srt n sW, look_srt n sV, nV, nW] at this
    exact this
  have g0 : ∀ {l : VL} {n : ByteArray}, fnd (nmsOf l) n = false → getV l n = 0 := fun {l n} hf => by unfold getV; rw [if_neg (by rw [hf]; simp)]
  refine ⟨hv, hw, cA, vA, hAl, ?_, fun n => ?_, ?_⟩
  · have e1 : errs [(nmsOf A, valsOf A), w] = 0 := errs_all fun x hx => by
      simp at hx
      rcases hx with rfl | rfl
      · exact cA
      · exact hw
    have e2 : allM [(nmsOf A, valsOf A), w] = A := by
      show putAll (putAll [] (zipV (nmsOf A, valsOf A))) (zipV w) = A
      rw [zip_self, putAll_self sA]
      conv => lhs; rw [hAe]
      rw [putAll_twice (putAll_srt (a := []) List.Pairwise.nil) sW, ← hAe]
    unfold ofM
    rw [if_neg (by omega), e2, if_neg (by omega)]
  · have hh := hlook n
    cases hfw : fnd w.1 n with
    | true =>
      rw [hfw] at hh
      cases hfa : fnd (nmsOf A) n with
      | true =>
        rw [hfa] at hh
        simp at hh
        exact ⟨rfl, by simpa using hh⟩
      | false => rw [hfa] at hh; simp at hh
    | false =>
      rw [hfw] at hh
      cases hfv : fnd v.1 n with
      | true =>
        rw [hfv] at hh
        cases hfa : fnd (nmsOf A) n with
        | true =>
          rw [hfa] at hh
          simp at hh
          exact ⟨rfl, by simpa using hh⟩
        | false => rw [hfa] at hh; simp at hh
      | false =>
        rw [hfv] at hh
        cases hfa : fnd (nmsOf A) n with
        | true => rw [hfa] at hh; simp at hh
        | false =>
          have hz := g0 (l := zipV v) (n := n) (by rw [nV]; exact hfv)
          exact ⟨rfl, by rw [g0 hfa, hz]; simp⟩
  · have all : ∀ i, i < v.1.length → fnd (nmsOf A) (v.1.getD i emp) = true := fun i hi => by
      have hf : fnd v.1 (v.1.getD i emp) = true := by
        have hl : look (zipV v) (v.1.getD i emp) ≠ none := fun e => by
          have hm : v.1.getD i emp ∈ nmsOf (zipV v) := by rw [nV]; exact getD_mem hi
          obtain ⟨p, hp, hpe⟩ := List.mem_map.1 hm
          have : ∀ {l : VL} {q : ByteArray × Int}, q ∈ l → look l q.1 ≠ none := fun {l q} hq => by
            induction l with
            | nil => simp at hq
            | cons c l ih =>
              obtain ⟨m, y⟩ := c
              unfold look
              split
              · simp
              · rcases List.mem_cons.1 hq with rfl | hq
                · rename_i hne; exact absurd rfl hne
                · exact ih hq
          exact this hp (by rw [hpe]; exact e)
        rw [look_srt _ sV, nV] at hl
        by_cases hf : fnd v.1 (v.1.getD i emp) = true
        · exact hf
        · rw [if_neg hf] at hl; exact absurd rfl hl
      have hh := hlook (v.1.getD i emp)
      rw [hf] at hh
      cases hfa : fnd (nmsOf A) (v.1.getD i emp) with
      | true => rfl
      | false =>
        rw [hfa] at hh
        cases hfw : fnd w.1 (v.1.getD i emp) <;> rw [hfw] at hh <;> simp at hh
    have sD : Srt (nmsOf (selV (zipV v) A)) := srt_filter _ sA
    refine ⟨selV (zipV v) A, ?_, fun p hp => vA p (List.mem_filter.1 hp).1, ?_⟩
    · unfold diffM
      rw [if_neg (by omega), if_neg (by rw [cA]; simp), if_pos all, zip_self, putAll_self sD]
    · have cD := chk_list sD (fun p hp => vA p (List.mem_filter.1 hp).1) (Nat.le_trans (List.length_filter_le _ _) hAl)
      have e1 : errs [v, (nmsOf (selV (zipV v) A), valsOf (selV (zipV v) A))] = 0 := errs_all fun x hx => by
        simp at hx
        rcases hx with rfl | rfl
        · exact hv
        · exact cD
      have e2 : allM [v, (nmsOf (selV (zipV v) A), valsOf (selV (zipV v) A))] = A := by
        show putAll (putAll [] (zipV v)) (zipV (nmsOf (selV (zipV v) A), valsOf (selV (zipV v) A))) = A
        rw [zip_self]
        refine look_ext (putAll_srt (putAll_srt List.Pairwise.nil)) sA fun n => ?_
        rw [look_putAll _ _ n sD, putAll_self sV]
        have hf := look_filter (other (zipV v)) n sA
        show (look (A.filter (other (zipV v))) n).or _ = _
        rw [hf]
        cases hla : look A n with
        | none =>
          have := lA n
          rw [hla] at this
          cases hw2 : look (zipV w) n with
          | some x => rw [hw2] at this; simp at this
          | none => rw [hw2] at this; simp at this; simp [← this]
        | some x =>
          by_cases ho : other (zipV v) (n, x) = true
          · simp [ho]
          · have ho2 : fnd (nmsOf (zipV v)) n = true ∧ getV (zipV v) n = x := by
              unfold other at ho
              simpa using ho
            have hlv : look (zipV v) n = some x := by rw [look_srt n sV, if_pos ho2.1, ho2.2]
            simp [ho, hlv]
      unfold ofM
      rw [if_neg (by omega), e2, if_neg (by omega)]
end Go.Proofs.Ytekhfepfaegpaaa
