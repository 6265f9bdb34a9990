/-
  What a condition does not ask for plays no part; a condition that asks for another variable: plain mathematics.
-/
import Derived.Test.YtfjphlejhcdbaaaEvF
import Derived.Test.YtfjphlejhcdbaaaWrkX
import Derived.Test.YtfjphlejhcdbaaaNmA
import Derived.Test.YtfjphlejhcdbaaaEvAB
namespace Go.Proofs.Ytfjphlejhcdbaaa
open Go.RowKit
set_option linter.unusedVariables false

theorem ev_agree {env env' : Env} : ∀ (d : Nat) (t : Tr), checkM d t = 0 → (∀ nm, Asked nm t → env nm = env' nm) → evM env d t = evM env' d t
  | 0, t, h, _ => by cases h
  | d + 1, t, h, ha => by
    have hs := shape h
    rcases hs.kids with ⟨h4, hk⟩ | ⟨h5, x, hk, hx⟩ | ⟨h7, x, y, hk, hx, hy⟩
    · rw [ev_leaf hk, ev_leaf hk]
      unfold leafV
      by_cases e1 : t.kind = 1
      · rw [if_pos e1, if_pos e1]
      · rw [if_neg e1, if_neg e1]
        by_cases e2 : t.kind = 2
        · rw [if_pos e2, if_pos e2, ha t.name (asked_iff.2 (.inl ⟨e2, rfl⟩))]
        · rw [if_neg e2, if_neg e2]
    · rw [ev_one hk, ev_one hk, ev_agree d x hx fun nm hn => ha nm (asked_iff.2 (.inr ⟨x, by rw [hk]; simp, hn⟩))]
    · rw [ev_two hk, ev_two hk, ev_agree d x hx fun nm hn => ha nm (asked_iff.2 (.inr ⟨x, by rw [hk]; simp, hn⟩)), ev_agree d y hy fun nm hn => ha nm (asked_iff.2 (.inr ⟨y, by rw [hk]; simp, hn⟩))]
theorem twoA_nine (k a b : Int) : (twoA k a b).2 ≠ 9 := by
  rcases twoA_err k a b with h | h | h <;> rw [h] <;> decide
theorem vars_one {d : Nat} {t x : Tr} (hk : t.kids = [x]) (h : t.kind ≠ 2) : varsM (d + 1) t = varsM d x := by
  conv => lhs; unfold varsM
  rw [if_neg h, hk]
  simp
theorem vars_two {d : Nat} {t x y : Tr} (hk : t.kids = [x, y]) (h : t.kind ≠ 2) : varsM (d + 1) t = varsM d x ++ varsM d y := by
  conv => lhs; unfold varsM
  rw [if_neg h, hk]
  simp
theorem ev_none {env : Env} : ∀ (d : Nat) (t : Tr), checkM d t = 0 → (∀ nm ∈ varsM d t, env nm ≠ none) → (evM env d t).e ≠ 9
  | 0, t, h, _ => by cases h
  | d + 1, t, h, ha => by
    have hs := shape h
    rcases hs.kids with ⟨h4, hk⟩ | ⟨h5, x, hk, hx⟩ | ⟨h7, x, y, hk, hx, hy⟩
    · rw [ev_leaf hk]
      unfold leafV
      by_cases e1 : t.kind = 1
      · rw [if_pos e1]; simp
      · rw [if_neg e1]
        by_cases e2 : t.kind = 2
        · rw [if_pos e2]
          have := ha t.name (by unfold varsM; rw [if_pos e2]; simp)
          cases hv : env t.name with
          | none => exact absurd hv this
          | some n => simp [varV]
        · rw [if_neg e2]; simp [truV]
    · rw [ev_one hk]
      have ih := ev_none d x hx (by rw [vars_one hk (by omega)] at ha; exact ha)
      unfold oneV
      split
      · exact ih
      · split
        · simp [truV]
        · exact twoA_nine _ _ _
    · rw [ev_two hk]
      rw [vars_two hk (by omega)] at ha
      have ihx := ev_none d x hx (fun nm hn => ha nm (List.mem_append_left _ hn))
      have ihy := ev_none d y hy (fun nm hn => ha nm (List.mem_append_right _ hn))
      unfold twoV
      split
      · exact ihx
      · split
        · exact ihx
        · split
          · exact ihy
          · split
            · exact ihy
            · split
              · simp [truV]
              · split
                · simp [truV]
                · exact twoA_nine _ _ _
theorem check_nine (d : Nat) (t : Tr) : checkM d t = 0 ∨ checkM d t = 1 ∨ checkM d t = 6 := by
  induction d generalizing t with
  | zero => exact .inr (.inr rfl)
  | succ d ih =>
    unfold checkM
    split
    · exact .inr (.inl rfl)
    · have : ∀ l : List Tr, firstBad (checkM d) l = 0 ∨ firstBad (checkM d) l = 1 ∨ firstBad (checkM d) l = 6 := by
        intro l
        induction l with
        | nil => exact .inl rfl
        | cons k r ihr =>
          unfold firstBad
          split
          · exact ih k
          · exact ihr
      exact this _
theorem truth_nine (t : Tr) : (truthM t).2 = 0 ∨ (truthM t).2 = 1 ∨ (truthM t).2 = 6 ∨ (truthM t).2 = 7 := by
  unfold truthM
  split
  · rcases check_nine 16 t with h | h | h
    · exact .inl h
    · exact .inr (.inl h)
    · exact .inr (.inr (.inl h))
  · split
    · exact .inl rfl
    · exact .inr (.inr (.inr rfl))
/-- What a condition does not ask for plays no part. -/
theorem of_agree {env env' : Env} {ck : Nat} {t : Tr} (ha : ∀ nm, Asked nm t → env nm = env' nm) : ofM env ck t = ofM env' ck t := by
  by_cases h0 : (truthM t).2 = 0
  · have e : ∀ E : Env, ofM E ck t = if ck ≠ 0 then errV ck else evM E 16 t := fun E => by unfold ofM; rw [if_neg (by omega)]
    rw [e, e, ev_agree 16 t (truth_typed h0).1 ha]
  · have e : ∀ E : Env, ofM E ck t = errV (truthM t).2 := fun E => by unfold ofM; rw [if_pos h0]
    rw [e, e]
/-- All that it asks for may be none, and nothing else. -/
theorem of_none {env : Env} {t : Tr} (ha : ∀ nm ∈ namesM t, env nm ≠ none) : (ofM env 0 t).e ≠ 9 := by
  unfold ofM
  by_cases h0 : (truthM t).2 = 0
  · rw [if_neg (by omega), if_neg (by decide)]
    have hc := (truth_typed h0).1
    refine ev_none 16 t hc fun nm hn => ha nm ?_
    unfold namesM
    rw [if_neg (by omega)]
    exact compact_all ((List.mergeSort_perm _ _).mem_iff.2 hn)
  · rw [if_pos h0]
    rcases truth_nine t with h | h | h | h
    · exact absurd h h0
    all_goals (rw [h]; decide)
theorem ren_kids {fr to : Bs} {d : Nat} {t : Tr} (hk : t.kids ≠ []) : renM fr to (d + 1) t = ⟨t.kind, 0, [], t.kids.map (renM fr to d)⟩ := by
  conv => lhs; unfold renM
  rw [if_neg hk]
theorem ren_leaf {fr to : Bs} {d : Nat} {t : Tr} (hk : t.kids = []) : renM fr to (d + 1) t = if t.kind = 2 ∧ t.name = fr then ⟨t.kind, t.n, to, []⟩ else ⟨t.kind, t.n, t.name, []⟩ := by
  conv => lhs; unfold renM
  rw [if_pos hk]
theorem ren_kind {fr to : Bs} {d : Nat} {t : Tr} : (renM fr to d t).kind = t.kind := by
  cases d with
  | zero => rfl
  | succ d =>
    by_cases hk : t.kids = []
    · rw [ren_leaf hk]; split <;> rfl
    · rw [ren_kids hk]
/-- What a renamed tree is, beside the tree. -/
structure Ren (env env' : Env) (d : Nat) (t f : Tr) : Prop where
  check : checkM d f = 0
  ty : tyM d f = tyM d t
  same : evM env' d f = evM env d t
theorem ren_is {env env' : Env} {fr to : Bs} (hto : fitsM ⟨2, 0, to, []⟩ = true) : ∀ (d : Nat) (t : Tr), checkM d t = 0 → (∀ nm, Asked nm t → env' (if nm = fr then to else nm) = env nm) → Ren env env' d t (renM fr to d t)
  | 0, t, h, _ => by cases h
  | d + 1, t, h, ha => by
    have hs := shape h
    rcases hs.kids with ⟨h4, hk⟩ | ⟨h5, x, hk, hx⟩ | ⟨h7, x, y, hk, hx, hy⟩
    · rw [ren_leaf hk]
      obtain ⟨k, n, nm, ks⟩ := t
      simp only at hk h4 ⊢
      subst hk
      by_cases hc : k = 2 ∧ nm = fr
      · rw [if_pos hc]
        obtain ⟨rfl, rfl⟩ := hc
        have hn : n = 0 := hs.num0 (show (2 : Int) ≠ 1 by decide)
        subst hn
        refine ⟨check_of hto (fun x hx => by cases hx), rfl, ?_⟩
        rw [ev_leaf rfl, ev_leaf rfl]
        have := ha nm (asked_iff.2 (.inl ⟨rfl, rfl⟩))
        rw [if_pos rfl] at this
        show varV (env' to) = varV (env nm)
        rw [this]
      · rw [if_neg hc]
        refine ⟨h, rfl, ?_⟩
        rw [ev_leaf rfl, ev_leaf rfl]
        unfold leafV
        simp only
        by_cases e1 : k = 1
        · rw [if_pos e1, if_pos e1]
        · rw [if_neg e1, if_neg e1]
          by_cases e2 : k = 2
          · have := ha nm (asked_iff.2 (.inl ⟨e2, rfl⟩))
            rw [if_neg (fun e => hc ⟨e2, e⟩)] at this
            rw [if_pos e2, if_pos e2, this]
          · rw [if_neg e2, if_neg e2]
    · have R := ren_is hto d x hx fun nm hn => ha nm (asked_iff.2 (.inr ⟨x, by rw [hk]; simp, hn⟩))
      rw [ren_kids (by rw [hk]; simp)]
      obtain ⟨k, n, nm, ks⟩ := t
      simp only at hk h5 ⊢
      subst hk
      simp only [List.map_cons, List.map_nil]
      refine ⟨check_of (fits_one h5) fun z hz => ?_, ?_, ?_⟩
      · simp only [List.mem_singleton] at hz; rw [hz]; exact R.check
      · conv => lhs; unfold tyM
        conv => rhs; unfold tyM
        simp only [List.all_cons, List.all_nil, Bool.and_true]
        rw [R.ty]
        unfold fitK
        simp only [List.getD_cons_zero]
        rw [ren_kind]
      · rw [ev_one (x := renM fr to d x) rfl, ev_one (x := x) rfl, R.same]
    · have R := ren_is hto d x hx fun nm hn => ha nm (asked_iff.2 (.inr ⟨x, by rw [hk]; simp, hn⟩))
      have Q := ren_is hto d y hy fun nm hn => ha nm (asked_iff.2 (.inr ⟨y, by rw [hk]; simp, hn⟩))
      rw [ren_kids (by rw [hk]; simp)]
      have h14 := hs.hi
      obtain ⟨k, n, nm, ks⟩ := t
      simp only at hk h7 h14 ⊢
      subst hk
      simp only [List.map_cons, List.map_nil]
      refine ⟨check_of (fits_two h7 h14) fun z hz => ?_, ?_, ?_⟩
      · simp only [List.mem_cons, List.not_mem_nil, or_false] at hz
        rcases hz with rfl | rfl
        · exact R.check
        · exact Q.check
      · conv => lhs; unfold tyM
        conv => rhs; unfold tyM
        simp only [List.all_cons, List.all_nil, Bool.and_true]
        rw [R.ty, Q.ty]
        unfold fitK
        simp only [List.getD_cons_zero]
        rw [ren_kind, ren_kind]
      · rw [ev_two (x := renM fr to d x) (y := renM fr to d y) rfl, ev_two (x := x) (y := y) rfl, R.same, Q.same]
/-- A condition that asks for another variable, which has the same number, comes to the same. -/
theorem of_ren {env env' : Env} {fr to : Bs} {t : Tr} (h0 : (renameM fr to t).2 = 0) (ha : ∀ nm, Asked nm t → env' (if nm = fr then to else nm) = env nm) : ofM env' 0 (renameM fr to t).1 = ofM env 0 t := by
  unfold renameM at h0 ⊢
  by_cases h1 : checkM 16 t = 0
  · rw [if_neg (by omega)] at h0 ⊢
    by_cases h2 : checkM 16 ⟨2, 0, to, []⟩ = 0
    · rw [if_neg (by omega)]
      have R := ren_is (check_fits h2).1 16 t h1 ha
      have htm : (truthM (renM fr to 16 t)).2 = (truthM t).2 := by
        unfold truthM
        rw [R.check, h1, R.ty, ren_kind]
      unfold ofM
      simp only
      rw [htm, R.same]
    · rw [if_pos h2] at h0
      exact absurd h0 h2
  · rw [if_pos h1] at h0
    exact absurd h0 h1
/-- Variables with one more. -/
theorem one_more {v : V.VP} {nm : ByteArray} {n : Int} {A : V.VL} (h : V.ofM [v, ([nm], [n])] = (0, A)) (k : ByteArray) : V.look A k = if nm = k then some n else V.look (V.zipV v) k := by
  unfold V.ofM at h
  split at h
  · rename_i he
    injection h with h1 h2
    exact absurd h1 he
  · rename_i he
    split at h
    · injection h with h1 h2
      exact absurd h1 (by decide)
    · injection h with h1 h2
      rw [← h2]
      have hck := V.errs_ok (Decidable.not_not.1 he)
      have hv : V.chk v.1 v.2 = 0 := hck v (by simp)
      have e1 : V.allM [v, ([nm], [n])] = V.putAll (V.putAll [] (V.zipV v)) [(nm, n)] := rfl
      rw [e1, V.putAll_self (V.zip_srt hv), V.look_putAll [(nm, n)] _ _ (show V.Srt [nm] from List.pairwise_singleton _ _)]
      unfold V.look
      by_cases hk : nm = k
      · rw [if_pos hk]; simp [hk]
      · rw [if_neg hk]; simp [hk, V.look]
end Go.Proofs.Ytfjphlejhcdbaaa
