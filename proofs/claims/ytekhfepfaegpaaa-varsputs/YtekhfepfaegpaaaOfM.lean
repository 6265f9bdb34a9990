/-
  Variables put together: mathematics, and a list of variables in memory.
-/
import Derived.Test.YtekhfepfaegpaaaGive
namespace Go.Proofs.Ytekhfepfaegpaaa
open Go.RowKit Pack
set_option linter.unusedVariables false

/-- Variables as they come in. -/
abbrev VP := List ByteArray × List Int
def errs : List VP → Nat
  | [] => 0
  | v :: r => if chk v.1 v.2 ≠ 0 then chk v.1 v.2 else errs r
def zipV (v : VP) : VL := v.1.zip v.2
def putAll (a m : VL) : VL := m.foldl (fun a p => putM a p.1 p.2) a
def allM (xs : List VP) : VL := xs.foldl (fun a v => putAll a (zipV v)) []
/-- Of's answer. -/
def ofM (xs : List VP) : Nat × VL := if errs xs ≠ 0 then (errs xs, []) else if 64 < (allM xs).length then (6, []) else (0, allM xs)
theorem errs_drop {xs : List VP} {i : Nat} (hi : i < xs.length) : errs (xs.drop i) = if chk (xs.getD i ([], [])).1 (xs.getD i ([], [])).2 ≠ 0 then chk (xs.getD i ([], [])).1 (xs.getD i ([], [])).2 else errs (xs.drop (i + 1)) := by
  rw [List.drop_eq_getElem_cons hi, errs, List.getD_eq_getElem?_getD, List.getElem?_eq_getElem hi]; rfl
theorem errs_ok : ∀ {xs : List VP}, errs xs = 0 → ∀ v ∈ xs, chk v.1 v.2 = 0
  | [], _, v, hv => by simp at hv
  | x :: r, h, v, hv => by
    unfold errs at h
    by_cases hx : chk x.1 x.2 = 0
    · rw [if_neg (by omega)] at h
      rcases List.mem_cons.1 hv with rfl | hv
      · exact hx
      · exact errs_ok h v hv
    · rw [if_pos hx] at h; omega
theorem errs_all : ∀ {xs : List VP}, (∀ v ∈ xs, chk v.1 v.2 = 0) → errs xs = 0
  | [], _ => rfl
  | x :: r, h => by
    unfold errs
    rw [if_neg (by rw [h x (by simp)]; simp)]
    exact errs_all fun v hv => h v (by simp [hv])
theorem putAll_step {a m : VL} {k : Nat} (hk : k < m.length) : putAll a (m.take (k + 1)) = putM (putAll a (m.take k)) m[k].1 m[k].2 := by
  unfold putAll
  rw [List.take_succ_eq_append_getElem hk, List.foldl_append]; rfl
theorem allM_step {xs : List VP} {i : Nat} (hi : i < xs.length) : allM (xs.take (i + 1)) = putAll (allM (xs.take i)) (zipV xs[i]) := by
  unfold allM
  rw [List.take_succ_eq_append_getElem hi, List.foldl_append]; rfl
theorem putAll_srt : ∀ {m a : VL}, Srt (nmsOf a) → Srt (nmsOf (putAll a m))
  | [], a, h => h
  | p :: m, a, h => putAll_srt (m := m) (putM_srt h)
theorem allM_srt_from : ∀ {xs : List VP} {a : VL}, Srt (nmsOf a) → Srt (nmsOf (xs.foldl (fun a v => putAll a (zipV v)) a))
  | [], a, h => h
  | x :: xs, a, h => allM_srt_from (xs := xs) (putAll_srt h)
theorem allM_srt (xs : List VP) : Srt (nmsOf (allM xs)) := allM_srt_from (a := []) List.Pairwise.nil
theorem putAll_len : ∀ (m a : VL), a.length ≤ (putAll a m).length ∧ (putAll a m).length ≤ a.length + m.length
  | [], a => ⟨Nat.le_refl _, Nat.le_refl _⟩
  | p :: m, a => by
    have h1 := putM_len a p.1 p.2
    have h2 := putAll_len m (putM a p.1 p.2)
    have e : putAll a (p :: m) = putAll (putM a p.1 p.2) m := rfl
    rw [e]
    simp only [List.length_cons]
    omega
theorem allM_from_len : ∀ (xs : List VP) (a : VL), a.length ≤ (xs.foldl (fun a v => putAll a (zipV v)) a).length
  | [], a => Nat.le_refl _
  | x :: xs, a => Nat.le_trans (putAll_len (zipV x) a).1 (allM_from_len xs _)
theorem allM_len (xs : List VP) (i : Nat) : (allM (xs.take i)).length ≤ (allM xs).length := by
  have : allM xs = (xs.drop i).foldl (fun a v => putAll a (zipV v)) (allM (xs.take i)) := by
    unfold allM
    rw [← List.foldl_append, List.take_append_drop]
  rw [this]
  exact allM_from_len _ _
theorem zipV_len {v : VP} (h : v.1.length = v.2.length) : (zipV v).length = v.1.length := by unfold zipV; rw [List.length_zip]; omega
theorem zipV_at {v : VP} (h : v.1.length = v.2.length) {k : Nat} (hk : k < v.1.length) : (zipV v)[k]'(by rw [zipV_len h]; exact hk) = (v.1.getD k emp, v.2.getD k 0) := by
  unfold zipV
  rw [List.getElem_zip]
  simp [List.getD_eq_getElem?_getD, hk, show k < v.2.length by omega]

/-- A list of variables in memory. -/
def RdL (w : World) (v : Value) (xs : List VP) : Prop := ∃ b c, v = .slice (some ⟨b, 0, none⟩) xs.length c ∧ xs.length ≤ c ∧ c ≤ 1000000 ∧ b < w.heap.size ∧ ∀ i, i < xs.length → ∃ sn sv, w.cell? ⟨b, i * 2, none⟩ = some sn ∧ w.cell? ⟨b, i * 2 + 1, none⟩ = some sv ∧ Rd w sn (strsV (xs.getD i ([], [])).1) ∧ Rd w sv (intsV (xs.getD i ([], [])).2)
theorem RdL.below {w w' : World} {v : Value} {xs : List VP} (h : RdL w v xs) (hb : Below w.heap.size w w') : RdL w' v xs := by
  obtain ⟨b, c, h1, h2, h3, h4, h5⟩ := h
  refine ⟨b, c, h1, h2, h3, Nat.lt_of_lt_of_le h4 hb.size, fun i hi => ?_⟩
  obtain ⟨sn, sv, a1, a2, a3, a4⟩ := h5 i hi
  exact ⟨sn, sv, (hb.cell (p := ⟨b, i * 2, none⟩) h4).trans a1, (hb.cell (p := ⟨b, i * 2 + 1, none⟩) h4).trans a2, a3.below hb, a4.below hb⟩
/-- Variables of the call's own, as a value. -/
def OwV (w : World) (base : Nat) (r : Value) (l : VL) : Prop := ∃ sn sv, r = .agg #[sn, sv] ∧ Ow w base 9 sn (strsV (nmsOf l)) ∧ Ow w base 2 sv (intsV (valsOf l))
theorem OwV.nil (w : World) (base : Nat) : OwV w base (.agg #[.slice none 0 0, .slice none 0 0]) [] := ⟨_, _, rfl, Ow.nil _ _ _, Ow.nil _ _ _⟩
theorem OwV.read {w : World} {base : Nat} {r : Value} {l : VL} (h : OwV w base r l) : RdV w r (nmsOf l) (valsOf l) := by
  obtain ⟨sn, sv, h1, h2, h3⟩ := h
  exact ⟨sn, sv, h1, Rd.of_own h2, Rd.of_own h3⟩
end Go.Proofs.Ytekhfepfaegpaaa
