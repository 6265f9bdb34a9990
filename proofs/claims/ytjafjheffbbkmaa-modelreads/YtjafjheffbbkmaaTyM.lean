/-
  What a tree comes to: plain laws.
-/
import Derived.Test.YtjafjheffbbkmaaCheck
namespace Go.Proofs.Ytjafjheffbbkmaa
set_option linter.unusedVariables false


def wantT (k : Int) : Bool := decide (k = 6 ∨ k = 13 ∨ k = 14)
def wantN (k : Int) : Bool := decide (k = 5 ∨ 7 ≤ k ∧ k ≤ 10)
def truthK (k : Int) : Bool := decide (k = 3 ∨ k = 4 ∨ k = 6 ∨ k = 11 ∨ k = 12 ∨ k = 13 ∨ k = 14)
/-- What a sign comes to whose parts all come to the same. -/
def sgM (k : Int) (p : Nat) : Nat := if k = 11 ∧ p ≠ 0 then 2 else if k = 12 ∧ p = 1 then 2 else if wantT k = true ∧ p = 2 then 2 else if wantN k = true ∧ p = 1 then 1 else 0
/-- What a tree comes to: 0 nothing, 1 a number, 2 a truth. -/
def ctM : Nat → Tr → Nat
  | 0, _ => 0
  | d + 1, t => if t.kind = 1 ∨ t.kind = 2 then 1 else if t.kind = 3 ∨ t.kind = 4 then 2 else
    match t.kids with
    | [] => 0
    | x :: r => if r.all (fun y => ctM d y == ctM d x) then sgM t.kind (ctM d x) else 0
def fitK (t x : Tr) : Bool := if t.kind = 11 then truthK x.kind == truthK (t.kids.getD 0 zeroT).kind else truthK x.kind == wantT t.kind
/-- Are a tree's parts such as they must be. -/
def tyM : Nat → Tr → Bool
  | 0, _ => false
  | d + 1, t => t.kids.all fun x => tyM d x && fitK t x
/-- What a tree that may be is. -/
structure Shape (d : Nat) (t : Tr) : Prop where
  lo : 1 ≤ t.kind
  hi : t.kind ≤ 14
  num : 0 ≤ t.n
  num0 : t.kind ≠ 1 → t.n = 0
  name : t.kind ≠ 2 → t.name = []
  kids : (t.kind ≤ 4 ∧ t.kids = []) ∨ ((t.kind = 5 ∨ t.kind = 6) ∧ ∃ x, t.kids = [x] ∧ checkM d x = 0) ∨ (7 ≤ t.kind ∧ ∃ x y, t.kids = [x, y] ∧ checkM d x = 0 ∧ checkM d y = 0)
theorem kidsK_leaf {k : Int} (h1 : 1 ≤ k) (h : k ≤ 4) : kidsK k = 0 := by unfold kidsK; repeat' split
                                                                          all_goals omega
theorem kidsK_one {k : Int} (h : k = 5 ∨ k = 6) : kidsK k = 1 := by unfold kidsK; repeat' split
                                                                    all_goals omega
theorem kidsK_two {k : Int} (h : 7 ≤ k) : kidsK k = 2 := by unfold kidsK; repeat' split
                                                            all_goals omega
theorem firstBad_zero {f : Tr → Nat} : ∀ {l : List Tr}, firstBad f l = 0 → ∀ x ∈ l, f x = 0
  | [], _, x, hx => by simp at hx
  | k :: r, h, x, hx => by
    unfold firstBad at h
    split at h
    · omega
    · rcases List.mem_cons.1 hx with rfl | hx
      · omega
      · exact firstBad_zero h x hx
theorem check_fits {d : Nat} {t : Tr} (h : checkM (d + 1) t = 0) : fitsM t = true ∧ ∀ x ∈ t.kids, checkM d x = 0 := by
  unfold checkM at h
  split at h
  · omega
  · rename_i hf
    exact ⟨by simpa using hf, firstBad_zero h⟩
theorem shape {d : Nat} {t : Tr} (h : checkM (d + 1) t = 0) : Shape d t := by
  obtain ⟨hf, hk⟩ := check_fits h
  unfold fitsM at hf
  split at hf
  · cases hf
  · rename_i h1
    split at hf
    · cases hf
    · rename_i h2
      have l1 : 1 ≤ t.kind := by omega
      have l2 : t.kind ≤ 14 := by omega
      have hl : t.kids.length = kidsK t.kind := by
        by_cases e : t.kids.length = kidsK t.kind
        · exact e
        · exact absurd (.inr (.inr e)) h1
      refine ⟨l1, l2, by omega, fun hn => by omega, fun hn => ?_, ?_⟩
      · rw [if_neg hn] at hf
        simpa using hf
      · by_cases e4 : t.kind ≤ 4
        · left
          rw [kidsK_leaf l1 e4] at hl
          exact ⟨e4, List.length_eq_zero_iff.1 hl⟩
        · right
          by_cases e6 : t.kind = 5 ∨ t.kind = 6
          · left
            rw [kidsK_one e6] at hl
            obtain ⟨x, hx⟩ := List.length_eq_one_iff.1 hl
            exact ⟨e6, x, hx, hk x (by rw [hx]; simp)⟩
          · right
            rw [kidsK_two (by omega)] at hl
            obtain ⟨x, y, hx⟩ : ∃ x y, t.kids = [x, y] := by
              match hq : t.kids, hl with
              | [x, y], _ => exact ⟨x, y, rfl⟩
            exact ⟨by omega, x, y, hx, hk x (by rw [hx]; simp), hk y (by rw [hx]; simp)⟩
theorem ct_ty : ∀ (d : Nat) (t : Tr), checkM d t = 0 → ctM d t = if tyM d t = true then (if truthK t.kind = true then 2 else 1) else 0
  | 0, t, h => by cases h
  | d + 1, t, h => by
    have hs := shape h
    obtain ⟨k, n, nm, ks⟩ := t
    have h1 := hs.lo; have h2 := hs.hi
    rcases hs.kids with ⟨h4, hk⟩ | ⟨h5, x, hk, hx⟩ | ⟨h7, x, y, hk, hx, hy⟩
    · simp only at h1 h2 h4 hk
      subst hk
      unfold ctM tyM
      simp only [List.all_nil, if_true]
      by_cases e : k = 1 ∨ k = 2
      · rw [if_pos e, if_neg (by unfold truthK; simp; omega)]
      · rw [if_neg e, if_pos (by omega), if_pos (by unfold truthK; simp; omega)]
    · simp only at h1 h2 h5 hk
      subst hk
      have ihx := ct_ty d x hx
      unfold ctM tyM
      simp only [List.all_nil, List.all_cons, if_true, Bool.and_true]
      rw [if_neg (by omega), if_neg (by omega), ihx]
      unfold fitK sgM
      simp only
      cases tyM d x with
      | false => rcases h5 with rfl | rfl <;> simp [wantT, wantN]
      | true =>
        cases truthK x.kind <;> rcases h5 with rfl | rfl <;> simp [wantT, wantN, truthK]
    · simp only at h1 h2 h7 hk
      subst hk
      have ihx := ct_ty d x hx
      have ihy := ct_ty d y hy
      unfold ctM tyM
      simp only [List.all_nil, List.all_cons, Bool.and_true]
      rw [if_neg (by omega), if_neg (by omega), ihx, ihy]
      unfold fitK sgM
      simp only [List.getD_cons_zero]
      have hc : k = 7 ∨ k = 8 ∨ k = 9 ∨ k = 10 ∨ k = 11 ∨ k = 12 ∨ k = 13 ∨ k = 14 := by omega
      cases tyM d x <;> cases tyM d y <;> cases truthK x.kind <;> cases truthK y.kind <;> rcases hc with rfl | rfl | rfl | rfl | rfl | rfl | rfl | rfl <;> simp [wantT, wantN, truthK]
end Go.Proofs.Ytjafjheffbbkmaa
