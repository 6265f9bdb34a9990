/-
  What a tree comes to: plain laws.
-/
import Derived.Test.YtlaiacjlphjmlaaBasZ
namespace Go.Proofs.Ytlaiacjlphjmlaa
section
set_option linter.unusedVariables false


def wantT (k : Int) : Bool := decide (k = 6 ∨ k = 13 ∨ k = 14)
def wantN (k : Int) : Bool := decide (k = 5 ∨ 7 ≤ k ∧ k ≤ 10)
def truthK (k : Int) : Bool := decide (k = 3 ∨ k = 4 ∨ k = 6 ∨ k = 11 ∨ k = 12 ∨ k = 13 ∨ k = 14)
/-- What a sign comes to whose parts all come to the same. -/
def sgM (k : Int) (p : Nat) : Nat := if k = 11 ∧ p ≠ 0 then 2 else if k = 12 ∧ p = 1 then 2 else if wantT k = true ∧ p = 2 then 2 else if wantN k = true ∧ p = 1 then 1 else 0
/-- What a tree comes to: 0 nothing, 1 a number, 2 a truth. -/
def ctM : Nat → Tr → Nat
  | 0, _ => 0
  | d + 1, t => if t.kind = 1 ∨ t.kind = 2 then 1 else if t.kind = 3 ∨ t.kind = 4 then 2 else
    match t.kids with
    | [] => 0
    | x :: r => if r.all (fun y => ctM d y == ctM d x) then sgM t.kind (ctM d x) else 0
def fitK (t x : Tr) : Bool := if t.kind = 11 then truthK x.kind == truthK (t.kids.getD 0 zeroT).kind else truthK x.kind == wantT t.kind
/-- Are a tree's parts such as they must be. -/
def tyM : Nat → Tr → Bool
  | 0, _ => false
  | d + 1, t => t.kids.all fun x => tyM d x && fitK t x
/-- What a tree that may be is. -/
structure Shape (d : Nat) (t : Tr) : Prop where
  lo : 1 ≤ t.kind
  hi : t.kind ≤ 14
  num : 0 ≤ t.n
  num0 : t.kind ≠ 1 → t.n = 0
  name : t.kind ≠ 2 → t.name = []
  kids : (t.kind ≤ 4 ∧ t.kids = []) ∨ ((t.kind = 5 ∨ t.kind = 6) ∧ ∃ x, t.kids = [x] ∧ checkM d x = 0) ∨ (7 ≤ t.kind ∧ ∃ x y, t.kids = [x, y] ∧ checkM d x = 0 ∧ checkM d y = 0)
theorem kidsK_leaf {k : Int} (h1 : 1 ≤ k) (h : k ≤ 4) : kidsK k = 0 := by unfold kidsK; repeat' split
                                                                          all_goals omega
theorem kidsK_one {k : Int} (h : k = 5 ∨ k = 6) : kidsK k = 1 := by unfold kidsK; repeat' split
                                                                    all_goals omega
theorem kidsK_two {k : Int} (h : 7 ≤ k) : kidsK k = 2 := by unfold kidsK; repeat' split
                                                            all_goals omega
theorem firstBad_zero {f : Tr → Nat} : ∀ {l : List Tr}, firstBad f l = 0 → ∀ x ∈ l, f x = 0
  | [], _, x, hx => by simp at hx
  | k :: r, h, x, hx => by
    unfold firstBad at h
    split at h
    · omega
    · rcases List.mem_cons.1 hx with rfl | hx
      · omega
      · exact firstBad_zero h x hx
theorem check_fits {d : Nat} {t : Tr} (h : checkM (d + 1) t = 0) : fitsM t = true ∧ ∀ x ∈ t.kids, checkM d x = 0 := by
  unfold checkM at h
  split at h
  · omega
  · rename_i hf
    exact ⟨by simpa using hf, firstBad_zero h⟩
theorem shape {d : Nat} {t : Tr} (h : checkM (d + 1) t = 0) : Shape d t := by
  obtain ⟨hf, hk⟩ := check_fits h
  unfold fitsM at hf
  split at hf
  · cases hf
  · rename_i h1
    split at hf
    · cases hf
    · rename_i h2
      have l1 : 1 ≤ t.kind := by omega
      have l2 : t.kind ≤ 14 := by omega
      have hl : t.kids.length = kidsK t.kind := by
        by_cases e : t.kids.length = kidsK t.kind
        · exact e
        · exact absurd (.inr (.inr e)) h1
      refine ⟨l1, l2, by omega, fun hn => by omega, fun hn => ?_, ?_⟩
      · rw [if_neg hn] at hf
        simpa using hf
      · by_cases e4 : t.kind ≤ 4
        · left
          rw [kidsK_leaf l1 e4] at hl
          exact ⟨e4, List.length_eq_zero_iff.1 hl⟩
        · right
          by_cases e6 : t.kind = 5 ∨ t.kind = 6
          · left
            rw [kidsK_one e6] at hl
            obtain ⟨x, hx⟩ := List.length_eq_one_iff.1 hl
            exact ⟨e6, x, hx, hk x (by rw [hx]; simp)⟩
          · right
            rw [kidsK_two (by omega)] at hl
            obtain ⟨x, y, hx⟩ : ∃ x y, t.kids = [x, y] := by
              match hq : t.kids, hl with
              | [x, y], _ => exact ⟨x, y, rfl⟩
            exact ⟨by omega, x, y, hx, hk x (by rw [hx]; simp), hk y (by rw [hx]; simp)⟩
theorem ct_ty : ∀ (d : Nat) (t : Tr), checkM d t = 0 → ctM d t = if tyM d t = true then (if truthK t.kind = true then 2 else 1) else 0
  | 0, t, h => by cases h
  | d + 1, t, h => by
    have hs := shape h
    obtain ⟨k, n, nm, ks⟩ := t
    have h1 := hs.lo; have h2 := hs.hi
    rcases hs.kids with ⟨h4, hk⟩ | ⟨h5, x, hk, hx⟩ | ⟨h7, x, y, hk, hx, hy⟩
    · simp only at h1 h2 h4 hk
      subst hk
      unfold ctM tyM
      simp only [List.all_nil, if_true]
      by_cases e : k = 1 ∨ k = 2
      · rw [if_pos e, if_neg (by unfold truthK; simp; omega)]
      · rw [if_neg e, if_pos (by omega), if_pos (by unfold truthK; simp; omega)]
    · simp only at h1 h2 h5 hk
      subst hk
      have ihx := ct_ty d x hx
      unfold ctM tyM
      simp only [List.all_nil, List.all_cons, if_true, Bool.and_true]
      rw [if_neg (by omega), if_neg (by omega), ihx]
      unfold fitK sgM
      simp only
      cases tyM d x with
      | false => rcases h5 with rfl | rfl <;> simp [wantT, wantN]
      | true =>
        cases truthK x.kind <;> rcases h5 with rfl | rfl <;> simp [wantT, wantN, truthK]
    · simp only at h1 h2 h7 hk
      subst hk
      have ihx := ct_ty d x hx
      have ihy := ct_ty d y hy
      unfold ctM tyM
      simp only [List.all_nil, List.all_cons, Bool.and_true]
      rw [if_neg (by omega), if_neg (by omega), ihx, ihy]
      unfold fitK sgM
      simp only [List.getD_cons_zero]
      have hc : k = 7 ∨ k = 8 ∨ k = 9 ∨ k = 10 ∨ k = 11 ∨ k = 12 ∨ k = 13 ∨ k = 14 := by omega
      cases tyM d x <;> cases tyM d y <;> cases truthK x.kind <;> cases truthK y.kind <;> rcases hc with rfl | rfl | rfl | rfl | rfl | rfl | rfl | rfl <;> simp [wantT, wantN, truthK]
end
section
open Go.RowKit
set_option linter.unusedVariables false



/-- May a node of a kind be that has as many kids as it must? -/
def restB (k n : Int) (t : Bs) : Bool :=
  if n < 0 ∨ n ≠ 0 ∧ k ≠ 1 then false
  else if k = 2 then nameOk t && decide (t ≠ yesB) && decide (t ≠ noB)
  else decide (t = [])
theorem fitsB_out {k n : Int} {t : Bs} {l : Nat} (h : k < 1 ∨ 14 < k ∨ l ≠ kidsK k) : fitsB k n t l = false := if_pos h
theorem fitsB_in {k n : Int} {t : Bs} {l : Nat} (h1 : 1 ≤ k) (h2 : k ≤ 14) (h3 : l = kidsK k) : fitsB k n t l = restB k n t := if_neg (by rintro (h | h | h); omega; omega; exact h h3)
set_option maxRecDepth 100000 in
set_option maxHeartbeats 1000000 in
theorem node_low (k : Int) (hk : k < 1) (n : Int) (t : Bs) (a : Option Addr) (l c : Nat) (w : World) (hs : t.length ≤ 9223372036854775807) :
    Calls Try.prog 88 #[.agg #[.int .i64 k, .int .i64 n, .string (ba t), .slice a l c]] w fun e w' => e = .returned (.bool (fitsB k n t l)) ∧ Below w.heap.size w w' := by
  have g1 : ¬ 1 ≤ k := by omega
  have g2 : (k == 5) = false := by simp; omega
  have g3 : (k == 6) = false := by simp; omega
  have HE : Hid (fitsB k n t l = false) := fitsB_out (by omega)
  rw [HE.out]
  generalize ba t = s at *
  go_enter Try.func88, Try.ntmps88
  go_wp2_with fail
  go_ret
  exact ⟨rfl, (Below.refl _ _).alloc (Nat.le_refl _) _⟩
set_option maxRecDepth 100000 in
set_option maxHeartbeats 1000000 in
theorem node_high (k : Int) (hk : 14 < k) (n : Int) (t : Bs) (a : Option Addr) (l c : Nat) (w : World) (hs : t.length ≤ 9223372036854775807) :
    Calls Try.prog 88 #[.agg #[.int .i64 k, .int .i64 n, .string (ba t), .slice a l c]] w fun e w' => e = .returned (.bool (fitsB k n t l)) ∧ Below w.heap.size w w' := by
  have g1 : 1 ≤ k := by omega
  have g4 : ¬ k ≤ 4 := by omega
  have g5 : ¬ k < 1 := by omega
  have g2 : (k == 5) = false := by simp; omega
  have g3 : (k == 6) = false := by simp; omega
  have HE : Hid (fitsB k n t l = false) := fitsB_out (by omega)
  rw [HE.out]
  generalize ba t = s at *
  go_enter Try.func88, Try.ntmps88
  go_wp2_with fail
  go_ret
  exact ⟨rfl, (Below.refl _ _).alloc (Nat.le_refl _) _⟩
set_option maxRecDepth 100000 in
set_option maxHeartbeats 1000000 in
theorem node_1 (n : Int) (t : Bs) (a : Option Addr) (l c : Nat) (w : World) (hs : t.length ≤ 9223372036854775807) :
    Calls Try.prog 88 #[.agg #[.int .i64 1, .int .i64 n, .string (ba t), .slice a l c]] w fun e w' => e = .returned (.bool (fitsB 1 n t l)) ∧ Below w.heap.size w w' := by
  have hkk : kidsK 1 = 0 := by unfold kidsK; rfl
  by_cases hl : l = 0
  · subst hl
    have HE : Hid (fitsB 1 n t 0 = restB 1 n t) := fitsB_in (by omega) (by omega) hkk.symm
    rw [HE.out]
    clear HE hkk
    by_cases hn : n < 0
    · have HE : Hid (restB 1 n t = false) := if_pos (.inl hn)
      rw [HE.out]
      generalize ba t = s at *
      go_enter Try.func88, Try.ntmps88
      go_wp2_with fail
      go_ret
      exact ⟨rfl, (Below.refl _ _).alloc (Nat.le_refl _) _⟩
    · by_cases hn0 : n = 0
      · subst hn0
        have HE : Hid (restB 1 0 t = decide (t = [])) := rfl
        rw [HE.out]
        have g8 : (ba t).toList = t := ba_toList t
        have gz : (t == []) = decide (t = []) := by cases t <;> rfl
        have gy : t.isEmpty = decide (t = []) := by cases t <;> rfl
        go_enter Try.func88, Try.ntmps88
        go_wp2_with fail
        go_ret
        exact ⟨rfl, (Below.refl _ _).alloc (Nat.le_refl _) _⟩
      · have HE : Hid (restB 1 n t = decide (t = [])) := by
          show restB 1 n t = decide (t = [])
          unfold restB
          rw [if_neg (by omega), if_neg (by omega)]
        rw [HE.out]
        have hn1 : 0 < n := by omega
        have g8 : (ba t).toList = t := ba_toList t
        have gz : (t == []) = decide (t = []) := by cases t <;> rfl
        have gy : t.isEmpty = decide (t = []) := by cases t <;> rfl
        go_enter Try.func88, Try.ntmps88
        go_wp2_with fail
        go_ret
        exact ⟨rfl, (Below.refl _ _).alloc (Nat.le_refl _) _⟩
  · have HE : Hid (fitsB 1 n t l = false) := fitsB_out (.inr (.inr (by rw [hkk]; exact hl)))
    rw [HE.out]
    clear HE hkk
    have hl2 : ((l : Int) == 0) = false := by simp; omega
    generalize ba t = s at *
    go_enter Try.func88, Try.ntmps88
    go_wp2_with fail
    go_ret
    exact ⟨rfl, (Below.refl _ _).alloc (Nat.le_refl _) _⟩
set_option maxRecDepth 100000 in
set_option maxHeartbeats 1000000 in
theorem node_2 (n : Int) (t : Bs) (a : Option Addr) (l c : Nat) (w : World) (hs : t.length ≤ 9223372036854775807) :
    Calls Try.prog 88 #[.agg #[.int .i64 2, .int .i64 n, .string (ba t), .slice a l c]] w fun e w' => e = .returned (.bool (fitsB 2 n t l)) ∧ Below w.heap.size w w' := by
  have hkk : kidsK 2 = 0 := by unfold kidsK; rfl
  by_cases hl : l = 0
  · subst hl
    have HE : Hid (fitsB 2 n t 0 = restB 2 n t) := fitsB_in (by omega) (by omega) hkk.symm
    rw [HE.out]
    clear HE hkk
    by_cases hn : n < 0
    · have HE : Hid (restB 2 n t = false) := if_pos (.inl hn)
      rw [HE.out]
      generalize ba t = s at *
      go_enter Try.func88, Try.ntmps88
      go_wp2_with fail
      go_ret
      exact ⟨rfl, (Below.refl _ _).alloc (Nat.le_refl _) _⟩
    · by_cases hn0 : n = 0
      · subst hn0
        have HE : Hid (restB 2 0 t = (nameOk t && decide (t ≠ yesB) && decide (t ≠ noB))) := rfl
        rw [HE.out]
        have HN : Hid (∀ w, Calls Try.prog 35 #[.string (ba t)] w fun e w' => e = .returned (.bool (nameOk t)) ∧ w' = w) := fun w => by rw [← nm_ok]; exact rname_any (ba t) w hs
        cases hnm : nameOk t with
        | false =>
          rw [hnm] at HN
          go_enter Try.func88, Try.ntmps88
          go_wp2_with (go_at_call 35; refine (HN.out _).mono ?_; rintro e w4 ⟨rfl, h4⟩; have h5 := h4.symm; clear h4; subst h5)
          go_ret
          exact ⟨rfl, (Below.refl _ _).alloc (Nat.le_refl _) _⟩
        | true =>
          rw [hnm] at HN
          by_cases e1 : t = yesB
          · have e2 : ((ba t).toList == [121, 101, 115]) = true := ba_eq e1
            have e3 : decide (t ≠ yesB) = false := decide_eq_false (fun h => h e1)
            rw [e3]
            clear e1 e3 hnm HE hs
            generalize ba t = s at *
            go_enter Try.func88, Try.ntmps88
            go_wp2_with (go_at_call 35; refine (HN.out _).mono ?_; rintro e w4 ⟨rfl, h4⟩; have h5 := h4.symm; clear h4; subst h5)
            go_ret
            exact ⟨rfl, (Below.refl _ _).alloc (Nat.le_refl _) _⟩
          · have e2 : ((ba t).toList == [121, 101, 115]) = false := ba_ne e1
            have e3 : decide (t ≠ yesB) = true := decide_eq_true e1
            rw [e3]
            by_cases e4 : t = noB
            · have e5 : ((ba t).toList == [110, 111]) = true := ba_eq e4
              have e6 : decide (t ≠ noB) = false := decide_eq_false (fun h => h e4)
              rw [e6]
              clear e1 e3 hnm e4 e6 HE hs
              generalize ba t = s at *
              go_enter Try.func88, Try.ntmps88
              go_wp2_with (go_at_call 35; refine (HN.out _).mono ?_; rintro e w4 ⟨rfl, h4⟩; have h5 := h4.symm; clear h4; subst h5)
              go_ret
              exact ⟨rfl, (Below.refl _ _).alloc (Nat.le_refl _) _⟩
            · have e5 : ((ba t).toList == [110, 111]) = false := ba_ne e4
              have e6 : decide (t ≠ noB) = true := decide_eq_true e4
              rw [e6]
              clear e1 e3 hnm e4 e6 HE hs
              generalize ba t = s at *
              go_enter Try.func88, Try.ntmps88
              go_wp2_with (go_at_call 35; refine (HN.out _).mono ?_; rintro e w4 ⟨rfl, h4⟩; have h5 := h4.symm; clear h4; subst h5)
              go_ret
              exact ⟨rfl, (Below.refl _ _).alloc (Nat.le_refl _) _⟩
      · have HE : Hid (restB 2 n t = false) := if_pos (.inr ⟨hn0, by omega⟩)
        rw [HE.out]
        have hn1 : 0 < n := by omega
        generalize ba t = s at *
        go_enter Try.func88, Try.ntmps88
        go_wp2_with fail
        go_ret
        exact ⟨rfl, (Below.refl _ _).alloc (Nat.le_refl _) _⟩
  · have HE : Hid (fitsB 2 n t l = false) := fitsB_out (.inr (.inr (by rw [hkk]; exact hl)))
    rw [HE.out]
    clear HE hkk
    have hl2 : ((l : Int) == 0) = false := by simp; omega
    generalize ba t = s at *
    go_enter Try.func88, Try.ntmps88
    go_wp2_with fail
    go_ret
    exact ⟨rfl, (Below.refl _ _).alloc (Nat.le_refl _) _⟩
set_option maxRecDepth 100000 in
set_option maxHeartbeats 1000000 in
theorem node_3 (n : Int) (t : Bs) (a : Option Addr) (l c : Nat) (w : World) (hs : t.length ≤ 9223372036854775807) :
    Calls Try.prog 88 #[.agg #[.int .i64 3, .int .i64 n, .string (ba t), .slice a l c]] w fun e w' => e = .returned (.bool (fitsB 3 n t l)) ∧ Below w.heap.size w w' := by
  have hkk : kidsK 3 = 0 := by unfold kidsK; rfl
  by_cases hl : l = 0
  · subst hl
    have HE : Hid (fitsB 3 n t 0 = restB 3 n t) := fitsB_in (by omega) (by omega) hkk.symm
    rw [HE.out]
    clear HE hkk
    by_cases hn : n < 0
    · have HE : Hid (restB 3 n t = false) := if_pos (.inl hn)
      rw [HE.out]
      generalize ba t = s at *
      go_enter Try.func88, Try.ntmps88
      go_wp2_with fail
      go_ret
      exact ⟨rfl, (Below.refl _ _).alloc (Nat.le_refl _) _⟩
    · by_cases hn0 : n = 0
      · subst hn0
        have HE : Hid (restB 3 0 t = decide (t = [])) := rfl
        rw [HE.out]
        have g8 : (ba t).toList = t := ba_toList t
        have gz : (t == []) = decide (t = []) := by cases t <;> rfl
        have gy : t.isEmpty = decide (t = []) := by cases t <;> rfl
        go_enter Try.func88, Try.ntmps88
        go_wp2_with fail
        go_ret
        exact ⟨rfl, (Below.refl _ _).alloc (Nat.le_refl _) _⟩
      · have HE : Hid (restB 3 n t = false) := if_pos (.inr ⟨hn0, by omega⟩)
        rw [HE.out]
        have hn1 : 0 < n := by omega
        generalize ba t = s at *
        go_enter Try.func88, Try.ntmps88
        go_wp2_with fail
        go_ret
        exact ⟨rfl, (Below.refl _ _).alloc (Nat.le_refl _) _⟩
  · have HE : Hid (fitsB 3 n t l = false) := fitsB_out (.inr (.inr (by rw [hkk]; exact hl)))
    rw [HE.out]
    clear HE hkk
    have hl2 : ((l : Int) == 0) = false := by simp; omega
    generalize ba t = s at *
    go_enter Try.func88, Try.ntmps88
    go_wp2_with fail
    go_ret
    exact ⟨rfl, (Below.refl _ _).alloc (Nat.le_refl _) _⟩
set_option maxRecDepth 100000 in
set_option maxHeartbeats 1000000 in
theorem node_4 (n : Int) (t : Bs) (a : Option Addr) (l c : Nat) (w : World) (hs : t.length ≤ 9223372036854775807) :
    Calls Try.prog 88 #[.agg #[.int .i64 4, .int .i64 n, .string (ba t), .slice a l c]] w fun e w' => e = .returned (.bool (fitsB 4 n t l)) ∧ Below w.heap.size w w' := by
  have hkk : kidsK 4 = 0 := by unfold kidsK; rfl
  by_cases hl : l = 0
  · subst hl
    have HE : Hid (fitsB 4 n t 0 = restB 4 n t) := fitsB_in (by omega) (by omega) hkk.symm
    rw [HE.out]
    clear HE hkk
    by_cases hn : n < 0
    · have HE : Hid (restB 4 n t = false) := if_pos (.inl hn)
      rw [HE.out]
      generalize ba t = s at *
      go_enter Try.func88, Try.ntmps88
      go_wp2_with fail
      go_ret
      exact ⟨rfl, (Below.refl _ _).alloc (Nat.le_refl _) _⟩
    · by_cases hn0 : n = 0
      · subst hn0
        have HE : Hid (restB 4 0 t = decide (t = [])) := rfl
        rw [HE.out]
        have g8 : (ba t).toList = t := ba_toList t
        have gz : (t == []) = decide (t = []) := by cases t <;> rfl
        have gy : t.isEmpty = decide (t = []) := by cases t <;> rfl
        go_enter Try.func88, Try.ntmps88
        go_wp2_with fail
        go_ret
        exact ⟨rfl, (Below.refl _ _).alloc (Nat.le_refl _) _⟩
      · have HE : Hid (restB 4 n t = false) := if_pos (.inr ⟨hn0, by omega⟩)
        rw [HE.out]
        have hn1 : 0 < n := by omega
        generalize ba t = s at *
        go_enter Try.func88, Try.ntmps88
        go_wp2_with fail
        go_ret
        exact ⟨rfl, (Below.refl _ _).alloc (Nat.le_refl _) _⟩
  · have HE : Hid (fitsB 4 n t l = false) := fitsB_out (.inr (.inr (by rw [hkk]; exact hl)))
    rw [HE.out]
    clear HE hkk
    have hl2 : ((l : Int) == 0) = false := by simp; omega
    generalize ba t = s at *
    go_enter Try.func88, Try.ntmps88
    go_wp2_with fail
    go_ret
    exact ⟨rfl, (Below.refl _ _).alloc (Nat.le_refl _) _⟩
set_option maxRecDepth 100000 in
set_option maxHeartbeats 1000000 in
theorem node_5 (n : Int) (t : Bs) (a : Option Addr) (l c : Nat) (w : World) (hs : t.length ≤ 9223372036854775807) :
    Calls Try.prog 88 #[.agg #[.int .i64 5, .int .i64 n, .string (ba t), .slice a l c]] w fun e w' => e = .returned (.bool (fitsB 5 n t l)) ∧ Below w.heap.size w w' := by
  have hkk : kidsK 5 = 1 := by unfold kidsK; rfl
  by_cases hl : l = 1
  · subst hl
    have HE : Hid (fitsB 5 n t 1 = restB 5 n t) := fitsB_in (by omega) (by omega) hkk.symm
    rw [HE.out]
    clear HE hkk
    by_cases hn : n < 0
    · have HE : Hid (restB 5 n t = false) := if_pos (.inl hn)
      rw [HE.out]
      generalize ba t = s at *
      go_enter Try.func88, Try.ntmps88
      go_wp2_with fail
      go_ret
      exact ⟨rfl, (Below.refl _ _).alloc (Nat.le_refl _) _⟩
    · by_cases hn0 : n = 0
      · subst hn0
        have HE : Hid (restB 5 0 t = decide (t = [])) := rfl
        rw [HE.out]
        have g8 : (ba t).toList = t := ba_toList t
        have gz : (t == []) = decide (t = []) := by cases t <;> rfl
        have gy : t.isEmpty = decide (t = []) := by cases t <;> rfl
        go_enter Try.func88, Try.ntmps88
        go_wp2_with fail
        go_ret
        exact ⟨rfl, (Below.refl _ _).alloc (Nat.le_refl _) _⟩
      · have HE : Hid (restB 5 n t = false) := if_pos (.inr ⟨hn0, by omega⟩)
        rw [HE.out]
        have hn1 : 0 < n := by omega
        generalize ba t = s at *
        go_enter Try.func88, Try.ntmps88
        go_wp2_with fail
        go_ret
        exact ⟨rfl, (Below.refl _ _).alloc (Nat.le_refl _) _⟩
  · have HE : Hid (fitsB 5 n t l = false) := fitsB_out (.inr (.inr (by rw [hkk]; exact hl)))
    rw [HE.out]
    clear HE hkk
    have hl2 : ((l : Int) == 1) = false := by simp; omega
    generalize ba t = s at *
    go_enter Try.func88, Try.ntmps88
    go_wp2_with fail
    go_ret
    exact ⟨rfl, (Below.refl _ _).alloc (Nat.le_refl _) _⟩
set_option maxRecDepth 100000 in
set_option maxHeartbeats 1000000 in
theorem node_6 (n : Int) (t : Bs) (a : Option Addr) (l c : Nat) (w : World) (hs : t.length ≤ 9223372036854775807) :
    Calls Try.prog 88 #[.agg #[.int .i64 6, .int .i64 n, .string (ba t), .slice a l c]] w fun e w' => e = .returned (.bool (fitsB 6 n t l)) ∧ Below w.heap.size w w' := by
  have hkk : kidsK 6 = 1 := by unfold kidsK; rfl
  by_cases hl : l = 1
  · subst hl
    have HE : Hid (fitsB 6 n t 1 = restB 6 n t) := fitsB_in (by omega) (by omega) hkk.symm
    rw [HE.out]
    clear HE hkk
    by_cases hn : n < 0
    · have HE : Hid (restB 6 n t = false) := if_pos (.inl hn)
      rw [HE.out]
      generalize ba t = s at *
      go_enter Try.func88, Try.ntmps88
      go_wp2_with fail
      go_ret
      exact ⟨rfl, (Below.refl _ _).alloc (Nat.le_refl _) _⟩
    · by_cases hn0 : n = 0
      · subst hn0
        have HE : Hid (restB 6 0 t = decide (t = [])) := rfl
        rw [HE.out]
        have g8 : (ba t).toList = t := ba_toList t
        have gz : (t == []) = decide (t = []) := by cases t <;> rfl
        have gy : t.isEmpty = decide (t = []) := by cases t <;> rfl
        go_enter Try.func88, Try.ntmps88
        go_wp2_with fail
        go_ret
        exact ⟨rfl, (Below.refl _ _).alloc (Nat.le_refl _) _⟩
      · have HE : Hid (restB 6 n t = false) := if_pos (.inr ⟨hn0, by omega⟩)
        rw [HE.out]
        have hn1 : 0 < n := by omega
        generalize ba t = s at *
        go_enter Try.func88, Try.ntmps88
        go_wp2_with fail
        go_ret
        exact ⟨rfl, (Below.refl _ _).alloc (Nat.le_refl _) _⟩
  · have HE : Hid (fitsB 6 n t l = false) := fitsB_out (.inr (.inr (by rw [hkk]; exact hl)))
    rw [HE.out]
    clear HE hkk
    have hl2 : ((l : Int) == 1) = false := by simp; omega
    generalize ba t = s at *
    go_enter Try.func88, Try.ntmps88
    go_wp2_with fail
    go_ret
    exact ⟨rfl, (Below.refl _ _).alloc (Nat.le_refl _) _⟩
set_option maxRecDepth 100000 in
set_option maxHeartbeats 1000000 in
theorem node_bin (k : Int) (h7 : 7 ≤ k) (h14 : k ≤ 14) (n : Int) (t : Bs) (a : Option Addr) (l c : Nat) (w : World) (hs : t.length ≤ 9223372036854775807) :
    Calls Try.prog 88 #[.agg #[.int .i64 k, .int .i64 n, .string (ba t), .slice a l c]] w fun e w' => e = .returned (.bool (fitsB k n t l)) ∧ Below w.heap.size w w' := by
  have g1 : 1 ≤ k := by omega
  have g4 : ¬ k ≤ 4 := by omega
  have g5 : ¬ k < 1 := by omega
  have g6 : ¬ 14 < k := by omega
  have g2 : (k == 5) = false := by simp; omega
  have g3 : (k == 6) = false := by simp; omega
  have g7 : (k == 2) = false := by simp; omega
  have g9 : (k == 1) = false := by simp; omega
  have g10 : (k != 1) = true := by simp; omega
  have hkk : kidsK k = 2 := by unfold kidsK; rw [if_neg (by omega), if_neg (by omega)]
  by_cases hl : l = 2
  · subst hl
    have HE : Hid (fitsB k n t 2 = restB k n t) := fitsB_in (by omega) (by omega) hkk.symm
    rw [HE.out]
    clear HE hkk
    by_cases hn : n < 0
    · have HE : Hid (restB k n t = false) := if_pos (.inl hn)
      rw [HE.out]
      generalize ba t = s at *
      go_enter Try.func88, Try.ntmps88
      go_wp2_with fail
      go_ret
      exact ⟨rfl, (Below.refl _ _).alloc (Nat.le_refl _) _⟩
    · by_cases hn0 : n = 0
      · subst hn0
        have HE : Hid (restB k 0 t = decide (t = [])) := by unfold restB; rw [if_neg (by omega), if_neg (by omega)]; exact rfl
        rw [HE.out]
        have g8 : (ba t).toList = t := ba_toList t
        have gz : (t == []) = decide (t = []) := by cases t <;> rfl
        have gy : t.isEmpty = decide (t = []) := by cases t <;> rfl
        go_enter Try.func88, Try.ntmps88
        go_wp2_with fail
        go_ret
        exact ⟨rfl, (Below.refl _ _).alloc (Nat.le_refl _) _⟩
      · have HE : Hid (restB k n t = false) := if_pos (.inr ⟨hn0, by omega⟩)
        rw [HE.out]
        have hn1 : 0 < n := by omega
        generalize ba t = s at *
        go_enter Try.func88, Try.ntmps88
        go_wp2_with fail
        go_ret
        exact ⟨rfl, (Below.refl _ _).alloc (Nat.le_refl _) _⟩
  · have HE : Hid (fitsB k n t l = false) := fitsB_out (.inr (.inr (by rw [hkk]; exact hl)))
    rw [HE.out]
    clear HE hkk
    have hl2 : ((l : Int) == 2) = false := by simp; omega
    generalize ba t = s at *
    go_enter Try.func88, Try.ntmps88
    go_wp2_with fail
    go_ret
    exact ⟨rfl, (Below.refl _ _).alloc (Nat.le_refl _) _⟩
theorem node_any (k n : Int) (t : Bs) (a : Option Addr) (l c : Nat) (w : World) (hs : t.length ≤ 9223372036854775807) :
    Calls Try.prog 88 #[.agg #[.int .i64 k, .int .i64 n, .string (ba t), .slice a l c]] w fun e w' => e = .returned (.bool (fitsB k n t l)) ∧ Below w.heap.size w w' := by
  by_cases h1 : k < 1
  · exact node_low k h1 n t a l c w hs
  by_cases h2 : 14 < k
  · exact node_high k h2 n t a l c w hs
  by_cases h7 : 7 ≤ k
  · exact node_bin k h7 (by omega) n t a l c w hs
  have : k = 1 ∨ k = 2 ∨ k = 3 ∨ k = 4 ∨ k = 5 ∨ k = 6 := by omega
  rcases this with rfl | rfl | rfl | rfl | rfl | rfl
  · exact node_1 n t a l c w hs
  · exact node_2 n t a l c w hs
  · exact node_3 n t a l c w hs
  · exact node_4 n t a l c w hs
  · exact node_5 n t a l c w hs
  · exact node_6 n t a l c w hs
def RChecks (d : Nat) : Prop := ∀ (deep : Nat), d + deep = 17 → ∀ (P : Nat → Prop) (t : Tr) (v : Value) (w : World), Tre w P v t →
  Calls Try.prog 84 #[v, .int .i64 deep] w fun e w' => e = .returned (.int .i64 (checkM d t)) ∧ Below w.heap.size w w'
set_option maxRecDepth 100000 in
theorem rcheck_zero : RChecks 0 := by
  intro deep hd P t v w hT
  obtain ⟨a, cap, rfl, _⟩ := hT.opened
  have h16 : ¬ deep ≤ 16 := by omega
  have h17 : (16 : Int) < deep := by omega
  have hd2 : deep ≤ 17 := by omega
  show Calls Try.prog 84 _ w fun e w' => e = .returned (.int .i64 (6 : Nat)) ∧ _
  clear hT
  go_enter Try.func84, Try.ntmps84
  go_wp2
  go_ret
  exact ⟨rfl, (Below.refl _ _).alloc (Nat.le_refl _) _⟩
set_option maxRecDepth 100000 in
set_option maxHeartbeats 800000 in
theorem rcheck_succ (d : Nat) (ih : RChecks d) : RChecks (d + 1) := by
  intro deep hd P t v w hT
  have HT : Hid (Tre w P v t) := hT
  obtain ⟨a, cap, rfl, hcap, hk, hn, hnm, hlen, hkids⟩ := hT.opened
  have HI : Hid (∀ (x : Tr) (v : Value) (w : World), Tre w P v x → Calls Try.prog 84 #[v, .int .i64 ((deep : Int) + 1)] w fun e w' => e = .returned (.int .i64 (checkM d x)) ∧ Below w.heap.size w w') := fun x v w h => ih (deep + 1) (by omega) P x v w h
  have HK : Hid (∀ i, i < t.kids.length → ∃ b o ka kc, KidAt w P a i (t.kids.getD i zeroT) b o ka kc) := hkids
  have HF : Hid (∀ w, Calls Try.prog 88 #[.agg #[.int .i64 t.kind, .int .i64 t.n, .string (ba t.name), .slice a t.kids.length cap]] w fun e w' => e = .returned (.bool (fitsM t)) ∧ Below w.heap.size w w') := fun w => node_any t.kind t.n t.name a t.kids.length cap w hnm
  have hd16 : deep ≤ 16 := by omega
  clear hkids hT ih hk hn hnm
  have HE : Hid (checkM (d + 1) t = if fitsM t = false then 1 else firstBad (checkM d) t.kids) := rfl
  rw [HE.out]
  generalize t.kind = tk at *
  generalize t.n = tn at *
  generalize ba t.name = ts at *
  cases hf : fitsM t with
  | false =>
    rw [hf] at HF
    rw [if_pos rfl]
    go_enter Try.func84, Try.ntmps84
    go_wp2_with (go_at_call 88; refine (HF.out _).mono ?_; rintro e w1 ⟨rfl, HB⟩)
    go_ret
    exact ⟨rfl, ((Below.refl _ _).alloc (Nat.le_refl _) _).trans (HB.mono (by rw [size_alloc]; omega))⟩
  | true =>
    rw [hf] at HF
    rw [if_neg (by decide)]
    clear hf HE
    generalize t.kids = ks at *
    go_enter Try.func84, Try.ntmps84
    go_wp2_with (go_at_call 88; refine (HF.out _).mono ?_; rintro e w1 ⟨rfl, HB⟩; obtain ⟨q0, q1, q2, q3, q4⟩ := (Cell4.new w (.int .i64 tk) (.int .i64 tn) (.string ts) (.slice a ks.length cap) 69).below HB; have HB1 : Hid (Below w.heap.size w w1 ∧ Cell4 w1 w.heap.size (.int .i64 tk) (.int .i64 tn) (.string ts) (.slice a ks.length cap)) := ⟨((Below.refl _ _).alloc (Nat.le_refl _) _).trans (HB.mono (by rw [size_alloc]; omega)), (Cell4.new w (.int .i64 tk) (.int .i64 tn) (.string ts) (.slice a ks.length cap) 69).below HB⟩; clear HB)
    go_loopw [5] (fun v wr => ∃ (i : Nat), i ≤ ks.length ∧ v = .int .i64 i ∧ Hid (Below w.heap.size w wr ∧ (∀ j, j < i → checkM d (ks.getD j zeroT) = 0) ∧ Cell4 wr w.heap.size (.int .i64 tk) (.int .i64 tn) (.string ts) (.slice a ks.length cap))) (fun v _ => ks.length - (intOf v).toNat)
    case atStart => exact ⟨0, Nat.zero_le _, rfl, HB1.out.1, (fun j hj => absurd hj (by omega)), HB1.out.2⟩
    case round =>
      obtain ⟨i, hi, rfl, HR⟩ := hrel
      obtain ⟨p0, p1, p2, p3, p4⟩ := HR.out.2.2
      by_cases hlt : i < ks.length
      · obtain ⟨b, o, ka, kc, hKA⟩ := HK.out i hlt
        have HKA : Hid (KidAt wr P a i (ks.getD i zeroT) b o ka kc) := hKA.below HR.out.1
        obtain ⟨rfl, k0, k1, k2, k3, _⟩ := HKA.out
        have hbl : b < wr.heap.size := World.block_lt_of_cell? wr _ k0
        have HKT : Hid (Tre wr P (.agg #[.int .i64 (ks.getD i zeroT).kind, .int .i64 (ks.getD i zeroT).n, .string (ba (ks.getD i zeroT).name), .slice ka (ks.getD i zeroT).kids.length kc]) (ks.getD i zeroT)) := HKA.out.tre
        clear hKA HKA
        have HC : Hid (∀ w, Tre w P (.agg #[.int .i64 (ks.getD i zeroT).kind, .int .i64 (ks.getD i zeroT).n, .string (ba (ks.getD i zeroT).name), .slice ka (ks.getD i zeroT).kids.length kc]) (ks.getD i zeroT) → Calls Try.prog 84 #[.agg #[.int .i64 (ks.getD i zeroT).kind, .int .i64 (ks.getD i zeroT).n, .string (ba (ks.getD i zeroT).name), .slice ka (ks.getD i zeroT).kids.length kc], .int .i64 ((deep : Int) + 1)] w fun e w' => e = .returned (.int .i64 (checkM d (ks.getD i zeroT))) ∧ Below w.heap.size w w') := fun w h => HI.out _ _ w h
        have HQ : Hid (∀ k, checkM d (ks.getD i zeroT) = k → k = 0 → ∀ j, j < i + 1 → checkM d (ks.getD j zeroT) = 0) := fun k h1 h2 j hj => by
          rcases Nat.lt_succ_iff_lt_or_eq.1 hj with h | h
          · exact HR.out.2.1 j h
          · rw [h, h1, h2]
        have HQ2 : Hid (checkM d (ks.getD i zeroT) ≠ 0 → firstBad (checkM d) ks = checkM d (ks.getD i zeroT)) := fun h => firstBad_at _ ks i hlt HR.out.2.1 h
        generalize hck : checkM d (ks.getD i zeroT) = ck at *
        generalize (ks.getD i zeroT).kind = yk at *
        generalize (ks.getD i zeroT).n = yn at *
        generalize ba (ks.getD i zeroT).name = ys at *
        generalize (ks.getD i zeroT).kids.length = yl at *
        generalize ks.getD i zeroT = y at *
        by_cases hc0 : ck = 0
        · subst hc0
          go_wp2_with (go_at_call 84; refine (HC.out _ HKT.out).mono ?_; rintro e w3 ⟨rfl, HB⟩; have HB3 : Hid (Below w.heap.size w w3) := HR.out.1.trans (HB.mono HR.out.1.size); have HB4 : Hid (Cell4 w3 w.heap.size (.int .i64 tk) (.int .i64 tn) (.string ts) (.slice (some ⟨b, o, none⟩) ks.length cap)) := HR.out.2.2.below HB; clear HB)
          go_roundw
          case rel => exact ⟨i + 1, by omega, by go_num, HB3.out, HQ.out 0 rfl rfl, HB4.out⟩
          case measure => simp [intOf]; omega
        · have hc1 : ¬ (ck : Int) = 0 := by omega
          go_wp2_with (go_at_call 84; refine (HC.out _ HKT.out).mono ?_; rintro e w3 ⟨rfl, HB⟩; have HB3 : Hid (Below w.heap.size w w3) := HR.out.1.trans (HB.mono HR.out.1.size); have HB4 : Hid (Cell4 w3 w.heap.size (.int .i64 tk) (.int .i64 tn) (.string ts) (.slice (some ⟨b, o, none⟩) ks.length cap)) := HR.out.2.2.below HB; clear HB)
          go_ret
          exact ⟨by rw [HQ2.out hc0]; rfl, HB3.out⟩
      · have he : i = ks.length := by omega
        subst he
        have HE : Hid (firstBad (checkM d) ks = 0) := firstBad_none _ ks HR.out.2.1
        have HB3 : Hid (Below w.heap.size w wr) := HR.out.1
        clear HR
        go_wp2
        go_ret
        exact ⟨by rw [HE.out]; rfl, HB3.out⟩
theorem rchecks_any : ∀ d, RChecks d
  | 0 => rcheck_zero
  | d + 1 => rcheck_succ d (rchecks_any d)
set_option maxRecDepth 100000 in
theorem RCheck_any (P : Nat → Prop) (t : Tr) (k n : Int) (s : ByteArray) (a : Option Addr) (l c : Nat) (w : World) (hT : Tre w P (.agg #[.int .i64 k, .int .i64 n, .string s, .slice a l c]) t) :
    Calls Try.prog 73 #[.agg #[.int .i64 k, .int .i64 n, .string s, .slice a l c]] w fun e w' => e = .returned (.int .i64 (checkM 16 t)) ∧ Below w.heap.size w w' := by
  have HC : Hid (∀ w, Tre w P (.agg #[.int .i64 k, .int .i64 n, .string s, .slice a l c]) t → Calls Try.prog 84 #[.agg #[.int .i64 k, .int .i64 n, .string s, .slice a l c], .int .i64 1] w fun e w' => e = .returned (.int .i64 (checkM 16 t)) ∧ Below w.heap.size w w') := fun w h => rchecks_any 16 1 rfl P t _ w h
  have HT : Hid (Tre w P (.agg #[.int .i64 k, .int .i64 n, .string s, .slice a l c]) t) := hT
  clear hT
  generalize checkM 16 t = ck at *
  go_enter Try.func73, Try.ntmps73
  go_wp2_with (go_at_call 84; refine (HC.out _ (HT.out.alloc _)).mono ?_; rintro e w3 ⟨rfl, HB⟩)
  go_ret
  exact ⟨rfl, ((Below.refl _ _).alloc (Nat.le_refl _) _).trans (HB.mono (by rw [size_alloc]; omega))⟩
end
section
open Go.RowKit
set_option linter.unusedVariables false


set_option maxRecDepth 100000 in
set_option maxHeartbeats 400000 in
theorem wantT_any (k : Int) (w : World) : Calls Try.prog 90 #[.int .i64 k] w fun e w' => e = .returned (.bool (wantT k)) ∧ w' = w := by
  go_enter Try.func90, Try.ntmps90
  go_wp2
  all_goals (go_ret; refine ⟨?_, rfl⟩; congr 2; show Value.bool _ = Value.bool _; congr 1; unfold wantT; rw [Bool.eq_iff_iff]; simp; try omega)
set_option maxRecDepth 100000 in
set_option maxHeartbeats 400000 in
theorem wantN_any (k : Int) (w : World) : Calls Try.prog 91 #[.int .i64 k] w fun e w' => e = .returned (.bool (wantN k)) ∧ w' = w := by
  go_enter Try.func91, Try.ntmps91
  go_wp2
  all_goals (go_ret; refine ⟨?_, rfl⟩; congr 2; show Value.bool _ = Value.bool _; congr 1; unfold wantN; rw [Bool.eq_iff_iff]; simp; try omega)
set_option maxRecDepth 100000 in
set_option maxHeartbeats 400000 in
theorem truthK_any (k : Int) (w : World) : Calls Try.prog 75 #[.int .i64 k] w fun e w' => e = .returned (.bool (truthK k)) ∧ w' = w := by
  go_enter Try.func75, Try.ntmps75
  go_wp2
  all_goals (go_ret; refine ⟨?_, rfl⟩; congr 2; show Value.bool _ = Value.bool _; congr 1; unfold truthK; rw [Bool.eq_iff_iff]; simp; try omega)
set_option maxRecDepth 100000 in
set_option maxHeartbeats 800000 in
theorem sign_any (k : Int) (p : Nat) (hp : p ≤ 2) (w : World) : Calls Try.prog 87 #[.int .i64 k, .int .i64 p] w fun e w' => e = .returned (.int .i64 (sgM k p)) ∧ w' = w := by
  have H1 : Hid (∀ w, Calls Try.prog 90 #[.int .i64 k] w fun e w' => e = .returned (.bool (wantT k)) ∧ w' = w) := wantT_any k
  have H2 : Hid (∀ w, Calls Try.prog 91 #[.int .i64 k] w fun e w' => e = .returned (.bool (wantN k)) ∧ w' = w) := wantN_any k
  unfold sgM
  generalize wantT k = b1 at *
  generalize wantN k = b2 at *
  obtain rfl | rfl | rfl : p = 0 ∨ p = 1 ∨ p = 2 := by omega
  · by_cases h11 : k = 11
    · subst h11
      cases b1 <;> cases b2
      all_goals (
        go_enter Try.func87, Try.ntmps87
        go_wp2_with (first
          | (go_at_call 90; refine (H1.out _).mono ?_; rintro e w1 ⟨rfl, rfl⟩)
          | (go_at_call 91; refine (H2.out _).mono ?_; rintro e w1 ⟨rfl, rfl⟩))
        all_goals (go_ret; exact ⟨by simp, rfl⟩))
    · by_cases h12 : k = 12
      · subst h12
        cases b1 <;> cases b2
        all_goals (
          go_enter Try.func87, Try.ntmps87
          go_wp2_with (first
            | (go_at_call 90; refine (H1.out _).mono ?_; rintro e w1 ⟨rfl, rfl⟩)
            | (go_at_call 91; refine (H2.out _).mono ?_; rintro e w1 ⟨rfl, rfl⟩))
          all_goals (go_ret; exact ⟨by simp, rfl⟩))
      · cases b1 <;> cases b2
        all_goals (
          go_enter Try.func87, Try.ntmps87
          go_wp2_with (first
            | (go_at_call 90; refine (H1.out _).mono ?_; rintro e w1 ⟨rfl, rfl⟩)
            | (go_at_call 91; refine (H2.out _).mono ?_; rintro e w1 ⟨rfl, rfl⟩))
          all_goals (go_ret; exact ⟨by simp_all, rfl⟩))
  · by_cases h11 : k = 11
    · subst h11
      go_enter Try.func87, Try.ntmps87
      go_wp2_with (first
        | (go_at_call 90; refine (H1.out _).mono ?_; rintro e w1 ⟨rfl, rfl⟩)
        | (go_at_call 91; refine (H2.out _).mono ?_; rintro e w1 ⟨rfl, rfl⟩))
      all_goals (go_ret; exact ⟨by simp, rfl⟩)
    · by_cases h12 : k = 12
      · subst h12
        cases b1 <;> cases b2
        all_goals (
          go_enter Try.func87, Try.ntmps87
          go_wp2_with (first
            | (go_at_call 90; refine (H1.out _).mono ?_; rintro e w1 ⟨rfl, rfl⟩)
            | (go_at_call 91; refine (H2.out _).mono ?_; rintro e w1 ⟨rfl, rfl⟩))
          all_goals (go_ret; exact ⟨by simp, rfl⟩))
      · cases b1 <;> cases b2
        all_goals (
          go_enter Try.func87, Try.ntmps87
          go_wp2_with (first
            | (go_at_call 90; refine (H1.out _).mono ?_; rintro e w1 ⟨rfl, rfl⟩)
            | (go_at_call 91; refine (H2.out _).mono ?_; rintro e w1 ⟨rfl, rfl⟩))
          all_goals (go_ret; exact ⟨by simp_all, rfl⟩))
  · by_cases h11 : k = 11
    · subst h11
      go_enter Try.func87, Try.ntmps87
      go_wp2_with (first
        | (go_at_call 90; refine (H1.out _).mono ?_; rintro e w1 ⟨rfl, rfl⟩)
        | (go_at_call 91; refine (H2.out _).mono ?_; rintro e w1 ⟨rfl, rfl⟩))
      all_goals (go_ret; exact ⟨by simp, rfl⟩)
    · by_cases h12 : k = 12
      · subst h12
        cases b1 <;> cases b2
        all_goals (
          go_enter Try.func87, Try.ntmps87
          go_wp2_with (first
            | (go_at_call 90; refine (H1.out _).mono ?_; rintro e w1 ⟨rfl, rfl⟩)
            | (go_at_call 91; refine (H2.out _).mono ?_; rintro e w1 ⟨rfl, rfl⟩))
          all_goals (go_ret; exact ⟨by simp, rfl⟩))
      · cases b1 <;> cases b2
        all_goals (
          go_enter Try.func87, Try.ntmps87
          go_wp2_with (first
            | (go_at_call 90; refine (H1.out _).mono ?_; rintro e w1 ⟨rfl, rfl⟩)
            | (go_at_call 91; refine (H2.out _).mono ?_; rintro e w1 ⟨rfl, rfl⟩))
          all_goals (go_ret; exact ⟨by simp_all, rfl⟩))
end
section
open Go.RowKit
set_option linter.unusedVariables false


theorem sgM_le (k : Int) (p : Nat) : sgM k p ≤ 2 := by unfold sgM; repeat' split
                                                       all_goals omega
theorem ctM_le : ∀ (d : Nat) (t : Tr), ctM d t ≤ 2
  | 0, _ => by unfold ctM; omega
  | d + 1, t => by
    unfold ctM
    split
    · omega
    · split
      · omega
      · split
        · omega
        · split
          · exact sgM_le _ _
          · omega
theorem ctM_one {d : Nat} {t : Tr} (h : t.kind = 1 ∨ t.kind = 2) : ctM (d + 1) t = 1 := by unfold ctM; rw [if_pos h]
theorem ctM_two {d : Nat} {t : Tr} (h : t.kind = 3 ∨ t.kind = 4) : ctM (d + 1) t = 2 := by unfold ctM; rw [if_neg (by omega), if_pos h]
theorem all_getD {f : Tr → Nat} {p : Nat} {r : List Tr} (h : ∀ j, j < r.length → f (r.getD j zeroT) = p) : r.all (fun y => f y == p) = true := by
  rw [List.all_eq_true]
  intro x hx
  obtain ⟨j, hj, e⟩ := List.getElem_of_mem hx
  have := h j hj
  rw [List.getD_eq_getElem?_getD, List.getElem?_eq_getElem hj] at this
  simp only [Option.getD_some, e] at this
  simp [this]
theorem not_all_getD {f : Tr → Nat} {p : Nat} {r : List Tr} {j : Nat} (hj : j < r.length) (h : f (r.getD j zeroT) ≠ p) : r.all (fun y => f y == p) = false := by
  rw [List.all_eq_false]
  refine ⟨r[j], List.getElem_mem hj, ?_⟩
  rw [List.getD_eq_getElem?_getD, List.getElem?_eq_getElem hj] at h
  simpa using h
def Comes (d : Nat) : Prop := ∀ (P : Nat → Prop) (t : Tr) (v : Value) (w : World), checkM d t = 0 → Tre w P v t →
  Calls Try.prog 83 #[v] w fun e w' => e = .returned (.int .i64 (ctM d t)) ∧ Below w.heap.size w w'
theorem comes_zero : Comes 0 := fun P t v w h => by cases h
set_option maxRecDepth 100000 in
set_option maxHeartbeats 1000000 in
theorem comes_succ (d : Nat) (ih : Comes d) : Comes (d + 1) := by
  intro P t v w hck hT
  have HT : Hid (Tre w P v t) := hT
  obtain ⟨a, cap, rfl, hcap, hk, hn, hnm, hlen, hkids⟩ := hT.opened
  have hs := shape hck
  by_cases e1 : t.kind = 1
  · rw [ctM_one (.inl e1), e1]
    generalize ba t.name = ts at *
    clear hkids HT hT
    go_enter Try.func83, Try.ntmps83
    go_wp2
    go_ret
    exact ⟨rfl, (Below.refl _ _).alloc (Nat.le_refl _) _⟩
  by_cases e2 : t.kind = 2
  · rw [ctM_one (.inr e2), e2]
    generalize ba t.name = ts at *
    clear hkids HT hT
    go_enter Try.func83, Try.ntmps83
    go_wp2
    go_ret
    exact ⟨rfl, (Below.refl _ _).alloc (Nat.le_refl _) _⟩
  by_cases e3 : t.kind = 3
  · rw [ctM_two (.inl e3), e3]
    generalize ba t.name = ts at *
    clear hkids HT hT
    go_enter Try.func83, Try.ntmps83
    go_wp2
    go_ret
    exact ⟨rfl, (Below.refl _ _).alloc (Nat.le_refl _) _⟩
  by_cases e4 : t.kind = 4
  · rw [ctM_two (.inr e4), e4]
    generalize ba t.name = ts at *
    clear hkids HT hT
    go_enter Try.func83, Try.ntmps83
    go_wp2
    go_ret
    exact ⟨rfl, (Below.refl _ _).alloc (Nat.le_refl _) _⟩
  obtain ⟨x, r, hxr, hx0, hr0⟩ : ∃ x r, t.kids = x :: r ∧ checkM d x = 0 ∧ ∀ y ∈ r, checkM d y = 0 := by
    have hl := hs.lo
    rcases hs.kids with ⟨h, _⟩ | ⟨_, x, h1, h2⟩ | ⟨_, x, y, h1, h2, h3⟩
    · omega
    · exact ⟨x, [], h1, h2, by simp⟩
    · exact ⟨x, [y], h1, h2, by simpa using h3⟩
  have HE : Hid (ctM (d + 1) t = if r.all (fun y => ctM d y == ctM d x) then sgM t.kind (ctM d x) else 0) := by
    unfold Hid
    conv => lhs; unfold ctM
    rw [if_neg (by omega), if_neg (by omega), hxr]
  have HI : Hid (∀ (y : Tr) (v : Value) (w : World), checkM d y = 0 → Tre w P v y → Calls Try.prog 83 #[v] w fun e w' => e = .returned (.int .i64 (ctM d y)) ∧ Below w.heap.size w w') := fun y v w h1 h2 => ih P y v w h1 h2
  rw [hxr] at hkids hcap hlen
  rw [hxr]
  have HK : Hid (∀ i, i < (x :: r).length → ∃ b o ka kc, KidAt w P a i ((x :: r).getD i zeroT) b o ka kc) := hkids
  have HR0 : Hid (∀ y ∈ r, checkM d y = 0) := hr0
  have HX0 : Hid (checkM d x = 0) := hx0
  have hpl := ctM_le d x
  have HSg : Hid (∀ w, Calls Try.prog 87 #[.int .i64 t.kind, .int .i64 (ctM d x)] w fun e w' => e = .returned (.int .i64 (sgM t.kind (ctM d x))) ∧ w' = w) := fun w => sign_any t.kind (ctM d x) hpl w
  generalize ctM (d + 1) t = res at *
  clear hkids hT ih hk hn hnm hs hck hxr hr0 hx0 HT
  generalize t.n = tn at *
  generalize ba t.name = ts at *
  generalize t.kind = tk at *
  simp only [List.length_cons] at hcap hlen ⊢
  obtain ⟨b, o, ka, kc, hKA⟩ := HK.out 0 (by simp)
  obtain ⟨rfl, k0, k1, k2, k3, hkt⟩ := hKA
  simp only [List.getD_cons_zero, Nat.zero_mul, Nat.add_zero] at k0 k1 k2 k3 hkt
  have hbl : b < w.heap.size := World.block_lt_of_cell? w _ k0
  have HKT : Hid (Tre w P (.agg #[.int .i64 x.kind, .int .i64 x.n, .string (ba x.name), .slice ka x.kids.length kc]) x) := hkt
  have HC : Hid (∀ w, Tre w P (.agg #[.int .i64 x.kind, .int .i64 x.n, .string (ba x.name), .slice ka x.kids.length kc]) x → Calls Try.prog 83 #[.agg #[.int .i64 x.kind, .int .i64 x.n, .string (ba x.name), .slice ka x.kids.length kc]] w fun e w' => e = .returned (.int .i64 (ctM d x)) ∧ Below w.heap.size w w') := fun w h => HI.out x _ w HX0.out h
  clear hkt
  generalize ctM d x = p at *
  generalize x.kind = xk at *
  generalize x.n = xn at *
  generalize ba x.name = xs at *
  generalize x.kids.length = xl at *
  by_cases hc1 : cap = 1
  · subst hc1
    obtain rfl : r = [] := List.length_eq_zero_iff.1 (by omega)
    go_enter Try.func83, Try.ntmps83
    go_wp2_with (go_at_call 83; refine (HC.out _ (HKT.out.alloc _)).mono ?_; rintro e w1 ⟨rfl, HB⟩; obtain ⟨q0, q1, q2, q3, q4⟩ := (Cell4.new w (.int .i64 tk) (.int .i64 tn) (.string ts) (.slice (some ⟨b, o, none⟩) 1 1) 69).below HB; have HB1 : Hid (Below w.heap.size w w1) := ((Below.refl _ _).alloc (Nat.le_refl _) _).trans (HB.mono (by rw [size_alloc]; omega)); have hl1 : w.heap.size < w1.heap.size := World.block_lt_of_cell? _ _ q0; clear HB)
    go_loopw [23] (fun v wr => v = .int .i64 0 ∧ w1 = wr) (fun _ _ => 0)
    case atStart => exact ⟨rfl, rfl⟩
    case round =>
      obtain ⟨rfl, rfl⟩ := hrel
      go_wp2_with (go_at_call 87; refine (HSg.out _).mono ?_; rintro e w4 ⟨rfl, rfl⟩)
      go_ret
      exact ⟨by rw [HE.out]; rfl, HB1.out⟩
  · go_enter Try.func83, Try.ntmps83
    go_wp2_with (go_at_call 83; refine (HC.out _ (HKT.out.alloc _)).mono ?_; rintro e w1 ⟨rfl, HB⟩; obtain ⟨q0, q1, q2, q3, q4⟩ := (Cell4.new w (.int .i64 tk) (.int .i64 tn) (.string ts) (.slice (some ⟨b, o, none⟩) (r.length + 1) cap) 69).below HB; have HB1 : Hid (Below w.heap.size w w1) := ((Below.refl _ _).alloc (Nat.le_refl _) _).trans (HB.mono (by rw [size_alloc]; omega)); have hl1 : w.heap.size < w1.heap.size := World.block_lt_of_cell? _ _ q0; clear HB)
    go_loopw [23] (fun v wr => ∃ (i : Nat), i ≤ r.length ∧ v = .int .i64 i ∧ Hid (Below w.heap.size w wr ∧ Cell4 wr w.heap.size (.int .i64 tk) (.int .i64 tn) (.string ts) (.slice (some ⟨b, o, none⟩) (r.length + 1) cap) ∧ ∀ j, j < i → ctM d (r.getD j zeroT) = p)) (fun v _ => r.length - (intOf v).toNat)
    case atStart => exact ⟨0, Nat.zero_le _, rfl, HB1.out, ⟨q0, q1, q2, q3, q4⟩, fun j hj => absurd hj (by omega)⟩
    case round =>
      obtain ⟨i, hi, rfl, HR⟩ := hrel
      by_cases hlt : i < r.length
      · obtain ⟨b2, o2, ka2, kc2, hKA2⟩ := HK.out (i + 1) (by simpa using hlt)
        have HKA : Hid (KidAt wr P (some ⟨b, o, none⟩) (i + 1) ((x :: r).getD (i + 1) zeroT) b2 o2 ka2 kc2) := hKA2.below HR.out.1
        have e := HKA.out.ad
        simp only [Option.some.injEq, Addr.mk.injEq, and_true] at e
        obtain ⟨rfl, rfl⟩ := e
        have HY0 : Hid (checkM d (r.getD i zeroT) = 0) := HR0.out _ (by rw [List.getD_eq_getElem?_getD, List.getElem?_eq_getElem hlt]; exact List.getElem_mem hlt)
        obtain ⟨_, m0, m1, m2, m3, hkt2⟩ := HKA.out
        simp only [List.getD_cons_succ] at m0 m1 m2 m3 hkt2
        rw [show o + (i + 1) * 4 = o + 4 + i * 4 by omega] at m0 m1 m2 m3
        have hbl2 : b < wr.heap.size := World.block_lt_of_cell? wr _ m0
        have HQ : Hid (∀ k, ctM d (r.getD i zeroT) = k → k = p → ∀ j, j < i + 1 → ctM d (r.getD j zeroT) = p) := fun k h1 h2 j hj => by
          rcases Nat.lt_succ_iff_lt_or_eq.1 hj with h | h
          · exact HR.out.2.2 j h
          · rw [h, h1, h2]
        have HQ2 : Hid (∀ k, ctM d (r.getD i zeroT) = k → k ≠ p → r.all (fun y => ctM d y == p) = false) := fun k h1 h2 => not_all_getD hlt (by rw [h1]; exact h2)
        have hyl := ctM_le d (r.getD i zeroT)
        have HKT2 : Hid (Tre wr P (.agg #[.int .i64 (r.getD i zeroT).kind, .int .i64 (r.getD i zeroT).n, .string (ba (r.getD i zeroT).name), .slice ka2 (r.getD i zeroT).kids.length kc2]) (r.getD i zeroT)) := hkt2
        have HC2 : Hid (∀ w, Tre w P (.agg #[.int .i64 (r.getD i zeroT).kind, .int .i64 (r.getD i zeroT).n, .string (ba (r.getD i zeroT).name), .slice ka2 (r.getD i zeroT).kids.length kc2]) (r.getD i zeroT) → Calls Try.prog 83 #[.agg #[.int .i64 (r.getD i zeroT).kind, .int .i64 (r.getD i zeroT).n, .string (ba (r.getD i zeroT).name), .slice ka2 (r.getD i zeroT).kids.length kc2]] w fun e w' => e = .returned (.int .i64 (ctM d (r.getD i zeroT))) ∧ Below w.heap.size w w') := fun w h => HI.out _ _ w HY0.out h
        obtain ⟨q0, q1, q2, q3, q4⟩ := HR.out.2.1
        clear hkt2 hKA2 HKA
        generalize hcy : ctM d (r.getD i zeroT) = y at *
        generalize (r.getD i zeroT).kind = yk at *
        generalize (r.getD i zeroT).n = yn at *
        generalize ba (r.getD i zeroT).name = ys at *
        generalize (r.getD i zeroT).kids.length = yl at *
        by_cases hyp : y = p
        · subst hyp
          go_wp2_with (go_at_call 83; refine (HC2.out _ (HKT2.out.alloc _)).mono ?_; rintro e w3 ⟨rfl, HB⟩; have HB3 : Hid (Below w.heap.size w w3 ∧ Cell4 w3 w.heap.size (.int .i64 tk) (.int .i64 tn) (.string ts) (.slice (some ⟨b, o, none⟩) (r.length + 1) cap)) := ⟨(HR.out.1.alloc HR.out.1.size _).trans (HB.mono (by rw [size_alloc]; have := HR.out.1.size; omega)), (HR.out.2.1.alloc _).below HB⟩; clear HB)
          go_roundw
          case rel => exact ⟨i + 1, by omega, by go_num, HB3.out.1, HB3.out.2, HQ.out y rfl rfl⟩
          case measure => simp [intOf]; omega
        · have hc1 : ((y : Int) != (p : Int)) = true := by simp; omega
          go_wp2_with (go_at_call 83; refine (HC2.out _ (HKT2.out.alloc _)).mono ?_; rintro e w3 ⟨rfl, HB⟩; have HB3 : Hid (Below w.heap.size w w3) := (HR.out.1.alloc HR.out.1.size _).trans (HB.mono (by rw [size_alloc]; have := HR.out.1.size; omega)); clear HB)
          go_ret
          refine ⟨?_, HB3.out⟩
          rw [HE.out, HQ2.out y rfl hyp]; rfl
      · have he : i = r.length := by omega
        subst he
        have HEa : Hid (r.all (fun y => ctM d y == p) = true) := all_getD HR.out.2.2
        obtain ⟨q0, q1, q2, q3, q4⟩ := HR.out.2.1
        have HB3 : Hid (Below w.heap.size w wr) := HR.out.1
        clear HR
        go_wp2_with (go_at_call 87; refine (HSg.out _).mono ?_; rintro e w4 ⟨rfl, rfl⟩)
        go_ret
        refine ⟨?_, HB3.out⟩
        rw [HE.out, HEa.out]; rfl
theorem comes_any : ∀ d, Comes d
  | 0 => comes_zero
  | d + 1 => comes_succ d (comes_any d)
def truthM (t : Tr) : Bool × Nat := if checkM 16 t ≠ 0 then (false, checkM 16 t) else if tyM 16 t = true then (truthK t.kind, 0) else (false, 7)
set_option maxRecDepth 100000 in
set_option maxHeartbeats 800000 in
theorem Truth_any (P : Nat → Prop) (t : Tr) (k n : Int) (s : ByteArray) (a : Option Addr) (l c : Nat) (w : World) (hT : Tre w P (.agg #[.int .i64 k, .int .i64 n, .string s, .slice a l c]) t) :
    Calls Try.prog 72 #[.agg #[.int .i64 k, .int .i64 n, .string s, .slice a l c]] w fun e w' => e = .returned (.tuple #[.bool (truthM t).1, .int .i64 (truthM t).2]) ∧ Below w.heap.size w w' := by
  have HC : Hid (∀ w, Tre w P (.agg #[.int .i64 k, .int .i64 n, .string s, .slice a l c]) t → Calls Try.prog 71 #[.agg #[.int .i64 k, .int .i64 n, .string s, .slice a l c]] w fun e w' => e = .returned (.int .i64 (checkM 16 t)) ∧ Below w.heap.size w w') := fun w h => Check_any P t k n s a l c w h
  have HT : Hid (Tre w P (.agg #[.int .i64 k, .int .i64 n, .string s, .slice a l c]) t) := hT
  clear hT
  by_cases h0 : checkM 16 t = 0
  · have HD : Hid (∀ w, Tre w P (.agg #[.int .i64 k, .int .i64 n, .string s, .slice a l c]) t → Calls Try.prog 83 #[.agg #[.int .i64 k, .int .i64 n, .string s, .slice a l c]] w fun e w' => e = .returned (.int .i64 (ctM 16 t)) ∧ Below w.heap.size w w') := fun w h => comes_any 16 P t _ w h0 h
    have he : truthM t = if tyM 16 t = true then (truthK t.kind, 0) else (false, 7) := by unfold truthM; rw [if_neg (by omega)]
    have hct := ct_ty 16 t h0
    rw [h0] at HC
    rw [he]
    cases hty : tyM 16 t with
    | false =>
      have hp : ((ctM 16 t : Nat) : Int) = 0 := by rw [hct, hty]; rfl
      rw [hp] at HD
      simp only [if_false, Bool.false_eq_true]
      go_enter Try.func72, Try.ntmps72
      go_wp2_with (first
        | (go_at_call 83; have := HB1; refine (HD.out _ ((HT.out.alloc _).below HB1.out)).mono ?_; rintro e w2 ⟨rfl, HB⟩; have HB2 : Hid (Below w.heap.size w w2) := (((Below.refl _ _).alloc (Nat.le_refl _) _).trans (HB1.out.mono (le_alloc _ _))).trans (HB.mono (Nat.le_trans (le_alloc _ _) HB1.out.size)); clear HB)
        | (go_at_call 71; refine (HC.out _ (HT.out.alloc _)).mono ?_; rintro e w1 ⟨rfl, HB⟩; have HB1 : Hid (Below _ _ w1) := HB; obtain ⟨q0, q1, q2, q3, q4⟩ := (Cell4.new w (.int .i64 k) (.int .i64 n) (.string s) (.slice a l c) 69).below HB; have hl1 : w.heap.size < w1.heap.size := World.block_lt_of_cell? _ _ q0; clear HB))
      go_ret2
      exact ⟨rfl, HB2.out⟩
    | true =>
      cases htk : truthK t.kind with
      | false =>
        have hp : ((ctM 16 t : Nat) : Int) = 1 := by rw [hct, hty, htk]; rfl
        rw [hp] at HD
        simp only [if_true]
        go_enter Try.func72, Try.ntmps72
        go_wp2_with (first
          | (go_at_call 83; have := HB1; refine (HD.out _ ((HT.out.alloc _).below HB1.out)).mono ?_; rintro e w2 ⟨rfl, HB⟩; have HB2 : Hid (Below w.heap.size w w2) := (((Below.refl _ _).alloc (Nat.le_refl _) _).trans (HB1.out.mono (le_alloc _ _))).trans (HB.mono (Nat.le_trans (le_alloc _ _) HB1.out.size)); clear HB)
          | (go_at_call 71; refine (HC.out _ (HT.out.alloc _)).mono ?_; rintro e w1 ⟨rfl, HB⟩; have HB1 : Hid (Below _ _ w1) := HB; obtain ⟨q0, q1, q2, q3, q4⟩ := (Cell4.new w (.int .i64 k) (.int .i64 n) (.string s) (.slice a l c) 69).below HB; have hl1 : w.heap.size < w1.heap.size := World.block_lt_of_cell? _ _ q0; clear HB))
        go_ret2
        exact ⟨rfl, HB2.out⟩
      | true =>
        have hp : ((ctM 16 t : Nat) : Int) = 2 := by rw [hct, hty, htk]; rfl
        rw [hp] at HD
        simp only [if_true]
        go_enter Try.func72, Try.ntmps72
        go_wp2_with (first
          | (go_at_call 83; have := HB1; refine (HD.out _ ((HT.out.alloc _).below HB1.out)).mono ?_; rintro e w2 ⟨rfl, HB⟩; have HB2 : Hid (Below w.heap.size w w2) := (((Below.refl _ _).alloc (Nat.le_refl _) _).trans (HB1.out.mono (le_alloc _ _))).trans (HB.mono (Nat.le_trans (le_alloc _ _) HB1.out.size)); clear HB)
          | (go_at_call 71; refine (HC.out _ (HT.out.alloc _)).mono ?_; rintro e w1 ⟨rfl, HB⟩; have HB1 : Hid (Below _ _ w1) := HB; obtain ⟨q0, q1, q2, q3, q4⟩ := (Cell4.new w (.int .i64 k) (.int .i64 n) (.string s) (.slice a l c) 69).below HB; have hl1 : w.heap.size < w1.heap.size := World.block_lt_of_cell? _ _ q0; clear HB))
        go_ret2
        exact ⟨rfl, HB2.out⟩
  · have he : truthM t = (false, checkM 16 t) := by unfold truthM; rw [if_pos h0]
    rw [he]
    have h1 : ((checkM 16 t : Int) != 0) = true := by simp; omega
    generalize checkM 16 t = ck at *
    go_enter Try.func72, Try.ntmps72
    go_wp2_with (go_at_call 71; refine (HC.out _ (HT.out.alloc _)).mono ?_; rintro e w1 ⟨rfl, HB⟩)
    go_ret2
    exact ⟨rfl, ((Below.refl _ _).alloc (Nat.le_refl _) _).trans (HB.mono (by rw [size_alloc]; omega))⟩
end
section
open Go.RowKit
set_option linter.unusedVariables false


theorem all_at {f : Tr → Bool} {r : List Tr} (h : ∀ j, j < r.length → f (r.getD j zeroT) = true) : r.all f = true := by
  rw [List.all_eq_true]
  intro x hx
  obtain ⟨j, hj, e⟩ := List.getElem_of_mem hx
  have := h j hj
  rw [List.getD_eq_getElem?_getD, List.getElem?_eq_getElem hj] at this
  simpa only [Option.getD_some, e] using this
theorem not_all_at {f : Tr → Bool} {r : List Tr} {j : Nat} (hj : j < r.length) (h : f (r.getD j zeroT) = false) : r.all f = false := by
  rw [List.all_eq_false]
  refine ⟨r[j], List.getElem_mem hj, ?_⟩
  rw [List.getD_eq_getElem?_getD, List.getElem?_eq_getElem hj] at h
  simpa using h
def Typed (d : Nat) : Prop := ∀ (P : Nat → Prop) (t : Tr) (v : Value) (w : World), checkM d t = 0 → Tre w P v t →
  Calls Try.prog 74 #[v] w fun e w' => e = .returned (.bool (tyM d t)) ∧ Below w.heap.size w w'
theorem typed_zero : Typed 0 := fun P t v w h => by cases h
set_option maxRecDepth 100000 in
set_option maxHeartbeats 1600000 in
theorem typed_succ (d : Nat) (ih : Typed d) : Typed (d + 1) := by
  intro P t v w hck hT
  obtain ⟨a, cap, rfl, hcap, hk, hn, hnm, hlen, hkids⟩ := hT.opened
  have hkd := (check_fits hck).2
  have HE : Hid (tyM (d + 1) t = t.kids.all fun x => tyM d x && fitK t x) := rfl
  have HI : Hid (∀ (y : Tr) (v : Value) (w : World), checkM d y = 0 → Tre w P v y → Calls Try.prog 74 #[v] w fun e w' => e = .returned (.bool (tyM d y)) ∧ Below w.heap.size w w') := fun y v w h1 h2 => ih P y v w h1 h2
  have HK : Hid (∀ i, i < t.kids.length → ∃ b o ka kc, KidAt w P a i (t.kids.getD i zeroT) b o ka kc) := hkids
  have HD : Hid (∀ y ∈ t.kids, checkM d y = 0) := hkd
  have HF : Hid (∀ x, fitK t x = if t.kind = 11 then truthK x.kind == truthK (t.kids.getD 0 zeroT).kind else truthK x.kind == wantT t.kind) := fun x => rfl
  have HTk : Hid (∀ (k : Int) w, Calls Try.prog 75 #[.int .i64 k] w fun e w' => e = .returned (.bool (truthK k)) ∧ w' = w) := truthK_any
  generalize fitK t = fit at *
  generalize tyM (d + 1) t = res at *
  clear hkids hT ih hk hn hnm hck hkd
  generalize t.n = tn at *
  generalize ba t.name = ts at *
  generalize t.kind = tk at *
  generalize t.kids = ks at *
  go_enter Try.func74, Try.ntmps74
  go_wp2_with fail
  have HB0 : Hid (Below w.heap.size w (w.alloc (.cells #[.int .i64 tk, .int .i64 tn, .string ts, .slice a ks.length cap] 69)) ∧ Cell4 (w.alloc (.cells #[.int .i64 tk, .int .i64 tn, .string ts, .slice a ks.length cap] 69)) w.heap.size (.int .i64 tk) (.int .i64 tn) (.string ts) (.slice a ks.length cap)) := ⟨(Below.refl _ _).alloc (Nat.le_refl _) _, Cell4.new _ _ _ _ _ 69⟩
  generalize w.alloc (.cells #[.int .i64 tk, .int .i64 tn, .string ts, .slice a ks.length cap] 69) = w1 at *
  go_loopw [3] (fun v wr => ∃ (i : Nat), i ≤ ks.length ∧ v = .int .i64 i ∧ Hid (Below w.heap.size w wr ∧ Cell4 wr w.heap.size (.int .i64 tk) (.int .i64 tn) (.string ts) (.slice a ks.length cap) ∧ ∀ j, j < i → (tyM d (ks.getD j zeroT) && fit (ks.getD j zeroT)) = true)) (fun v _ => ks.length - (intOf v).toNat)
  case atStart => exact ⟨0, Nat.zero_le _, rfl, HB0.out.1, HB0.out.2, fun j hj => absurd hj (by omega)⟩
  case round =>
    obtain ⟨i, hi, rfl, HR⟩ := hrel
    obtain ⟨q0, q1, q2, q3, q4⟩ := HR.out.2.1
    have hwl : w.heap.size < wr.heap.size := World.block_lt_of_cell? _ _ q0
    by_cases hlt : i < ks.length
    · obtain ⟨b, o, ka, kc, hKA⟩ := HK.out i hlt
      have HKA : Hid (KidAt wr P a i (ks.getD i zeroT) b o ka kc) := hKA.below HR.out.1
      obtain ⟨rfl, m0, m1, m2, m3, hkt⟩ := HKA.out
      have hbl : b < wr.heap.size := World.block_lt_of_cell? wr _ m0
      obtain ⟨b0, o0, ka0, kc0, hKB⟩ := HK.out 0 (by omega)
      have HKB : Hid (KidAt wr P (some ⟨b, o, none⟩) 0 (ks.getD 0 zeroT) b0 o0 ka0 kc0) := hKB.below HR.out.1
      have e := HKB.out.ad
      simp only [Option.some.injEq, Addr.mk.injEq, and_true] at e
      obtain ⟨rfl, rfl⟩ := e
      have z0 := HKB.out.c0
      simp only [Nat.zero_mul, Nat.add_zero] at z0
      have HY0 : Hid (checkM d (ks.getD i zeroT) = 0) := HD.out _ (by rw [List.getD_eq_getElem?_getD, List.getElem?_eq_getElem hlt]; exact List.getElem_mem hlt)
      have HKT : Hid (Tre wr P (.agg #[.int .i64 (ks.getD i zeroT).kind, .int .i64 (ks.getD i zeroT).n, .string (ba (ks.getD i zeroT).name), .slice ka (ks.getD i zeroT).kids.length kc]) (ks.getD i zeroT)) := hkt
      have HC : Hid (∀ w, Tre w P (.agg #[.int .i64 (ks.getD i zeroT).kind, .int .i64 (ks.getD i zeroT).n, .string (ba (ks.getD i zeroT).name), .slice ka (ks.getD i zeroT).kids.length kc]) (ks.getD i zeroT) → Calls Try.prog 74 #[.agg #[.int .i64 (ks.getD i zeroT).kind, .int .i64 (ks.getD i zeroT).n, .string (ba (ks.getD i zeroT).name), .slice ka (ks.getD i zeroT).kids.length kc]] w fun e w' => e = .returned (.bool (tyM d (ks.getD i zeroT))) ∧ Below w.heap.size w w') := fun w h => HI.out _ _ w HY0.out h
      have HW : Hid (Below w.heap.size w wr) := HR.out.1
      have HLo : Hid (Cell4 wr w.heap.size (.int .i64 tk) (.int .i64 tn) (.string ts) (.slice (some ⟨b, o, none⟩) ks.length cap) ∧ Cell4 wr w.heap.size (.int .i64 tk) (.int .i64 tn) (.string ts) (.slice (some ⟨b, o, none⟩) ks.length cap)) := ⟨HR.out.2.1, HR.out.2.1⟩
      have HYes : Hid ((tyM d (ks.getD i zeroT) && fit (ks.getD i zeroT)) = true → ∀ j, j < i + 1 → (tyM d (ks.getD j zeroT) && fit (ks.getD j zeroT)) = true) := fun h j hj => by
        rcases Nat.lt_succ_iff_lt_or_eq.1 hj with h2 | h2
        · exact HR.out.2.2 j h2
        · rw [h2]; exact h
      have HNo : Hid ((tyM d (ks.getD i zeroT) && fit (ks.getD i zeroT)) = false → res = false) := fun h => by rw [HE.out]; exact not_all_at (f := fun x => tyM d x && fit x) hlt h
      rw [HF.out (ks.getD i zeroT)] at HYes HNo
      have HM1 : Hid (wr.cell? ⟨b, o + i * 4, none⟩ = some (.int .i64 (ks.getD i zeroT).kind) ∧ wr.cell? ⟨b, o, none⟩ = some (.int .i64 (ks.getD 0 zeroT).kind)) := ⟨m0, z0⟩
      clear hkt hKA hKB HKA HKB HF
      clear HK HD HI
      generalize hty : tyM d (ks.getD i zeroT) = ty at *
      generalize (ks.getD i zeroT).kind = yk at *
      generalize (ks.getD i zeroT).n = yn at *
      generalize ba (ks.getD i zeroT).name = ys at *
      generalize (ks.getD i zeroT).kids.length = yl at *
      generalize ks.getD i zeroT = y at *
      generalize (ks.getD 0 zeroT).kind = zk at *
      cases ty with
      | false =>
        go_wp2_with (go_at_call 74; refine (HC.out _ HKT.out).mono ?_; rintro e w3 ⟨rfl, HB⟩; have HB3 : Hid (Below w.heap.size w w3) := HW.out.trans (HB.mono HW.out.size); obtain ⟨q0, q1, q2, q3, q4⟩ := HLo.out.1.below HB; have m0 := (HB.cell (p := ⟨b, o + i * 4, none⟩) hbl).trans HM1.out.1; have z0 := (HB.cell (p := ⟨b, o, none⟩) hbl).trans HM1.out.2; have hbl3 := Nat.lt_of_lt_of_le hbl HB.size; have hwl3 := Nat.lt_of_lt_of_le hwl HB.size; clear HB)
        go_ret
        exact ⟨by rw [HNo.out rfl]; rfl, HB3.out⟩
      | true =>
        by_cases h11 : tk = 11
        · rw [if_pos h11] at HYes HNo
          subst h11
          generalize hx1 : truthK yk = tx at *
          generalize hx2 : truthK zk = t0 at *
          have HT1 : Hid (∀ w, Calls Try.prog 75 #[.int .i64 yk] w fun e w' => e = .returned (.bool tx) ∧ w' = w) := fun w => by have := HTk.out yk w; rw [hx1] at this; exact this
          have HT2 : Hid (∀ w, Calls Try.prog 75 #[.int .i64 zk] w fun e w' => e = .returned (.bool t0) ∧ w' = w) := fun w => by have := HTk.out zk w; rw [hx2] at this; exact this
          clear HTk
          cases tx with
          | false =>
            cases t0 with
            | false =>
              go_wp2_with (first
                | (go_at_call 75; have := HS1; refine (HT2.out _).mono ?_; rintro e w3 ⟨rfl, rfl⟩)
                | (go_at_call 75; have := HB3; refine (HT1.out _).mono ?_; rintro e w3 ⟨rfl, rfl⟩; have HS1 : Hid True := trivial)
                | (go_at_call 74; refine (HC.out _ HKT.out).mono ?_; rintro e w3 ⟨rfl, HB⟩; have HB3 : Hid (Below w.heap.size w w3) := HW.out.trans (HB.mono HW.out.size); obtain ⟨q0, q1, q2, q3, q4⟩ := HLo.out.1.below HB; have m0 := (HB.cell (p := ⟨b, o + i * 4, none⟩) hbl).trans HM1.out.1; have z0 := (HB.cell (p := ⟨b, o, none⟩) hbl).trans HM1.out.2; have hbl3 := Nat.lt_of_lt_of_le hbl HB.size; have hwl3 := Nat.lt_of_lt_of_le hwl HB.size; clear HB))
              go_roundw
              case rel => exact ⟨i + 1, by omega, by go_num, HB3.out, ⟨q0, q1, q2, q3, q4⟩, HYes.out rfl⟩
              case measure => simp [intOf]; omega
            | true =>
              go_wp2_with (first
                | (go_at_call 75; have := HS1; refine (HT2.out _).mono ?_; rintro e w3 ⟨rfl, rfl⟩)
                | (go_at_call 75; have := HB3; refine (HT1.out _).mono ?_; rintro e w3 ⟨rfl, rfl⟩; have HS1 : Hid True := trivial)
                | (go_at_call 74; refine (HC.out _ HKT.out).mono ?_; rintro e w3 ⟨rfl, HB⟩; have HB3 : Hid (Below w.heap.size w w3) := HW.out.trans (HB.mono HW.out.size); obtain ⟨q0, q1, q2, q3, q4⟩ := HLo.out.1.below HB; have m0 := (HB.cell (p := ⟨b, o + i * 4, none⟩) hbl).trans HM1.out.1; have z0 := (HB.cell (p := ⟨b, o, none⟩) hbl).trans HM1.out.2; have hbl3 := Nat.lt_of_lt_of_le hbl HB.size; have hwl3 := Nat.lt_of_lt_of_le hwl HB.size; clear HB))
              go_ret
              exact ⟨by rw [HNo.out rfl]; rfl, HB3.out⟩
          | true =>
            cases t0 with
            | false =>
              go_wp2_with (first
                | (go_at_call 75; have := HS1; refine (HT2.out _).mono ?_; rintro e w3 ⟨rfl, rfl⟩)
                | (go_at_call 75; have := HB3; refine (HT1.out _).mono ?_; rintro e w3 ⟨rfl, rfl⟩; have HS1 : Hid True := trivial)
                | (go_at_call 74; refine (HC.out _ HKT.out).mono ?_; rintro e w3 ⟨rfl, HB⟩; have HB3 : Hid (Below w.heap.size w w3) := HW.out.trans (HB.mono HW.out.size); obtain ⟨q0, q1, q2, q3, q4⟩ := HLo.out.1.below HB; have m0 := (HB.cell (p := ⟨b, o + i * 4, none⟩) hbl).trans HM1.out.1; have z0 := (HB.cell (p := ⟨b, o, none⟩) hbl).trans HM1.out.2; have hbl3 := Nat.lt_of_lt_of_le hbl HB.size; have hwl3 := Nat.lt_of_lt_of_le hwl HB.size; clear HB))
              go_ret
              exact ⟨by rw [HNo.out rfl]; rfl, HB3.out⟩
            | true =>
              go_wp2_with (first
                | (go_at_call 75; have := HS1; refine (HT2.out _).mono ?_; rintro e w3 ⟨rfl, rfl⟩)
                | (go_at_call 75; have := HB3; refine (HT1.out _).mono ?_; rintro e w3 ⟨rfl, rfl⟩; have HS1 : Hid True := trivial)
                | (go_at_call 74; refine (HC.out _ HKT.out).mono ?_; rintro e w3 ⟨rfl, HB⟩; have HB3 : Hid (Below w.heap.size w w3) := HW.out.trans (HB.mono HW.out.size); obtain ⟨q0, q1, q2, q3, q4⟩ := HLo.out.1.below HB; have m0 := (HB.cell (p := ⟨b, o + i * 4, none⟩) hbl).trans HM1.out.1; have z0 := (HB.cell (p := ⟨b, o, none⟩) hbl).trans HM1.out.2; have hbl3 := Nat.lt_of_lt_of_le hbl HB.size; have hwl3 := Nat.lt_of_lt_of_le hwl HB.size; clear HB))
              go_roundw
              case rel => exact ⟨i + 1, by omega, by go_num, HB3.out, ⟨q0, q1, q2, q3, q4⟩, HYes.out rfl⟩
              case measure => simp [intOf]; omega
        · rw [if_neg h11] at HYes HNo
          generalize hx1 : truthK yk = tx at *
          have HT1 : Hid (∀ w, Calls Try.prog 75 #[.int .i64 yk] w fun e w' => e = .returned (.bool tx) ∧ w' = w) := fun w => by have := HTk.out yk w; rw [hx1] at this; exact this
          clear HTk
          by_cases h6 : tk = 6
          · subst h6
            cases tx with
            | false =>
              go_wp2_with (first
                | (go_at_call 75; have := HB3; refine (HT1.out _).mono ?_; rintro e w3 ⟨rfl, rfl⟩)
                | (go_at_call 74; refine (HC.out _ HKT.out).mono ?_; rintro e w3 ⟨rfl, HB⟩; have HB3 : Hid (Below w.heap.size w w3) := HW.out.trans (HB.mono HW.out.size); obtain ⟨q0, q1, q2, q3, q4⟩ := HLo.out.1.below HB; have m0 := (HB.cell (p := ⟨b, o + i * 4, none⟩) hbl).trans HM1.out.1; have z0 := (HB.cell (p := ⟨b, o, none⟩) hbl).trans HM1.out.2; have hbl3 := Nat.lt_of_lt_of_le hbl HB.size; have hwl3 := Nat.lt_of_lt_of_le hwl HB.size; clear HB))
              go_ret
              exact ⟨by rw [HNo.out rfl]; rfl, HB3.out⟩
            | true =>
              go_wp2_with (first
                | (go_at_call 75; have := HB3; refine (HT1.out _).mono ?_; rintro e w3 ⟨rfl, rfl⟩)
                | (go_at_call 74; refine (HC.out _ HKT.out).mono ?_; rintro e w3 ⟨rfl, HB⟩; have HB3 : Hid (Below w.heap.size w w3) := HW.out.trans (HB.mono HW.out.size); obtain ⟨q0, q1, q2, q3, q4⟩ := HLo.out.1.below HB; have m0 := (HB.cell (p := ⟨b, o + i * 4, none⟩) hbl).trans HM1.out.1; have z0 := (HB.cell (p := ⟨b, o, none⟩) hbl).trans HM1.out.2; have hbl3 := Nat.lt_of_lt_of_le hbl HB.size; have hwl3 := Nat.lt_of_lt_of_le hwl HB.size; clear HB))
              go_roundw
              case rel => exact ⟨i + 1, by omega, by go_num, HB3.out, ⟨q0, q1, q2, q3, q4⟩, HYes.out rfl⟩
              case measure => simp [intOf]; omega
          · by_cases h13 : tk = 13
            · subst h13
              cases tx with
              | false =>
                go_wp2_with (first
                  | (go_at_call 75; have := HB3; refine (HT1.out _).mono ?_; rintro e w3 ⟨rfl, rfl⟩)
                  | (go_at_call 74; refine (HC.out _ HKT.out).mono ?_; rintro e w3 ⟨rfl, HB⟩; have HB3 : Hid (Below w.heap.size w w3) := HW.out.trans (HB.mono HW.out.size); obtain ⟨q0, q1, q2, q3, q4⟩ := HLo.out.1.below HB; have m0 := (HB.cell (p := ⟨b, o + i * 4, none⟩) hbl).trans HM1.out.1; have z0 := (HB.cell (p := ⟨b, o, none⟩) hbl).trans HM1.out.2; have hbl3 := Nat.lt_of_lt_of_le hbl HB.size; have hwl3 := Nat.lt_of_lt_of_le hwl HB.size; clear HB))
                go_ret
                exact ⟨by rw [HNo.out rfl]; rfl, HB3.out⟩
              | true =>
                go_wp2_with (first
                  | (go_at_call 75; have := HB3; refine (HT1.out _).mono ?_; rintro e w3 ⟨rfl, rfl⟩)
                  | (go_at_call 74; refine (HC.out _ HKT.out).mono ?_; rintro e w3 ⟨rfl, HB⟩; have HB3 : Hid (Below w.heap.size w w3) := HW.out.trans (HB.mono HW.out.size); obtain ⟨q0, q1, q2, q3, q4⟩ := HLo.out.1.below HB; have m0 := (HB.cell (p := ⟨b, o + i * 4, none⟩) hbl).trans HM1.out.1; have z0 := (HB.cell (p := ⟨b, o, none⟩) hbl).trans HM1.out.2; have hbl3 := Nat.lt_of_lt_of_le hbl HB.size; have hwl3 := Nat.lt_of_lt_of_le hwl HB.size; clear HB))
                go_roundw
                case rel => exact ⟨i + 1, by omega, by go_num, HB3.out, ⟨q0, q1, q2, q3, q4⟩, HYes.out rfl⟩
                case measure => simp [intOf]; omega
            · by_cases h14 : tk = 14
              · subst h14
                cases tx with
                | false =>
                  go_wp2_with (first
                    | (go_at_call 75; have := HB3; refine (HT1.out _).mono ?_; rintro e w3 ⟨rfl, rfl⟩)
                    | (go_at_call 74; refine (HC.out _ HKT.out).mono ?_; rintro e w3 ⟨rfl, HB⟩; have HB3 : Hid (Below w.heap.size w w3) := HW.out.trans (HB.mono HW.out.size); obtain ⟨q0, q1, q2, q3, q4⟩ := HLo.out.1.below HB; have m0 := (HB.cell (p := ⟨b, o + i * 4, none⟩) hbl).trans HM1.out.1; have z0 := (HB.cell (p := ⟨b, o, none⟩) hbl).trans HM1.out.2; have hbl3 := Nat.lt_of_lt_of_le hbl HB.size; have hwl3 := Nat.lt_of_lt_of_le hwl HB.size; clear HB))
                  go_ret
                  exact ⟨by rw [HNo.out rfl]; rfl, HB3.out⟩
                | true =>
                  go_wp2_with (first
                    | (go_at_call 75; have := HB3; refine (HT1.out _).mono ?_; rintro e w3 ⟨rfl, rfl⟩)
                    | (go_at_call 74; refine (HC.out _ HKT.out).mono ?_; rintro e w3 ⟨rfl, HB⟩; have HB3 : Hid (Below w.heap.size w w3) := HW.out.trans (HB.mono HW.out.size); obtain ⟨q0, q1, q2, q3, q4⟩ := HLo.out.1.below HB; have m0 := (HB.cell (p := ⟨b, o + i * 4, none⟩) hbl).trans HM1.out.1; have z0 := (HB.cell (p := ⟨b, o, none⟩) hbl).trans HM1.out.2; have hbl3 := Nat.lt_of_lt_of_le hbl HB.size; have hwl3 := Nat.lt_of_lt_of_le hwl HB.size; clear HB))
                  go_roundw
                  case rel => exact ⟨i + 1, by omega, by go_num, HB3.out, ⟨q0, q1, q2, q3, q4⟩, HYes.out rfl⟩
                  case measure => simp [intOf]; omega
              · have hwt : wantT tk = false := by unfold wantT; simp; omega
                rw [hwt] at HYes HNo
                have hb6 : (tk == 6) = false := by simpa using h6
                have hb13 : (tk == 13) = false := by simpa using h13
                have hb14 : (tk == 14) = false := by simpa using h14
                have hb11 : (tk == 11) = false := by simpa using h11
                clear h6 h13 h14 h11
                cases tx with
                | false =>
                  go_wp2_with (first
                    | (go_at_call 75; have := HB3; refine (HT1.out _).mono ?_; rintro e w3 ⟨rfl, rfl⟩)
                    | (go_at_call 74; refine (HC.out _ HKT.out).mono ?_; rintro e w3 ⟨rfl, HB⟩; have HB3 : Hid (Below w.heap.size w w3) := HW.out.trans (HB.mono HW.out.size); obtain ⟨q0, q1, q2, q3, q4⟩ := HLo.out.1.below HB; have m0 := (HB.cell (p := ⟨b, o + i * 4, none⟩) hbl).trans HM1.out.1; have z0 := (HB.cell (p := ⟨b, o, none⟩) hbl).trans HM1.out.2; have hbl3 := Nat.lt_of_lt_of_le hbl HB.size; have hwl3 := Nat.lt_of_lt_of_le hwl HB.size; clear HB))
                  go_roundw
                  case rel => exact ⟨i + 1, by omega, by go_num, HB3.out, ⟨q0, q1, q2, q3, q4⟩, HYes.out rfl⟩
                  case measure => simp [intOf]; omega
                | true =>
                  go_wp2_with (first
                    | (go_at_call 75; have := HB3; refine (HT1.out _).mono ?_; rintro e w3 ⟨rfl, rfl⟩)
                    | (go_at_call 74; refine (HC.out _ HKT.out).mono ?_; rintro e w3 ⟨rfl, HB⟩; have HB3 : Hid (Below w.heap.size w w3) := HW.out.trans (HB.mono HW.out.size); obtain ⟨q0, q1, q2, q3, q4⟩ := HLo.out.1.below HB; have m0 := (HB.cell (p := ⟨b, o + i * 4, none⟩) hbl).trans HM1.out.1; have z0 := (HB.cell (p := ⟨b, o, none⟩) hbl).trans HM1.out.2; have hbl3 := Nat.lt_of_lt_of_le hbl HB.size; have hwl3 := Nat.lt_of_lt_of_le hwl HB.size; clear HB))
                  go_ret
                  exact ⟨by rw [HNo.out rfl]; rfl, HB3.out⟩
    · have he : i = ks.length := by omega
      subst he
      have HEa : Hid (res = true) := by unfold Hid; rw [HE.out]; exact all_at (f := fun x => tyM d x && fit x) HR.out.2.2
      have HB3 : Hid (Below w.heap.size w wr) := HR.out.1
      clear HR
      go_wp2
      go_ret
      exact ⟨by rw [HEa.out]; rfl, HB3.out⟩
theorem typed_any : ∀ d, Typed d
  | 0 => typed_zero
  | d + 1 => typed_succ d (typed_any d)
set_option maxRecDepth 100000 in
set_option maxHeartbeats 800000 in
theorem RTruth_any (P : Nat → Prop) (t : Tr) (n : Int) (s : ByteArray) (a : Option Addr) (l c : Nat) (w : World) (hT : Tre w P (.agg #[.int .i64 t.kind, .int .i64 n, .string s, .slice a l c]) t) :
    Calls Try.prog 59 #[.agg #[.int .i64 t.kind, .int .i64 n, .string s, .slice a l c]] w fun e w' => e = .returned (.tuple #[.bool (truthM t).1, .int .i64 (truthM t).2]) ∧ Below w.heap.size w w' := by
  have HC : Hid (∀ w, Tre w P (.agg #[.int .i64 t.kind, .int .i64 n, .string s, .slice a l c]) t → Calls Try.prog 73 #[.agg #[.int .i64 t.kind, .int .i64 n, .string s, .slice a l c]] w fun e w' => e = .returned (.int .i64 (checkM 16 t)) ∧ Below w.heap.size w w') := fun w h => RCheck_any P t t.kind n s a l c w h
  have HT : Hid (Tre w P (.agg #[.int .i64 t.kind, .int .i64 n, .string s, .slice a l c]) t) := hT
  have HK : Hid (∀ w, Calls Try.prog 75 #[.int .i64 t.kind] w fun e w' => e = .returned (.bool (truthK t.kind)) ∧ w' = w) := truthK_any t.kind
  clear hT
  by_cases h0 : checkM 16 t = 0
  · have HD : Hid (∀ w, Tre w P (.agg #[.int .i64 t.kind, .int .i64 n, .string s, .slice a l c]) t → Calls Try.prog 74 #[.agg #[.int .i64 t.kind, .int .i64 n, .string s, .slice a l c]] w fun e w' => e = .returned (.bool (tyM 16 t)) ∧ Below w.heap.size w w') := fun w h => typed_any 16 P t _ w h0 h
    have he : truthM t = if tyM 16 t = true then (truthK t.kind, 0) else (false, 7) := by unfold truthM; rw [if_neg (by omega)]
    rw [h0] at HC
    rw [he]
    generalize truthK t.kind = tk at *
    generalize t.kind = k at *
    cases hty : tyM 16 t with
    | false =>
      rw [hty] at HD
      simp only [if_false, Bool.false_eq_true]
      go_enter Try.func59, Try.ntmps59
      go_wp2_with (first
        | (go_at_call 74; have := HB1; refine (HD.out _ ((HT.out.alloc _).below HB1.out)).mono ?_; rintro e w2 ⟨rfl, HB⟩; have HB2 : Hid (Below w.heap.size w w2) := (((Below.refl _ _).alloc (Nat.le_refl _) _).trans (HB1.out.mono (le_alloc _ _))).trans (HB.mono (Nat.le_trans (le_alloc _ _) HB1.out.size)); clear HB)
        | (go_at_call 73; refine (HC.out _ (HT.out.alloc _)).mono ?_; rintro e w1 ⟨rfl, HB⟩; have HB1 : Hid (Below _ _ w1) := HB; obtain ⟨q0, q1, q2, q3, q4⟩ := (Cell4.new w (.int .i64 k) (.int .i64 n) (.string s) (.slice a l c) 69).below HB; have hl1 : w.heap.size < w1.heap.size := World.block_lt_of_cell? _ _ q0; clear HB))
      go_ret2
      exact ⟨rfl, HB2.out⟩
    | true =>
      rw [hty] at HD
      simp only [if_true]
      go_enter Try.func59, Try.ntmps59
      go_wp2_with (first
        | (go_at_call 75; refine (HK.out _).mono ?_; rintro e w2 ⟨rfl, rfl⟩)
        | (go_at_call 74; have := HB1; refine (HD.out _ ((HT.out.alloc _).below HB1.out)).mono ?_; rintro e w2 ⟨rfl, HB⟩; have HB2 : Hid (Below w.heap.size w w2) := (((Below.refl _ _).alloc (Nat.le_refl _) _).trans (HB1.out.mono (le_alloc _ _))).trans (HB.mono (Nat.le_trans (le_alloc _ _) HB1.out.size)); obtain ⟨q0, q1, q2, q3, q4⟩ := (Cell4.mk q0 q1 q2 q3 q4).below HB; clear HB)
        | (go_at_call 73; refine (HC.out _ (HT.out.alloc _)).mono ?_; rintro e w1 ⟨rfl, HB⟩; have HB1 : Hid (Below _ _ w1) := HB; obtain ⟨q0, q1, q2, q3, q4⟩ := (Cell4.new w (.int .i64 k) (.int .i64 n) (.string s) (.slice a l c) 69).below HB; have hl1 : w.heap.size < w1.heap.size := World.block_lt_of_cell? _ _ q0; clear HB))
      go_ret2
      exact ⟨rfl, HB2.out⟩
  · have he : truthM t = (false, checkM 16 t) := by unfold truthM; rw [if_pos h0]
    rw [he]
    have h1 : ((checkM 16 t : Int) != 0) = true := by simp; omega
    generalize checkM 16 t = ck at *
    generalize t.kind = k at *
    go_enter Try.func59, Try.ntmps59
    go_wp2_with (go_at_call 73; refine (HC.out _ (HT.out.alloc _)).mono ?_; rintro e w1 ⟨rfl, HB⟩)
    go_ret2
    exact ⟨rfl, ((Below.refl _ _).alloc (Nat.le_refl _) _).trans (HB.mono (by rw [size_alloc]; omega))⟩
end
end Go.Proofs.Ytlaiacjlphjmlaa
