/-
  Where a text's words can't go on: the document's scan, and the reader, come to the same.
-/
import Derived.Test.YtlfeejjlcclbdaaGreatDoorSide
import Derived.Test.YtlfeejjlcclbdaaGreatDoorWordy
namespace Go.Proofs.YtlfeejjlcclbdaaGreatDoor
set_option linter.unusedVariables false


/-- What is open: how deep, and the levels, the last one first. -/
abbrev Op1 := Nat × List Nat
def isW (x : W) (c : UInt8) : Bool := decide (x.kind = 3) && decide (x.text = [c])
def levW (x : W) : Nat := rowK (kindW x)
/-- The levels that are not above k. -/
def popK (k : Nat) : List Nat → List Nat
  | [] => []
  | x :: r => if k < x then popK k r else x :: r
def headIs (k : Nat) : List Nat → Bool
  | [] => false
  | x :: _ => decide (x = k)
def pushK (k : Nat) (l : List Nat) : List Nat := if headIs k (popK k l) then popK k l else k :: popK k l
/-- The fault and the words from there on; none: there is no fault. -/
def scanM : List W → Op1 → List Op1 → Nat → Bool → Option (Nat × List W)
  | [], top, st, un, true => if 16 < top.1 + top.2.length + un then some (6, []) else some (3, [])
  | [], top, st, un, false => if st = [] then none else some (3, [])
  | x :: r, top, st, un, true =>
    if 16 < top.1 + top.2.length + un then some (6, x :: r)
    else if isW x 45 || isW x 33 then scanM r top st (un + 1) true
    else if isW x 40 then scanM r (top.1 + top.2.length + un + 1, []) (top :: st) 0 true
    else if x.kind = 1 ∨ x.kind = 2 then scanM r top st 0 false
    else some (3, x :: r)
  | x :: r, top, st, un, false =>
    if isW x 41 && !st.isEmpty then scanM r (st.headD (0, [])) st.tail 0 false
    else if levW x = 6 ∨ headIs (levW x) (popK (levW x) top.2) = true ∧ levW x = 3 then some (3, x :: r)
    else scanM r (top.1, pushK (levW x) top.2) st 0 true
def scanE (en : Nat) (ws : List W) : Nat × Nat :=
  match scanM ws (1, []) [] 0 true with
  | some (e, q) => (e, atW en q)
  | none => (0, 0)
theorem levW_six {x : W} (h : kindW x = 0) : levW x = 6 := by unfold levW; rw [h]; rfl
theorem levW_le {x : W} (h : kindW x ≠ 0) : 1 ≤ levW x ∧ levW x ≤ 5 := by
  have := nextK_range [x]
  have h2 : nextK [x] = kindW x := rfl
  rw [h2] at this
  exact rowK_le (kindW x) h (by omega) (by omega)
theorem isW_kind {x : W} {c : UInt8} (h : isW x c = true) : x.kind = 3 ∧ x.text = [c] := by
  unfold isW at h
  simp only [Bool.and_eq_true, decide_eq_true_eq] at h
  exact h
theorem isW_eq {x : W} (c : UInt8) (hk : x.kind = 3) : isW x c = decide (x.text = [c]) := by
  unfold isW; rw [decide_eq_true hk, Bool.true_and]
theorem kindW_shut {x : W} (h : isW x 41 = true) : kindW x = 0 := by
  obtain ⟨h1, h2⟩ := isW_kind h
  unfold kindW
  rw [if_pos h1, h2]; rfl
/-- Levels that the next sign does not meet play no part. -/
theorem scan_pop (k : Nat) (ws : List W) (D : Nat) (lv : List Nat) (st : List Op1) (h : nextK ws = 0 ∨ rowK (nextK ws) < k) : scanM ws (D, k :: lv) st 0 false = scanM ws (D, lv) st 0 false := by
  cases ws with
  | nil => rfl
  | cons x r =>
    have hx : kindW x = 0 ∨ levW x < k := h
    unfold scanM
    by_cases h41 : (isW x 41 && !st.isEmpty) = true
    · rw [if_pos h41, if_pos h41]
    · rw [if_neg h41, if_neg h41]
      by_cases h0 : kindW x = 0
      · rw [if_pos (.inl (levW_six h0)), if_pos (.inl (levW_six h0))]
      · have hk : levW x < k := by rcases hx with h | h; exact absurd h h0; exact h
        have hp : popK (levW x) (k :: lv) = popK (levW x) lv := if_pos hk
        show (if levW x = 6 ∨ headIs (levW x) (popK (levW x) (k :: lv)) = true ∧ levW x = 3 then some (3, x :: r) else scanM r (D, pushK (levW x) (k :: lv)) st 0 true) = _
        unfold pushK
        rw [hp]
theorem popK_lt {k : Nat} {lv : List Nat} (h : ∀ x ∈ lv, x < k) : popK k lv = lv := by
  cases lv with
  | nil => rfl
  | cons x r => exact if_neg (by have := h x (List.mem_cons_self ..); omega)
theorem headIs_lt {k : Nat} {lv : List Nat} (h : ∀ x ∈ lv, x < k) : headIs k lv = false := by
  cases lv with
  | nil => rfl
  | cons x r => exact decide_eq_false (by have := h x (List.mem_cons_self ..); omega)
def curL (last : Nat) (lv : List Nat) : List Nat := if last = 6 then lv else last :: lv
theorem curL_six (lv : List Nat) : curL 6 lv = lv := rfl
theorem curL_ne {last : Nat} (h : last ≠ 6) (lv : List Nat) : curL last lv = last :: lv := if_neg h
def Agree (R : Res) (a : Option (Nat × List W)) (b : List W → Option (Nat × List W)) (p : List W → Prop) : Prop :=
  match R with
  | .error (e, q) => a = some (e, q)
  | .ok (t, r) => a = b r ∧ p r
theorem loop_scan {d : Nat} (hs : ∀ (row : Nat) (ws : List W) (D : Nat) (lv : List Nat) (st : List Op1), 1 ≤ row → row ≤ 6 → D + lv.length + d = 17 → (∀ x ∈ lv, x < row) → (∀ x ∈ ws, Wd x) → Agree (sdM d row ws) (scanM ws (D, lv) st 0 true) (fun r => scanM r (D, lv) st 0 false) (fun r => nextK r = 0 ∨ rowK (nextK r) < row))
    (row : Nat) (h1 : 1 ≤ row) (h6 : row ≤ 6) : ∀ (F last : Nat) (x : Tr) (ws : List W) (D : Nat) (lv : List Nat) (st : List Op1), ws.length < F → D + lv.length + 1 + d = 17 → (∀ x ∈ lv, x < row) → (∀ x ∈ ws, Wd x) → row ≤ last → last ≤ 6 → (last = 6 ∨ nextK ws = 0 ∨ rowK (nextK ws) ≤ last) →
      Agree (loopM (sdM d) row F last x ws) (scanM ws (D, curL last lv) st 0 false) (fun r => scanM r (D, lv) st 0 false) (fun r => nextK r = 0 ∨ rowK (nextK r) < row)
  | 0, _, _, _, _, _, _, h, _, _, _, _, _, _ => by omega
  | F + 1, last, x, ws, D, lv, st, hF, hD, hlv, hwd, hl1, hl6, hlast => by
    rw [loopM_succ]
    by_cases ha : nextK ws = 0 ∨ rowK (nextK ws) < row
    · rw [if_pos ha]
      refine ⟨?_, ha⟩
      by_cases hl : last = 6
      · rw [hl, curL_six]
      · rw [curL_ne hl]
        exact scan_pop last ws D lv st (by rcases ha with h | h; exact .inl h; exact .inr (by omega))
    · rw [if_neg ha]
      have h0 : nextK ws ≠ 0 := fun h => ha (.inl h)
      have hrow : ¬ rowK (nextK ws) < row := fun h => ha (.inr h)
      cases ws with
      | nil => exact absurd rfl h0
      | cons v q =>
        have hk : kindW v ≠ 0 := h0
        have hlev : levW v = rowK (nextK (v :: q)) := rfl
        obtain ⟨hv1, hv5⟩ := levW_le hk
        have hlvk : ∀ x ∈ lv, x < levW v := fun y hy => by have := hlv y hy; rw [hlev]; omega
        have hle : last = 6 ∨ levW v ≤ last := by rcases hlast with h | h | h; exact .inl h; exact absurd h h0; exact .inr h
        have h41 : (isW v 41 && !st.isEmpty) = false := by
          cases h : isW v 41 with
          | false => rfl
          | true => exact absurd (kindW_shut h) hk
        rw [← hlev]
        -- the levels behind the popping
        have hpop : (levW v = last ∧ last ≠ 6 ∧ popK (levW v) (curL last lv) = last :: lv) ∨ (levW v ≠ last ∧ popK (levW v) (curL last lv) = lv) := by
          by_cases hl : last = 6
          · right
            refine ⟨by omega, ?_⟩
            rw [hl, curL_six]
            exact popK_lt hlvk
          · rw [curL_ne hl]
            by_cases he : levW v = last
            · left
              refine ⟨he, hl, ?_⟩
              show (if levW v < last then _ else _) = _
              rw [if_neg (by omega)]
            · right
              refine ⟨he, ?_⟩
              show (if levW v < last then popK (levW v) lv else last :: lv) = lv
              rw [if_pos (by rcases hle with h | h; exact absurd h hl; omega)]
              exact popK_lt hlvk
        have hstep : scanM (v :: q) (D, curL last lv) st 0 false = if levW v = 6 ∨ headIs (levW v) (popK (levW v) (curL last lv)) = true ∧ levW v = 3 then some (3, v :: q) else scanM q (D, pushK (levW v) (curL last lv)) st 0 true := by
          rw [scanM, if_neg (by rw [h41]; decide)]
        by_cases h2 : levW v = 3 ∧ last = 3
        · rw [if_pos h2]
          show scanM (v :: q) (D, curL last lv) st 0 false = some (3, v :: q)
          rw [hstep, if_pos]
          right
          rcases hpop with ⟨a, b, c⟩ | ⟨a, b⟩
          · rw [c]; exact ⟨decide_eq_true a.symm, h2.1⟩
          · exact absurd (h2.1.trans h2.2.symm) a
        · rw [if_neg h2, List.tail_cons]
          have hpush : pushK (levW v) (curL last lv) = levW v :: lv := by
            unfold pushK
            rcases hpop with ⟨a, b, c⟩ | ⟨a, b⟩
            · rw [c, show headIs (levW v) (last :: lv) = true from decide_eq_true a.symm, if_pos rfl, a]
            · rw [b, headIs_lt hlvk, if_neg (by decide)]
          have hno : ¬ (levW v = 6 ∨ headIs (levW v) (popK (levW v) (curL last lv)) = true ∧ levW v = 3) := by
            rintro (h | ⟨h, h3⟩)
            · omega
            · rcases hpop with ⟨a, b, c⟩ | ⟨a, b⟩
              · exact h2 ⟨h3, by omega⟩
              · rw [b, headIs_lt hlvk] at h; cases h
          rw [if_neg hno, hpush] at hstep
          rw [hstep]
          have hd := hs (levW v + 1) q D (levW v :: lv) st (by omega) (by omega) (by simp; omega) (fun y hy => by rcases List.mem_cons.1 hy with rfl | hy; omega; have := hlvk y hy; omega) (fun y hy => hwd y (List.mem_cons_of_mem _ hy))
          have hE := (pr_eats d).2 (levW v + 1) q
          cases hq : sdM d (levW v + 1) q with
          | error y => rw [hq] at hd; obtain ⟨y, r⟩ := y; exact hd
          | ok y =>
            obtain ⟨y, r⟩ := y
            rw [hq] at hd hE
            obtain ⟨hd1, hd2⟩ := hd
            obtain ⟨⟨pp, hpp⟩, hlen⟩ := hE
            show Agree (loopM (sdM d) row F (levW v) ⟨nextK (v :: q), 0, [], [x, y]⟩ r) _ _ _
            have e : scanM q (D, levW v :: lv) st 0 true = scanM r (D, curL (levW v) lv) st 0 false := by rw [hd1, curL_ne (by omega)]
            rw [e]
            exact loop_scan hs row h1 h6 F (levW v) _ r D lv st (by simp at hF; omega) hD hlv (fun y hy => hwd y (by rw [hpp]; simp [hy])) (by omega) (by omega) (.inr (by rcases hd2 with h | h; exact .inl h; exact .inr (by omega)))
theorem Wd.sign {x : W} (h : Wd x) (h1 : ¬ x.kind = 1) (h2 : ¬ x.kind = 2) : x.kind = 3 := by
  rcases h with ⟨h, _⟩ | ⟨h, _⟩ | ⟨h, _⟩
  · exact absurd h h1
  · exact absurd h h2
  · exact h
theorem Wd.shut {x : W} (h : Wd x) (ht : x.text = [41]) : x.kind = 3 := by
  rcases h with ⟨_, h, _⟩ | ⟨_, h, _⟩ | ⟨h, _⟩
  · rw [ht] at h; cases h
  · rw [ht] at h; exact absurd h (by decide)
  · exact h
theorem isW_no {x : W} {c : UInt8} (h : x.kind ≠ 3) : isW x c = false := by unfold isW; rw [decide_eq_false h]; rfl
theorem pr_scan : ∀ d, (∀ (ws : List W) (D un : Nat) (lv : List Nat) (st : List Op1), D + lv.length + un + d = 17 → (∀ x ∈ ws, Wd x) → Agree (operandM d ws) (scanM ws (D, lv) st un true) (fun r => scanM r (D, lv) st 0 false) (fun _ => True)) ∧
    (∀ (row : Nat) (ws : List W) (D : Nat) (lv : List Nat) (st : List Op1), 1 ≤ row → row ≤ 6 → D + lv.length + d = 17 → (∀ x ∈ lv, x < row) → (∀ x ∈ ws, Wd x) → Agree (sdM d row ws) (scanM ws (D, lv) st 0 true) (fun r => scanM r (D, lv) st 0 false) (fun r => nextK r = 0 ∨ rowK (nextK r) < row))
  | 0 => by
    have h : ∀ (ws : List W) (D un : Nat) (lv : List Nat) (st : List Op1), D + lv.length + un = 17 → scanM ws (D, lv) st un true = some (6, ws) := fun ws D un lv st hd => by
      cases ws with
      | nil => exact if_pos (by show 16 < D + lv.length + un; omega)
      | cons x r => exact if_pos (by show 16 < D + lv.length + un; omega)
    exact ⟨fun ws D un lv st hd _ => h ws D un lv st hd, fun row ws D lv st _ _ hd _ _ => h ws D 0 lv st hd⟩
  | d + 1 => by
    obtain ⟨ih1, ih2⟩ := pr_scan d
    have ho : ∀ (ws : List W) (D un : Nat) (lv : List Nat) (st : List Op1), D + lv.length + un + (d + 1) = 17 → (∀ x ∈ ws, Wd x) → Agree (operandM (d + 1) ws) (scanM ws (D, lv) st un true) (fun r => scanM r (D, lv) st 0 false) (fun _ => True) := by
      intro ws D un lv st hd hwd
      have hd16 : ¬ 16 < D + lv.length + un := by omega
      rw [operandM_succ]
      cases ws with
      | nil =>
        show scanM [] (D, lv) st un true = some (3, [])
        rw [scanM]
        exact if_neg hd16
      | cons x q =>
        have hwx := hwd x (List.mem_cons_self ..)
        have hwq : ∀ y ∈ q, Wd y := fun y hy => hwd y (List.mem_cons_of_mem _ hy)
        have hs : scanM (x :: q) (D, lv) st un true = if isW x 45 || isW x 33 then scanM q (D, lv) st (un + 1) true else if isW x 40 then scanM q (D + lv.length + un + 1, []) ((D, lv) :: st) 0 true else if x.kind = 1 ∨ x.kind = 2 then scanM q (D, lv) st 0 false else some (3, x :: q) := by
          rw [scanM]
          exact if_neg hd16
        rw [opM_cons, hs]
        by_cases k1 : x.kind = 1
        · rw [if_pos k1, isW_no (by omega), isW_no (by omega), isW_no (by omega)]
          simp only [Bool.or_self, Bool.false_eq_true, if_false]
          rw [if_pos (.inl k1)]
          exact ⟨rfl, trivial⟩
        rw [if_neg k1]
        by_cases k2 : x.kind = 2
        · rw [if_pos k2, isW_no (by omega), isW_no (by omega), isW_no (by omega)]
          simp only [Bool.or_self, Bool.false_eq_true, if_false]
          rw [if_pos (.inr k2)]
          exact ⟨rfl, trivial⟩
        rw [if_neg k2]
        have hk := hwx.sign k1 k2
        have hw : ∀ k, Agree (wrapM k (operandM d q)) (scanM q (D, lv) st (un + 1) true) (fun r => scanM r (D, lv) st 0 false) (fun _ => True) := fun k => by
          have h := ih1 q D (un + 1) lv st (by omega) hwq
          cases hq : operandM d q with
          | error y => rw [hq] at h; obtain ⟨y, r⟩ := y; exact h
          | ok y => rw [hq] at h; obtain ⟨y, r⟩ := y; exact h
        rw [isW_eq 45 hk, isW_eq 33 hk, isW_eq 40 hk]
        unfold aheadM
        rw [List.tail_cons]
        by_cases t1 : x.text = [45]
        · rw [if_pos t1, decide_eq_true t1, Bool.true_or, if_pos rfl]; exact hw 5
        rw [if_neg t1, decide_eq_false t1, Bool.false_or]
        by_cases t2 : x.text = [33]
        · rw [if_pos t2, decide_eq_true t2, if_pos rfl]; exact hw 6
        rw [if_neg t2, decide_eq_false t2]
        simp only [Bool.false_eq_true, if_false]
        by_cases t3 : x.text = [40]
        · rw [if_pos t3, decide_eq_true t3, if_pos rfl]
          have h := ih2 1 q (D + lv.length + un + 1) [] ((D, lv) :: st) (by omega) (by omega) (by simp; omega) (fun y hy => by simp at hy) hwq
          have hE := (pr_eats d).2 1 q
          cases hq : sdM d 1 q with
          | error y => rw [hq] at h; obtain ⟨y, r⟩ := y; exact h
          | ok y =>
            rw [hq] at h hE
            obtain ⟨y, r⟩ := y
            obtain ⟨h1, h2⟩ := h
            obtain ⟨⟨pp, hpp⟩, _⟩ := hE
            have hn0 : nextK r = 0 := by
              rcases h2 with h | h
              · exact h
              · rcases nextK_range r with h' | h'
                · exact h'
                · have := rowK_le (nextK r) (by omega) (by omega) (by omega); omega
            rw [h1]
            cases r with
            | nil => rfl
            | cons u r =>
              have hwu : Wd u := hwq u (by rw [hpp]; simp)
              show Agree (if u.text = [41] then .ok (y, r) else .error (3, u :: r)) _ _ _
              by_cases hu : u.text = [41]
              · rw [if_pos hu]
                refine ⟨?_, trivial⟩
                show scanM (u :: r) (D + lv.length + un + 1, []) ((D, lv) :: st) 0 false = scanM r (D, lv) st 0 false
                rw [scanM, isW_eq 41 (hwu.shut hu), decide_eq_true hu]
                rfl
              · rw [if_neg hu]
                show scanM (u :: r) (D + lv.length + un + 1, []) ((D, lv) :: st) 0 false = some (3, u :: r)
                have h41 : isW u 41 = false := by unfold isW; rw [decide_eq_false hu, Bool.and_false]
                rw [scanM, h41, Bool.false_and, if_neg (by decide), if_pos (.inl (levW_six hn0))]
        · rw [if_neg t3, decide_eq_false t3]
          simp only [Bool.false_eq_true, if_false]
          rw [if_neg (by omega)]
          exact rfl
    refine ⟨ho, fun row ws D lv st h1 h6 hd hlv hwd => ?_⟩
    rw [sdM_succ]
    unfold sideM
    have h := ho ws D 0 lv st (by omega) hwd
    have hE := (pr_eats (d + 1)).1 ws
    cases hq : operandM (d + 1) ws with
    | error y => rw [hq] at h; obtain ⟨y, r⟩ := y; exact h
    | ok y =>
      rw [hq] at h hE
      obtain ⟨y, r⟩ := y
      obtain ⟨hh1, _⟩ := h
      obtain ⟨⟨pp, hpp⟩, _⟩ := hE
      show Agree (loopM (sdM d) row (r.length + 1) 6 y r) _ _ _
      rw [hh1]
      have := loop_scan ih2 row h1 h6 (r.length + 1) 6 y r D lv st (by omega) (by omega) hlv (fun z hz => hwd z (by rw [hpp]; simp [hz])) (by omega) (by omega) (.inl rfl)
      rw [curL_six] at this
      exact this
/-- The scan's fault is the reader's. -/
theorem whole_scan (ws : List W) (hwd : ∀ x ∈ ws, Wd x) : match wholeM ws with | .error (e, q) => scanM ws (1, []) [] 0 true = some (e, q) | .ok _ => scanM ws (1, []) [] 0 true = none := by
  have h := (pr_scan 16).2 1 ws 1 [] [] (by omega) (by omega) rfl (fun y hy => by simp at hy) hwd
  have hE := (pr_eats 16).2 1 ws
  unfold wholeM
  cases hq : sdM 16 1 ws with
  | error y => rw [hq] at h; obtain ⟨y, r⟩ := y; exact h
  | ok y =>
    rw [hq] at h hE
    obtain ⟨y, r⟩ := y
    obtain ⟨h1, h2⟩ := h
    have hn0 : nextK r = 0 := by
      rcases h2 with h | h
      · exact h
      · rcases nextK_range r with h' | h'
        · exact h'
        · have := rowK_le (nextK r) (by omega) (by omega) (by omega); omega
    cases r with
    | nil => exact h1
    | cons u r =>
      show scanM ws (1, []) [] 0 true = some (3, u :: r)
      rw [h1]
      show scanM (u :: r) (1, []) [] 0 false = some (3, u :: r)
      rw [scanM]
      simp only [List.isEmpty_nil, Bool.not_true, Bool.and_false, Bool.false_eq_true, if_false]
      rw [if_pos (.inl (levW_six hn0))]
end Go.Proofs.YtlfeejjlcclbdaaGreatDoor
