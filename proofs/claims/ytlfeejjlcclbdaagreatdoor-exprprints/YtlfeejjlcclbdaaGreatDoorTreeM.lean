/-
  The tree of words that are a condition: the document's, and the reader's, are the same.
-/
import Derived.Test.YtlfeejjlcclbdaaGreatDoorScan
namespace Go.Proofs.YtlfeejjlcclbdaaGreatDoor
set_option linter.unusedVariables false


/-- Where the going through words stands: the place, how deep, whether an operand ended, the best sign. -/
structure Go1 where
  i : Nat
  deep : Int
  en : Bool
  best : Option (Nat × Nat)
def endW (x : W) : Bool := decide (x.kind = 1) || decide (x.kind = 2) || isW x 41
def better (i l : Nat) : Option (Nat × Nat) → Option (Nat × Nat)
  | none => some (i, l)
  | some b => if l ≤ b.2 then some (i, l) else some b
def deepW (x : W) (d : Int) : Int := (if isW x 40 then d + 1 else d) - (if isW x 41 then 1 else 0)
def stepG (g : Go1) (x : W) : Go1 :=
  ⟨g.i + 1, deepW x g.deep, endW x, if 0 < deepW x g.deep ∨ kindW x = 0 ∨ g.en = false then g.best else better g.i (levW x) g.best⟩
def splitM (l : List W) : Option Nat := ((l.foldl stepG ⟨0, 0, false, none⟩).best).map (·.1)
def nodeH (f : List W → Tr) (l : List W) : Tr :=
  match l with
  | [] => zeroT
  | x :: r =>
    if isW x 45 then ⟨5, 0, [], [f r]⟩
    else if isW x 33 then ⟨6, 0, [], [f r]⟩
    else if isW x 40 then f r.dropLast
    else if x.kind = 1 then ⟨1, x.n, [], []⟩
    else named x.text
def treeN : Nat → List W → Tr
  | 0, _ => zeroT
  | f + 1, l =>
    match splitM l with
    | some k => ⟨kindW (l.getD k noW), 0, [], [treeN f (l.take k), treeN f (l.drop (k + 1))]⟩
    | none => nodeH (treeN f) l
def upd (i : Nat) (b : Option (Nat × Nat)) (sg : List (Nat × Nat)) : Option (Nat × Nat) := sg.foldl (fun b s => better (i + s.1) s.2 b) b
/-- How a piece is gone through: its signs outside of brackets are sg. -/
def Runs (p : List W) (sg : List (Nat × Nat)) : Prop := ∀ i d b, 0 ≤ d → p.foldl stepG ⟨i, d, false, b⟩ = ⟨i + p.length, d, true, if 0 < d then b else upd i b sg⟩
def TreeOf (p : List W) (t : Tr) : Prop := ∀ f, p.length ≤ f → treeN f p = t
def shiftS (k : Nat) (sg : List (Nat × Nat)) : List (Nat × Nat) := sg.map fun s => (s.1 + k, s.2)
theorem upd_shift (i k : Nat) : ∀ (sg : List (Nat × Nat)) (b : Option (Nat × Nat)), upd i b (shiftS k sg) = upd (i + k) b sg
  | [], b => rfl
  | s :: r, b => by
    show upd i (better (i + (s.1 + k)) s.2 b) (shiftS k r) = upd (i + k) (better (i + k + s.1) s.2 b) r
    rw [upd_shift i k r, show i + (s.1 + k) = i + k + s.1 by omega]
theorem upd_append (i : Nat) (b : Option (Nat × Nat)) (l m : List (Nat × Nat)) : upd i b (l ++ m) = upd i (upd i b l) m := List.foldl_append ..
theorem isW_not {x : W} {c e : UInt8} (h : isW x c = true) (hne : [c] ≠ [e]) : isW x e = false := by
  obtain ⟨h1, h2⟩ := isW_kind h
  unfold isW
  rw [h2, decide_eq_false hne, Bool.and_false]
theorem runs_one {x : W} (hk : x.kind = 1 ∨ x.kind = 2) : Runs [x] [] := by
  intro i d b hd
  have h3 : x.kind ≠ 3 := by omega
  have e1 : deepW x d = d := by unfold deepW; rw [isW_no h3, isW_no h3]; simp
  have e2 : endW x = true := by unfold endW; rcases hk with h | h <;> simp [h]
  show stepG ⟨i, d, false, b⟩ x = _
  unfold stepG
  simp only
  rw [e1, e2, if_pos (.inr (.inr trivial))]
  simp [upd]
theorem runs_unary {x : W} {p : List W} (h : isW x 45 = true ∨ isW x 33 = true) (hp : Runs p []) : Runs (x :: p) [] := by
  intro i d b hd
  have h40 : isW x 40 = false := by rcases h with h | h; exact isW_not h (by decide); exact isW_not h (by decide)
  have h41 : isW x 41 = false := by rcases h with h | h; exact isW_not h (by decide); exact isW_not h (by decide)
  have hk : x.kind = 3 := by rcases h with h | h; exact (isW_kind h).1; exact (isW_kind h).1
  have e1 : deepW x d = d := by unfold deepW; rw [h40, h41]; simp
  have e2 : endW x = false := by unfold endW; rw [h41, decide_eq_false (by omega), decide_eq_false (by omega)]; rfl
  have e3 : stepG ⟨i, d, false, b⟩ x = ⟨i + 1, d, false, b⟩ := by unfold stepG; simp only; rw [e1, e2, if_pos (.inr (.inr trivial))]
  show p.foldl stepG (stepG ⟨i, d, false, b⟩ x) = _
  rw [e3, hp (i + 1) d b hd]
  simp only [List.length_cons, upd, List.foldl_nil, show i + 1 + p.length = i + (p.length + 1) by omega]
theorem runs_bracket {x y : W} {p : List W} {sg : List (Nat × Nat)} (hx : isW x 40 = true) (hy : isW y 41 = true) (hp : Runs p sg) : Runs (x :: (p ++ [y])) [] := by
  intro i d b hd
  have hx41 : isW x 41 = false := isW_not hx (by decide)
  have hy40 : isW y 40 = false := isW_not hy (by decide)
  have hk := (isW_kind hx).1
  have e1 : deepW x d = d + 1 := by unfold deepW; rw [hx, hx41]; simp
  have e2 : endW x = false := by unfold endW; rw [hx41, decide_eq_false (by omega), decide_eq_false (by omega)]; rfl
  have e3 : stepG ⟨i, d, false, b⟩ x = ⟨i + 1, d + 1, false, b⟩ := by unfold stepG; simp only; rw [e1, e2, if_pos (.inr (.inr trivial))]
  have f1 : deepW y (d + 1) = d := by unfold deepW; rw [hy, hy40]; simp
  have f2 : endW y = true := by unfold endW; rw [hy, Bool.or_true]
  have f3 : stepG ⟨i + 1 + p.length, d + 1, true, b⟩ y = ⟨i + 1 + p.length + 1, d, true, b⟩ := by unfold stepG; simp only; rw [f1, f2, if_pos (.inr (.inl (kindW_shut hy)))]
  show (p ++ [y]).foldl stepG (stepG ⟨i, d, false, b⟩ x) = _
  rw [e3, List.foldl_append, hp (i + 1) (d + 1) b (by omega), if_pos (by omega)]
  show stepG ⟨i + 1 + p.length, d + 1, true, b⟩ y = _
  rw [f3]
  simp only [List.length_cons, List.length_append, List.length_nil, upd, List.foldl_nil, Go1.mk.injEq, true_and]
  refine ⟨by omega, ?_⟩
  split <;> rfl
theorem runs_sign {v : W} {pl pr : List W} {sl sr : List (Nat × Nat)} (hv : kindW v ≠ 0) (hl : Runs pl sl) (hr : Runs pr sr) : Runs (pl ++ v :: pr) (sl ++ (pl.length, levW v) :: shiftS (pl.length + 1) sr) := by
  intro i d b hd
  have hk3 : v.kind = 3 := by
    unfold kindW at hv
    by_cases h : v.kind = 3
    · exact h
    · rw [if_neg h] at hv; exact absurd rfl hv
  have h41 : isW v 41 = false := by
    cases h : isW v 41 with
    | false => rfl
    | true => exact absurd (kindW_shut h) hv
  have h40 : isW v 40 = false := by
    cases h : isW v 40 with
    | false => rfl
    | true =>
      exfalso
      obtain ⟨h1, h2⟩ := isW_kind h
      apply hv
      unfold kindW
      rw [if_pos h1, h2]; rfl
  have e1 : deepW v d = d := by unfold deepW; rw [h40, h41]; simp
  have e2 : endW v = false := by unfold endW; rw [h41, decide_eq_false (by omega), decide_eq_false (by omega)]; rfl
  rw [List.foldl_append, hl i d b hd, List.foldl_cons]
  have e3 : stepG ⟨i + pl.length, d, true, if 0 < d then b else upd i b sl⟩ v = ⟨i + pl.length + 1, d, false, if 0 < d then b else better (i + pl.length) (levW v) (upd i b sl)⟩ := by
    unfold stepG
    simp only
    rw [e1, e2]
    by_cases h0 : 0 < d
    · rw [if_pos (.inl h0), if_pos h0, if_pos h0]
    · rw [if_neg (by rintro (h | h | h); exact h0 h; exact hv h; cases h), if_neg h0, if_neg h0]
  rw [e3, hr (i + pl.length + 1) d _ hd]
  simp only [List.length_append, List.length_cons, Go1.mk.injEq, true_and]
  refine ⟨by omega, ?_⟩
  by_cases h0 : 0 < d
  · rw [if_pos h0, if_pos h0, if_pos h0]
  · rw [if_neg h0, if_neg h0, if_neg h0, upd_append]
    show _ = upd i (better (i + pl.length) (levW v) (upd i b sl)) (shiftS (pl.length + 1) sr)
    rw [upd_shift, show i + (pl.length + 1) = i + pl.length + 1 by omega]
theorem upd_ge {i k : Nat} : ∀ (sg : List (Nat × Nat)) (b : Option (Nat × Nat)), (∀ s ∈ sg, k ≤ s.2) → (∀ x, b = some x → k ≤ x.2) → ∀ x, upd i b sg = some x → k ≤ x.2
  | [], b, _, hb, x, h => hb x h
  | s :: r, b, hs, hb, x, h => by
    refine upd_ge r (better (i + s.1) s.2 b) (fun y hy => hs y (List.mem_cons_of_mem _ hy)) (fun y hy => ?_) x h
    have hk := hs s (List.mem_cons_self ..)
    cases b with
    | none => have : (i + s.1, s.2) = y := Option.some.inj hy; rw [← this]; exact hk
    | some b =>
      have h' : (if s.2 ≤ b.2 then some (i + s.1, s.2) else some b) = some y := hy
      split at h'
      · have : (i + s.1, s.2) = y := Option.some.inj h'; rw [← this]; exact hk
      · have : b = y := Option.some.inj h'; rw [← this]; exact hb b rfl
theorem upd_keep {i : Nat} {x : Nat × Nat} : ∀ (sg : List (Nat × Nat)), (∀ s ∈ sg, x.2 < s.2) → upd i (some x) sg = some x
  | [], _ => rfl
  | s :: r, h => by
    have hk := h s (List.mem_cons_self ..)
    show upd i (if s.2 ≤ x.2 then some (i + s.1, s.2) else some x) r = some x
    rw [if_neg (by omega)]
    exact upd_keep r fun y hy => h y (List.mem_cons_of_mem _ hy)
theorem split_runs {p : List W} {sg : List (Nat × Nat)} (h : Runs p sg) : splitM p = (upd 0 none sg).map (·.1) := by
  unfold splitM
  rw [h 0 0 none (by decide), if_neg (by decide)]
theorem split_sign {v : W} {pl pr : List W} {sl sr : List (Nat × Nat)} (hv : kindW v ≠ 0) (hl : Runs pl sl) (hr : Runs pr sr) (h1 : ∀ s ∈ sl, levW v ≤ s.2) (h2 : ∀ s ∈ sr, levW v < s.2) : splitM (pl ++ v :: pr) = some pl.length := by
  rw [split_runs (runs_sign hv hl hr), upd_append]
  show (upd 0 (better (0 + pl.length) (levW v) (upd 0 none sl)) (shiftS (pl.length + 1) sr)).map (·.1) = some pl.length
  have hb : better (0 + pl.length) (levW v) (upd 0 none sl) = some (pl.length, levW v) := by
    rw [Nat.zero_add]
    cases hu : upd 0 none sl with
    | none => rfl
    | some x =>
      show (if levW v ≤ x.2 then some (pl.length, levW v) else some x) = _
      rw [if_pos (upd_ge sl none h1 (fun x h => by cases h) x hu)]
  rw [hb, upd_keep]
  · rfl
  · intro s hs
    obtain ⟨s', hs', rfl⟩ := List.mem_map.1 hs
    exact h2 s' hs'
theorem tree_sign {v : W} {pl pr : List W} {sl sr : List (Nat × Nat)} {x y : Tr} (hv : kindW v ≠ 0) (hl : Runs pl sl) (hr : Runs pr sr) (h1 : ∀ s ∈ sl, levW v ≤ s.2) (h2 : ∀ s ∈ sr, levW v < s.2) (hx : TreeOf pl x) (hy : TreeOf pr y) : TreeOf (pl ++ v :: pr) ⟨kindW v, 0, [], [x, y]⟩ := by
  intro f hf
  obtain ⟨f, rfl⟩ : ∃ k, f = k + 1 := ⟨f - 1, by simp at hf; omega⟩
  have hg : (pl ++ v :: pr).getD pl.length noW = v := by
    rw [List.getD_eq_getElem?_getD, List.getElem?_append_right (Nat.le_refl _)]; simp
  have ht : (pl ++ v :: pr).take pl.length = pl := List.take_left
  have hd : (pl ++ v :: pr).drop (pl.length + 1) = pr := by
    rw [show pl ++ v :: pr = (pl ++ [v]) ++ pr by simp, show pl.length + 1 = (pl ++ [v]).length by simp, List.drop_left]
  show (match splitM (pl ++ v :: pr) with | some k => (⟨kindW ((pl ++ v :: pr).getD k noW), 0, [], [treeN f ((pl ++ v :: pr).take k), treeN f ((pl ++ v :: pr).drop (k + 1))]⟩ : Tr) | none => nodeH (treeN f) (pl ++ v :: pr)) = _
  rw [split_sign hv hl hr h1 h2]
  show (⟨kindW ((pl ++ v :: pr).getD pl.length noW), 0, [], [treeN f ((pl ++ v :: pr).take pl.length), treeN f ((pl ++ v :: pr).drop (pl.length + 1))]⟩ : Tr) = _
  rw [hg, ht, hd, hx f (by simp at hf; omega), hy f (by simp at hf; omega)]
theorem tree_none {p : List W} {t : Tr} (h : Runs p []) (hp : p ≠ []) (ht : ∀ f, p.length ≤ f + 1 → nodeH (treeN f) p = t) : TreeOf p t := by
  intro f hf
  have hpos : 0 < p.length := List.length_pos_iff.2 hp
  obtain ⟨f, rfl⟩ : ∃ k, f = k + 1 := ⟨f - 1, by omega⟩
  show (match splitM p with | some k => _ | none => nodeH (treeN f) p) = t
  rw [split_runs h]
  exact ht f hf
theorem loop_tree {d : Nat} (hs : ∀ (row : Nat) (ws : List W) (t : Tr) (r : List W), (∀ x ∈ ws, Wd x) → sdM d row ws = .ok (t, r) → ∃ p sg, ws = p ++ r ∧ p ≠ [] ∧ Runs p sg ∧ (∀ s ∈ sg, row ≤ s.2) ∧ TreeOf p t ∧ (nextK r = 0 ∨ rowK (nextK r) < row))
    (row : Nat) : ∀ (F last : Nat) (x : Tr) (ws : List W) (pl : List W) (sl : List (Nat × Nat)) (t : Tr) (r : List W), (∀ x ∈ ws, Wd x) → Runs pl sl → pl ≠ [] → TreeOf pl x → (∀ s ∈ sl, row ≤ s.2) → (∀ s ∈ sl, last ≤ s.2) → (last = 6 ∧ sl = [] ∨ nextK ws = 0 ∨ rowK (nextK ws) ≤ last) → loopM (sdM d) row F last x ws = .ok (t, r) →
      ∃ p sg, pl ++ ws = p ++ r ∧ p ≠ [] ∧ Runs p sg ∧ (∀ s ∈ sg, row ≤ s.2) ∧ TreeOf p t ∧ (nextK r = 0 ∨ rowK (nextK r) < row)
  | 0, _, _, _, _, _, _, _, _, _, _, _, _, _, _, h => by cases h
  | F + 1, last, x, ws, pl, sl, t, r, hwd, hrun, hne, htr, hrow, hlast, hk, h => by
    rw [loopM_succ] at h
    by_cases ha : nextK ws = 0 ∨ rowK (nextK ws) < row
    · rw [if_pos ha] at h
      simp only [Except.ok.injEq, Prod.mk.injEq] at h
      obtain ⟨rfl, rfl⟩ := h
      exact ⟨pl, sl, rfl, hne, hrun, hrow, htr, ha⟩
    · rw [if_neg ha] at h
      by_cases h2 : rowK (nextK ws) = 3 ∧ last = 3
      · rw [if_pos h2] at h; cases h
      · rw [if_neg h2] at h
        cases ws with
        | nil => exact absurd (.inl rfl) ha
        | cons v q =>
          have hv : kindW v ≠ 0 := fun h => ha (.inl h)
          have hlev : levW v = rowK (nextK (v :: q)) := rfl
          rw [List.tail_cons] at h
          cases hq : sdM d (rowK (nextK (v :: q)) + 1) q with
          | error y => rw [hq] at h; cases h
          | ok y =>
            obtain ⟨y, r2⟩ := y
            rw [hq] at h
            obtain ⟨pr, sr, e1, e2, e3, e4, e5, e6⟩ := hs _ q y r2 (fun z hz => hwd z (List.mem_cons_of_mem _ hz)) hq
            subst e1
            have hsl : ∀ s ∈ sl, levW v ≤ s.2 := fun s hs' => by
              rcases hk with ⟨_, h⟩ | h | h
              · rw [h] at hs'; simp at hs'
              · exact absurd h hv
              · have := hlast s hs'; rw [hlev]; omega
            have hsr : ∀ s ∈ sr, levW v < s.2 := fun s hs' => by have := e4 s hs'; rw [hlev]; omega
            have hT := tree_sign hv hrun e3 hsl hsr htr e5
            have hR := runs_sign hv hrun e3
            have hrw : row ≤ levW v := by rw [hlev]; exact Nat.le_of_not_lt fun h => ha (.inr h)
            have hmem : ∀ (k : Nat), (∀ s ∈ sl, k ≤ s.2) → k ≤ levW v → (∀ s ∈ sr, k ≤ s.2) → ∀ s ∈ sl ++ (pl.length, levW v) :: shiftS (pl.length + 1) sr, k ≤ s.2 := fun k a1 a2 a3 s hs' => by
              rcases List.mem_append.1 hs' with h | h
              · exact a1 s h
              · rcases List.mem_cons.1 h with rfl | h
                · exact a2
                · obtain ⟨s', hs2, rfl⟩ := List.mem_map.1 h
                  exact a3 s' hs2
            obtain ⟨p, sg, f1, f2, f3, f4, f5, f6⟩ := loop_tree hs row F (levW v) ⟨nextK (v :: (pr ++ r2)), 0, [], [x, y]⟩ r2 (pl ++ v :: pr) _ t r (fun z hz => hwd z (List.mem_cons_of_mem _ (List.mem_append_right _ hz))) hR (by simp) hT
              (hmem row hrow hrw fun s hs' => by have := hsr s hs'; omega) (hmem (levW v) hsl (Nat.le_refl _) fun s hs' => Nat.le_of_lt (hsr s hs')) (.inr (by rcases e6 with h | h; exact .inl h; exact .inr (by rw [hlev]; omega))) h
            exact ⟨p, sg, by rw [← f1]; simp, f2, f3, f4, f5, f6⟩
theorem isW_true {x : W} {c : UInt8} (hk : x.kind = 3) (ht : x.text = [c]) : isW x c = true := by unfold isW; rw [decide_eq_true hk, decide_eq_true ht]; rfl
theorem pr_tree : ∀ d, (∀ (ws : List W) (t : Tr) (r : List W), (∀ x ∈ ws, Wd x) → operandM d ws = .ok (t, r) → ∃ p, ws = p ++ r ∧ p ≠ [] ∧ Runs p [] ∧ TreeOf p t) ∧
    (∀ (row : Nat) (ws : List W) (t : Tr) (r : List W), (∀ x ∈ ws, Wd x) → sdM d row ws = .ok (t, r) → ∃ p sg, ws = p ++ r ∧ p ≠ [] ∧ Runs p sg ∧ (∀ s ∈ sg, row ≤ s.2) ∧ TreeOf p t ∧ (nextK r = 0 ∨ rowK (nextK r) < row))
  | 0 => ⟨(fun ws t r _ h => by cases h), (fun row ws t r _ h => by cases h)⟩
  | d + 1 => by
    obtain ⟨ih1, ih2⟩ := pr_tree d
    have ho : ∀ (ws : List W) (t : Tr) (r : List W), (∀ x ∈ ws, Wd x) → operandM (d + 1) ws = .ok (t, r) → ∃ p, ws = p ++ r ∧ p ≠ [] ∧ Runs p [] ∧ TreeOf p t := by
      intro ws t r hwd h
      rw [operandM_succ] at h
      cases ws with
      | nil => cases h
      | cons x q =>
        have hwx := hwd x (List.mem_cons_self ..)
        have hwq : ∀ y ∈ q, Wd y := fun y hy => hwd y (List.mem_cons_of_mem _ hy)
        rw [opM_cons] at h
        by_cases k1 : x.kind = 1
        · rw [if_pos k1] at h
          simp only [Except.ok.injEq, Prod.mk.injEq] at h
          obtain ⟨rfl, rfl⟩ := h
          refine ⟨[x], rfl, by simp, runs_one (.inl k1), tree_none (runs_one (.inl k1)) (by simp) fun f _ => ?_⟩
          show (if isW x 45 then _ else _) = _
          rw [isW_no (by omega), isW_no (by omega), isW_no (by omega)]
          simp only [Bool.false_eq_true, if_false]
          rw [if_pos k1]
        rw [if_neg k1] at h
        by_cases k2 : x.kind = 2
        · rw [if_pos k2] at h
          simp only [Except.ok.injEq, Prod.mk.injEq] at h
          obtain ⟨rfl, rfl⟩ := h
          refine ⟨[x], rfl, by simp, runs_one (.inr k2), tree_none (runs_one (.inr k2)) (by simp) fun f _ => ?_⟩
          show (if isW x 45 then _ else _) = _
          rw [isW_no (by omega), isW_no (by omega), isW_no (by omega)]
          simp only [Bool.false_eq_true, if_false]
          rw [if_neg k1]
        rw [if_neg k2] at h
        have hk := hwx.sign k1 k2
        unfold aheadM at h
        rw [List.tail_cons] at h
        by_cases t1 : x.text = [45]
        · rw [if_pos t1] at h
          have hi := isW_true hk t1
          cases hq : operandM d q with
          | error y => rw [hq] at h; cases h
          | ok y =>
            obtain ⟨y, r2⟩ := y
            rw [hq] at h
            have h' : (Except.ok (⟨5, 0, [], [y]⟩, r2) : Res) = .ok (t, r) := h
            simp only [Except.ok.injEq, Prod.mk.injEq] at h'
            obtain ⟨rfl, rfl⟩ := h'
            obtain ⟨p, e1, e2, e3, e4⟩ := ih1 q y r2 hwq hq
            have hR := runs_unary (.inl hi) e3
            refine ⟨x :: p, by rw [e1]; rfl, by simp, hR, tree_none hR (by simp) fun f hf => ?_⟩
            show (if isW x 45 then _ else _) = _
            rw [hi, if_pos rfl, e4 f (by simp at hf; omega)]
        rw [if_neg t1] at h
        by_cases t2 : x.text = [33]
        · rw [if_pos t2] at h
          have hi := isW_true hk t2
          cases hq : operandM d q with
          | error y => rw [hq] at h; cases h
          | ok y =>
            obtain ⟨y, r2⟩ := y
            rw [hq] at h
            have h' : (Except.ok (⟨6, 0, [], [y]⟩, r2) : Res) = .ok (t, r) := h
            simp only [Except.ok.injEq, Prod.mk.injEq] at h'
            obtain ⟨rfl, rfl⟩ := h'
            obtain ⟨p, e1, e2, e3, e4⟩ := ih1 q y r2 hwq hq
            have hR := runs_unary (.inr hi) e3
            refine ⟨x :: p, by rw [e1]; rfl, by simp, hR, tree_none hR (by simp) fun f hf => ?_⟩
            show (if isW x 45 then _ else _) = _
            rw [isW_not hi (by decide), hi]
            simp only [Bool.false_eq_true, if_false, if_true]
            rw [e4 f (by simp at hf; omega)]
        rw [if_neg t2] at h
        by_cases t3 : x.text = [40]
        · rw [if_pos t3] at h
          have hi := isW_true hk t3
          cases hq : sdM d 1 q with
          | error y => rw [hq] at h; cases h
          | ok y =>
            obtain ⟨y, r2⟩ := y
            rw [hq] at h
            obtain ⟨p, sg, e1, e2, e3, e4, e5, e6⟩ := ih2 1 q y r2 hwq hq
            cases r2 with
            | nil => cases h
            | cons u r2 =>
              have h' : (if u.text = [41] then .ok (y, r2) else .error (3, u :: r2) : Res) = .ok (t, r) := h
              by_cases hu : u.text = [41]
              · rw [if_pos hu] at h'
                simp only [Except.ok.injEq, Prod.mk.injEq] at h'
                obtain ⟨rfl, rfl⟩ := h'
                have hwu : Wd u := hwq u (by rw [e1]; simp)
                have hui := isW_true (hwu.shut hu) hu
                have hR := runs_bracket hi hui e3
                refine ⟨x :: (p ++ [u]), by rw [e1]; simp, by simp, hR, tree_none hR (by simp) fun f hf => ?_⟩
                show (if isW x 45 then _ else _) = _
                rw [isW_not hi (by decide), isW_not hi (by decide), hi]
                simp only [Bool.false_eq_true, if_false, if_true, List.dropLast_concat]
                exact e5 f (by simp at hf; omega)
              · rw [if_neg hu] at h'; cases h'
        · rw [if_neg t3] at h; cases h
    refine ⟨ho, fun row ws t r hwd h => ?_⟩
    rw [sdM_succ] at h
    unfold sideM at h
    cases hq : operandM (d + 1) ws with
    | error y => rw [hq] at h; cases h
    | ok y =>
      obtain ⟨y, r2⟩ := y
      rw [hq] at h
      obtain ⟨p, e1, e2, e3, e4⟩ := ho ws y r2 hwd hq
      obtain ⟨p', sg, f1, f2, f3, f4, f5, f6⟩ := loop_tree ih2 row _ 6 y r2 p [] t r (fun z hz => hwd z (by rw [e1]; simp [hz])) e3 e2 e4 (fun s hs => by simp at hs) (fun s hs => by simp at hs) (.inl ⟨rfl, rfl⟩) h
      exact ⟨p', sg, by rw [e1]; exact f1, f2, f3, f4, f5, f6⟩
/-- The tree that the reader makes of all words is the document's. -/
theorem whole_tree (ws : List W) (hwd : ∀ x ∈ ws, Wd x) {t : Tr} (h : wholeM ws = .ok t) : ws ≠ [] ∧ TreeOf ws t := by
  unfold wholeM at h
  cases hq : sdM 16 1 ws with
  | error y => rw [hq] at h; cases h
  | ok y =>
    obtain ⟨y, r⟩ := y
    rw [hq] at h
    cases r with
    | cons v r => cases h
    | nil =>
      obtain rfl : y = t := by injection h
      obtain ⟨p, sg, e1, e2, _, _, e5, _⟩ := (pr_tree 16).2 1 ws y [] hwd hq
      rw [List.append_nil] at e1
      subst e1
      exact ⟨e2, e5⟩
end Go.Proofs.YtlfeejjlcclbdaaGreatDoor
