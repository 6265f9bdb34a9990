/-
  Conditions as trees: plain mathematics.
-/
import Derived.Test.YtlfeejjlcclbdaaGreatDoorMath
namespace Go.Proofs.YtlfeejjlcclbdaaGreatDoor
set_option linter.unusedVariables false


/-- A tree. -/
structure Tr where
  kind : Int
  n : Int
  name : Bs
  kids : List Tr
theorem Tr.ind {p : Tr → Prop} (h : ∀ t, (∀ k ∈ t.kids, p k) → p t) (t : Tr) : p t :=
  Tr.rec (motive_1 := p) (motive_2 := fun l => ∀ k ∈ l, p k) (fun k n nm ks ih => h ⟨k, n, nm, ks⟩ ih) (fun k hk => by simp at hk)
    (fun x r hx hr k hk => by rcases List.mem_cons.1 hk with rfl | hk; exact hx; exact hr k hk) t
/-- The kind of a sign between two. -/
def kindC (c : UInt8) : Nat :=
  if c = 43 then 7 else if c = 45 then 8 else if c = 42 then 9 else if c = 47 then 10 else if c = 61 then 11 else if c = 60 then 12 else if c = 38 then 13 else if c = 124 then 14 else 0
def kindS : Bs → Nat
  | [c] => kindC c
  | _ => 0
def kindW (x : W) : Nat := if x.kind = 3 then kindS x.text else 0
def nextK : List W → Nat
  | [] => 0
  | x :: _ => kindW x
/-- How much a kind binds. -/
def rowK (k : Int) : Nat :=
  if k = 14 then 1 else if k = 13 then 2 else if k = 11 ∨ k = 12 then 3 else if k = 7 ∨ k = 8 then 4 else if k = 9 ∨ k = 10 then 5 else 6
def yesB : Bs := [121, 101, 115]
def noB : Bs := [110, 111]
def named (t : Bs) : Tr := if t = yesB then ⟨3, 0, [], []⟩ else if t = noB then ⟨4, 0, [], []⟩ else ⟨2, 0, t, []⟩
/-- A tree and the words behind; or the error, and the words from there on. -/
abbrev Res := Except (Nat × List W) (Tr × List W)
def inM : Res → Res
  | .error e => .error e
  | .ok (x, []) => .error (3, [])
  | .ok (x, v :: r) => if v.text = [41] then .ok (x, r) else .error (3, v :: r)
def wrapM (k : Int) : Res → Res
  | .error e => .error e
  | .ok (x, r) => .ok (⟨k, 0, [], [x]⟩, r)
def aheadM (op sd : List W → Res) (t : Bs) (ws : List W) : Res :=
  if t = [45] then wrapM 5 (op ws.tail)
  else if t = [33] then wrapM 6 (op ws.tail)
  else if t = [40] then inM (sd ws.tail)
  else .error (3, ws)
def opM (op sd : List W → Res) : List W → Res
  | [] => .error (3, [])
  | x :: r => if x.kind = 1 then .ok (⟨1, x.n, [], []⟩, r) else if x.kind = 2 then .ok (named x.text, r) else aheadM op sd x.text (x :: r)
theorem opM_cons (op sd : List W → Res) (x : W) (r : List W) : opM op sd (x :: r) = if x.kind = 1 then .ok (⟨1, x.n, [], []⟩, r) else if x.kind = 2 then .ok (named x.text, r) else aheadM op sd x.text (x :: r) := rfl
def loopM (sd : Nat → List W → Res) (row : Nat) : Nat → Nat → Tr → List W → Res
  | 0, _, _, _ => .error (3, [])
  | f + 1, last, x, ws =>
    if nextK ws = 0 ∨ rowK (nextK ws) < row then .ok (x, ws)
    else if rowK (nextK ws) = 3 ∧ last = 3 then .error (3, ws)
    else match sd (rowK (nextK ws) + 1) ws.tail with
      | .error e => .error e
      | .ok (y, r) => loopM sd row f (rowK (nextK ws)) ⟨nextK ws, 0, [], [x, y]⟩ r
def sideM (op : List W → Res) (sd : Nat → List W → Res) (row : Nat) (ws : List W) : Res :=
  match op ws with
  | .error e => .error e
  | .ok (x, r) => loopM sd row (r.length + 1) 6 x r
/-- An operand, and a side, at a depth. -/
def pr : Nat → (List W → Res) × (Nat → List W → Res)
  | 0 => (fun ws => .error (6, ws), fun _ ws => .error (6, ws))
  | d + 1 => (opM (pr d).1 ((pr d).2 1), sideM (opM (pr d).1 ((pr d).2 1)) (pr d).2)
def operandM (d : Nat) : List W → Res := (pr d).1
def sdM (d : Nat) : Nat → List W → Res := (pr d).2
theorem operandM_zero (ws : List W) : operandM 0 ws = .error (6, ws) := rfl
theorem operandM_succ (d : Nat) : operandM (d + 1) = opM (operandM d) (sdM d 1) := rfl
theorem sdM_zero (row : Nat) (ws : List W) : sdM 0 row ws = .error (6, ws) := rfl
theorem sdM_succ (d row : Nat) (ws : List W) : sdM (d + 1) row ws = sideM (operandM (d + 1)) (sdM d) row ws := rfl
/-- What is read is a beginning of the words, at least one. -/
def Eats (f : List W → Res) : Prop := ∀ ws, match f ws with | .ok (_, r) => (∃ p, ws = p ++ r) ∧ r.length < ws.length | .error (_, r) => ∃ p, ws = p ++ r
theorem nextK_nil : nextK [] = 0 := rfl
theorem loop_eats {sd : Nat → List W → Res} (hs : ∀ row, Eats (sd row)) (row : Nat) : ∀ (f last : Nat) (x : Tr) (ws : List W), ws.length < f →
    match loopM sd row f last x ws with | .ok (_, r) => ∃ p, ws = p ++ r | .error (_, r) => ∃ p, ws = p ++ r
  | 0, _, _, ws, h => by omega
  | f + 1, last, x, ws, h => by
    unfold loopM
    by_cases h1 : nextK ws = 0 ∨ rowK (nextK ws) < row
    · rw [if_pos h1]; exact ⟨[], rfl⟩
    · rw [if_neg h1]
      by_cases h2 : rowK (nextK ws) = 3 ∧ last = 3
      · rw [if_pos h2]; exact ⟨[], rfl⟩
      · rw [if_neg h2]
        cases ws with
        | nil => simp [nextK_nil] at h1
        | cons v ws =>
          have hE := hs (rowK (nextK (v :: ws)) + 1) ws
          simp only [List.tail_cons]
          cases hq : sd (rowK (nextK (v :: ws)) + 1) ws with
          | error e => rw [hq] at hE; obtain ⟨e, r⟩ := e; obtain ⟨p, hp⟩ := hE; exact ⟨v :: p, by rw [hp]; rfl⟩
          | ok o =>
            rw [hq] at hE
            obtain ⟨y, r⟩ := o
            obtain ⟨⟨p, hp⟩, hl⟩ := hE
            have := loop_eats hs row f (rowK (nextK (v :: ws))) ⟨nextK (v :: ws), 0, [], [x, y]⟩ r (by simp at h hl; omega)
            revert this
            simp only
            split
            · rintro ⟨q, hq⟩; exact ⟨v :: (p ++ q), by rw [hp, hq]; simp⟩
            · rintro ⟨q, hq⟩; exact ⟨v :: (p ++ q), by rw [hp, hq]; simp⟩
theorem pr_eats : ∀ d, Eats (operandM d) ∧ ∀ row, Eats (sdM d row)
  | 0 => ⟨fun ws => ⟨[], rfl⟩, fun row ws => ⟨[], rfl⟩⟩
  | d + 1 => by
    obtain ⟨h1, h2⟩ := pr_eats d
    have ho : Eats (operandM (d + 1)) := by
      intro ws
      rw [operandM_succ]
      cases ws with
      | nil => exact ⟨[], rfl⟩
      | cons x r =>
        rw [opM_cons]
        by_cases k1 : x.kind = 1
        · rw [if_pos k1]; exact ⟨⟨[x], rfl⟩, by simp⟩
        · rw [if_neg k1]
          by_cases k2 : x.kind = 2
          · rw [if_pos k2]; exact ⟨⟨[x], rfl⟩, by simp⟩
          · rw [if_neg k2]
            unfold aheadM
            have wr : ∀ k, match wrapM k (operandM d r) with | .ok (_, r') => (∃ p, x :: r = p ++ r') ∧ r'.length < (x :: r).length | .error (_, r') => ∃ p, x :: r = p ++ r' := by
              intro k
              have := h1 r
              cases hq : operandM d r with
              | error e => rw [hq] at this; obtain ⟨e, r2⟩ := e; obtain ⟨p, hp⟩ := this; exact ⟨x :: p, by rw [hp]; rfl⟩
              | ok o => rw [hq] at this; obtain ⟨y, r2⟩ := o; obtain ⟨⟨p, hp⟩, hl⟩ := this; exact ⟨⟨x :: p, by rw [hp]; rfl⟩, by simp; omega⟩
            by_cases t1 : x.text = [45]
            · rw [if_pos t1]; exact wr 5
            · rw [if_neg t1]
              by_cases t2 : x.text = [33]
              · rw [if_pos t2]; exact wr 6
              · rw [if_neg t2]
                by_cases t3 : x.text = [40]
                · rw [if_pos t3, List.tail_cons]
                  have := h2 1 r
                  cases hq : sdM d 1 r with
                  | error e => rw [hq] at this; obtain ⟨e, r2⟩ := e; obtain ⟨p, hp⟩ := this; exact ⟨x :: p, by rw [hp]; rfl⟩
                  | ok o =>
                    rw [hq] at this; obtain ⟨y, r2⟩ := o; obtain ⟨⟨p, hp⟩, hl⟩ := this
                    cases r2 with
                    | nil => exact ⟨x :: p, by rw [hp]; rfl⟩
                    | cons v r2 =>
                      show match (if v.text = [41] then Except.ok (y, r2) else .error (3, v :: r2) : Res) with | .ok (_, r') => (∃ p, x :: r = p ++ r') ∧ r'.length < (x :: r).length | .error (_, r') => ∃ p, x :: r = p ++ r'
                      by_cases hv : v.text = [41]
                      · rw [if_pos hv]; exact ⟨⟨x :: p ++ [v], by rw [hp]; simp⟩, by simp at hl ⊢; omega⟩
                      · rw [if_neg hv]; exact ⟨x :: p, by rw [hp]; rfl⟩
                · rw [if_neg t3]; exact ⟨[], rfl⟩
    refine ⟨ho, fun row ws => ?_⟩
    rw [sdM_succ]
    unfold sideM
    have := ho ws
    cases hq : operandM (d + 1) ws with
    | error e => rw [hq] at this; exact this
    | ok o =>
      rw [hq] at this
      obtain ⟨x, r⟩ := o
      obtain ⟨⟨p, hp⟩, hl⟩ := this
      have h3 := loop_eats h2 row (r.length + 1) 6 x r (by omega)
      revert h3
      simp only
      split
      · rintro ⟨q, hq⟩
        refine ⟨⟨p ++ q, by rw [hp, hq]; simp⟩, ?_⟩
        have : r.length = (q ++ _).length := congrArg List.length hq
        simp at this; omega
      · rintro ⟨q, hq⟩; exact ⟨p ++ q, by rw [hp, hq]; simp⟩
/-- May a node be, whatever is below it? -/
def nameOk (t : Bs) : Bool := match t with
  | [] => false
  | c :: r => letter c && (c :: r).all (fun x => digit x || letter x) && decide ((c :: r).length ≤ 32)
def kidsK (k : Int) : Nat := if k < 5 then 0 else if k < 7 then 1 else 2
def fitsM (t : Tr) : Bool :=
  if t.kind < 1 ∨ 14 < t.kind ∨ t.kids.length ≠ kidsK t.kind then false
  else if t.n < 0 ∨ t.n ≠ 0 ∧ t.kind ≠ 1 then false
  else if t.kind = 2 then nameOk t.name && decide (t.name ≠ yesB) && decide (t.name ≠ noB)
  else decide (t.name = [])
def firstBad (f : Tr → Nat) : List Tr → Nat
  | [] => 0
  | k :: r => if f k ≠ 0 then f k else firstBad f r
/-- What is wrong with a tree, at a depth. -/
def checkM : Nat → Tr → Nat
  | 0, _ => 6
  | d + 1, t => if fitsM t = false then 1 else firstBad (checkM d) t.kids
def atW (en : Nat) : List W → Nat
  | [] => en
  | x :: _ => x.pos
def zeroT : Tr := ⟨0, 0, [], []⟩
/-- The tree, the error and where. -/
structure Pd where
  t : Tr
  err : Nat
  pos : Nat
def wholeM (ws : List W) : Except (Nat × List W) Tr :=
  match sdM 16 1 ws with
  | .error e => .error e
  | .ok (x, []) => .ok x
  | .ok (x, v :: r) => .error (3, v :: r)
def treeM (en : Nat) (ws : List W) : Pd :=
  match wholeM ws with
  | .error (e, r) => ⟨zeroT, e, atW en r⟩
  | .ok x => if checkM 16 x ≠ 0 then ⟨zeroT, checkM 16 x, 0⟩ else ⟨x, 0, 0⟩
def parseO (en : Nat) (o : Out) : Pd := if o.err ≠ 0 then ⟨zeroT, o.err, o.pos⟩ else treeM en o.ws
end Go.Proofs.YtlfeejjlcclbdaaGreatDoor
