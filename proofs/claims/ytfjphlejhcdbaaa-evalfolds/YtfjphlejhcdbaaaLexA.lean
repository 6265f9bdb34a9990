/-
  An operand: contracts.
-/
import Derived.Test.YtfjphlejhcdbaaaBasA
import Derived.Deep.LoopGhost
namespace Go.Proofs.Ytfjphlejhcdbaaa
section
open Go.RowKit
set_option linter.unusedVariables false



/-- The result's cells, still as they were made. -/
abbrev Zero4 (w : World) (b : Nat) : Prop := Cell4 w b (.int .i64 0) (.int .i64 0) (.string ⟨#[]⟩) (.slice none 0 0)
abbrev zeroObj : Obj := .cells #[.int .i64 0, .int .i64 0, .string ⟨#[]⟩, .slice none 0 0] 24
end
section
open Go.RowKit
set_option linter.unusedVariables false



theorem kindC_range (c : UInt8) : kindC c = 0 ∨ 7 ≤ kindC c ∧ kindC c ≤ 14 := by
  unfold kindC
  repeat' split
  all_goals omega
theorem nextK_range (ws : List W) : nextK ws = 0 ∨ 7 ≤ nextK ws ∧ nextK ws ≤ 14 := by
  cases ws with
  | nil => exact .inl rfl
  | cons x r =>
    show kindW x = 0 ∨ 7 ≤ kindW x ∧ kindW x ≤ 14
    unfold kindW
    split
    · unfold kindS
      split
      · exact kindC_range _
      · exact .inl rfl
    · exact .inl rfl
theorem Cell4.set {w : World} {b : Nat} {v0 v1 v2 v3 : Value} (h : Cell4 w b v0 v1 v2 v3) (u0 u1 u2 u3 : Value) : Cell4 ((((w.setCell ⟨b, 0, none⟩ u0).setCell ⟨b, 1, none⟩ u1).setCell ⟨b, 2, none⟩ u2).setCell ⟨b, 3, none⟩ u3) b u0 u1 u2 u3 := by
  have h0 := h.c0; have h1 := h.c1; have h2 := h.c2; have h3 := h.c3
  refine ⟨?_, ?_, ?_, ?_, fun i => by simp only [World.frozen?_setCell]; exact h.free i⟩
  · rw [World.cell?_setCell_other _ _ _ _ (by simp), World.cell?_setCell_other _ _ _ _ (by simp), World.cell?_setCell_other _ _ _ _ (by simp), World.cell?_setCell_same' _ _ _ (by rw [h0]; rfl)]
  · rw [World.cell?_setCell_other _ _ _ _ (by simp), World.cell?_setCell_other _ _ _ _ (by simp), World.cell?_setCell_same' _ _ _ (by rw [World.cell?_setCell_other _ _ _ _ (by simp), h1]; rfl)]
  · rw [World.cell?_setCell_other _ _ _ _ (by simp), World.cell?_setCell_same' _ _ _ (by rw [World.cell?_setCell_other _ _ _ _ (by simp), World.cell?_setCell_other _ _ _ _ (by simp), h2]; rfl)]
  · rw [World.cell?_setCell_same' _ _ _ (by rw [World.cell?_setCell_other _ _ _ _ (by simp), World.cell?_setCell_other _ _ _ _ (by simp), World.cell?_setCell_other _ _ _ _ (by simp), h3]; rfl)]
theorem Post.alloc {rb en : Nat} {w w' : World} {R : Res} {e : Ending} (h : Post rb en w R e w') (o : Obj) : Post rb en w R e (w'.alloc o) := by
  cases R with
  | error x => exact ⟨h.1, h.2.alloc o⟩
  | ok x =>
    obtain ⟨⟨k, n, s, a, l, c, h1, h2⟩, h3, h4⟩ := h
    exact ⟨⟨k, n, s, a, l, c, h1, h2.alloc o⟩, h3.alloc o, h4.alloc o⟩
end
section
set_option linter.unusedVariables false



/-- A number, a name, or a sign. -/
def Wd (x : W) : Prop := (x.kind = 1 ∧ x.text = [] ∧ x.n < 9223372036854775808) ∨ (x.kind = 2 ∧ nameOk x.text = true ∧ x.n = 0) ∨ (x.kind = 3 ∧ ∃ c, x.text = [c] ∧ sign c = true ∧ x.n = 0)
theorem Wd.ok {x : W} (h : Wd x) (hp : x.pos ≤ 4096) : Wok x := by
  rcases h with ⟨h1, h2, h3⟩ | ⟨h1, h2, h3⟩ | ⟨h1, c, h2, h3, h4⟩
  · exact ⟨fun h => by omega, h3, by rw [h2]; simp, by omega, hp⟩
  · refine ⟨fun h => by omega, by omega, ?_, by omega, hp⟩
    cases ht : x.text with
    | nil => simp
    | cons c r =>
      rw [ht] at h2
      have : (letter c && (c :: r).all (fun x => digit x || letter x) && decide ((c :: r).length ≤ 32)) = true := h2
      simp only [Bool.and_eq_true, decide_eq_true_eq] at this
      omega
  · exact ⟨fun _ => ⟨c, h2⟩, by omega, by rw [h2]; simp, by omega, hp⟩
end
section
set_option linter.unusedVariables false



/-- What is open: how deep, and the levels, the last one first. -/
abbrev Op1 := Nat × List Nat
def isW (x : W) (c : UInt8) : Bool := decide (x.kind = 3) && decide (x.text = [c])
def levW (x : W) : Nat := rowK (kindW x)
/-- The levels that are not above k. -/
def popK (k : Nat) : List Nat → List Nat
  | [] => []
  | x :: r => if k < x then popK k r else x :: r
def headIs (k : Nat) : List Nat → Bool
  | [] => false
  | x :: _ => decide (x = k)
def pushK (k : Nat) (l : List Nat) : List Nat := if headIs k (popK k l) then popK k l else k :: popK k l
/-- The fault and the words from there on; none: there is no fault. -/
def scanM : List W → Op1 → List Op1 → Nat → Bool → Option (Nat × List W)
  | [], top, st, un, true => if 16 < top.1 + top.2.length + un then some (6, []) else some (3, [])
  | [], top, st, un, false => if st = [] then none else some (3, [])
  | x :: r, top, st, un, true =>
    if 16 < top.1 + top.2.length + un then some (6, x :: r)
    else if isW x 45 || isW x 33 then scanM r top st (un + 1) true
    else if isW x 40 then scanM r (top.1 + top.2.length + un + 1, []) (top :: st) 0 true
    else if x.kind = 1 ∨ x.kind = 2 then scanM r top st 0 false
    else some (3, x :: r)
  | x :: r, top, st, un, false =>
    if isW x 41 && !st.isEmpty then scanM r (st.headD (0, [])) st.tail 0 false
    else if levW x = 6 ∨ headIs (levW x) (popK (levW x) top.2) = true ∧ levW x = 3 then some (3, x :: r)
    else scanM r (top.1, pushK (levW x) top.2) st 0 true
def scanE (en : Nat) (ws : List W) : Nat × Nat :=
  match scanM ws (1, []) [] 0 true with
  | some (e, q) => (e, atW en q)
  | none => (0, 0)
theorem isW_kind {x : W} {c : UInt8} (h : isW x c = true) : x.kind = 3 ∧ x.text = [c] := by
  unfold isW at h
  simp only [Bool.and_eq_true, decide_eq_true_eq] at h
  exact h
theorem isW_eq {x : W} (c : UInt8) (hk : x.kind = 3) : isW x c = decide (x.text = [c]) := by
  unfold isW; rw [decide_eq_true hk, Bool.true_and]
theorem Wd.sign {x : W} (h : Wd x) (h1 : ¬ x.kind = 1) (h2 : ¬ x.kind = 2) : x.kind = 3 := by
  rcases h with ⟨h, _⟩ | ⟨h, _⟩ | ⟨h, _⟩
  · exact absurd h h1
  · exact absurd h h2
  · exact h
theorem isW_no {x : W} {c : UInt8} (h : x.kind ≠ 3) : isW x c = false := by unfold isW; rw [decide_eq_false h]; rfl
end
section
set_option linter.unusedVariables false



/-- Where the going through words stands: the place, how deep, whether an operand ended, the best sign. -/
structure Go1 where
  i : Nat
  deep : Int
  en : Bool
  best : Option (Nat × Nat)
def endW (x : W) : Bool := decide (x.kind = 1) || decide (x.kind = 2) || isW x 41
def better (i l : Nat) : Option (Nat × Nat) → Option (Nat × Nat)
  | none => some (i, l)
  | some b => if l ≤ b.2 then some (i, l) else some b
def deepW (x : W) (d : Int) : Int := (if isW x 40 then d + 1 else d) - (if isW x 41 then 1 else 0)
def stepG (g : Go1) (x : W) : Go1 :=
  ⟨g.i + 1, deepW x g.deep, endW x, if 0 < deepW x g.deep ∨ kindW x = 0 ∨ g.en = false then g.best else better g.i (levW x) g.best⟩
def splitM (l : List W) : Option Nat := ((l.foldl stepG ⟨0, 0, false, none⟩).best).map (·.1)
def nodeH (f : List W → Tr) (l : List W) : Tr :=
  match l with
  | [] => zeroT
  | x :: r =>
    if isW x 45 then ⟨5, 0, [], [f r]⟩
    else if isW x 33 then ⟨6, 0, [], [f r]⟩
    else if isW x 40 then f r.dropLast
    else if x.kind = 1 then ⟨1, x.n, [], []⟩
    else named x.text
def treeN : Nat → List W → Tr
  | 0, _ => zeroT
  | f + 1, l =>
    match splitM l with
    | some k => ⟨kindW (l.getD k noW), 0, [], [treeN f (l.take k), treeN f (l.drop (k + 1))]⟩
    | none => nodeH (treeN f) l
theorem isW_not {x : W} {c e : UInt8} (h : isW x c = true) (hne : [c] ≠ [e]) : isW x e = false := by
  obtain ⟨h1, h2⟩ := isW_kind h
  unfold isW
  rw [h2, decide_eq_false hne, Bool.and_false]
end
section
open Go.RowKit
set_option linter.unusedVariables false



set_option maxRecDepth 100000 in
set_option maxHeartbeats 400000 in
theorem is_any (x : W) (c : UInt8) (w : World) : Calls Try.prog 58 #[wordV x, .string ⟨#[c]⟩] w fun e w' => e = .returned (.bool (isW x c)) ∧ Below w.heap.size w w' := by
  unfold wordV
  by_cases hk : x.kind = 3
  · rw [isW_eq c hk, hk]
    have hb : ((ba x.text).toList == [c]) = decide (x.text = [c]) := by
      rw [ba_toList]
      by_cases h : x.text = [c]
      · rw [decide_eq_true h]; simpa using h
      · rw [decide_eq_false h]; simpa using h
    have hb2 : (⟨#[c]⟩ : ByteArray).toList = [c] := ByteArray.toList_mk ..
    generalize ba x.text = s at *
    generalize decide (x.text = [c]) = bb at *
    go_enter Try.func58, Try.ntmps58
    go_wp2_with fail
    go_ret
    exact ⟨rfl, (Below.refl _ _).alloc (Nat.le_refl _) _⟩
  · rw [isW_no hk]
    have hk2 : ((x.kind : Int) == 3) = false := by simp; omega
    generalize ba x.text = s at *
    go_enter Try.func58, Try.ntmps58
    go_wp2_with fail
    go_ret
    exact ⟨rfl, (Below.refl _ _).alloc (Nat.le_refl _) _⟩
set_option maxRecDepth 100000 in
set_option maxHeartbeats 400000 in
theorem level_any (k : Int) (w : World) : Calls Try.prog 59 #[.int .i64 k] w fun e w' => e = .returned (.int .i64 (rowK k)) ∧ w' = w := by
  go_enter Try.func59, Try.ntmps59
  go_wp2
  all_goals (go_ret; refine ⟨?_, rfl⟩; congr 3; unfold rowK; simp_all)
set_option maxRecDepth 100000 in
set_option maxHeartbeats 1600000 in
theorem kind_any (x : W) (hx : x.kind = 3 → ∃ c, x.text = [c]) (w : World) : Calls Try.prog 60 #[wordV x] w fun e w' => e = .returned (.int .i64 (kindW x)) ∧ Below w.heap.size w w' := by
  unfold wordV
  by_cases hk : x.kind = 3
  · obtain ⟨c, hc⟩ := hx hk
    have e : kindW x = kindC c := by unfold kindW; rw [if_pos hk, hc]; rfl
    rw [e, hk, hc]
    have hb : (ba [c]) = ⟨#[c]⟩ := rfl
    rw [hb]
    have hl : (⟨#[c]⟩ : ByteArray).toList = [c] := ByteArray.toList_mk ..
    unfold kindC
    have key : ∀ e : UInt8, ([c] == [e]) = decide (c = e) := fun e => by
      by_cases h : c = e
      · subst h; simp
      · simp [h]
    have g1 := key 124; have g2 := key 38; have g3 := key 61; have g4 := key 60; have g5 := key 43; have g6 := key 45; have g7 := key 42; have g8 := key 47
    clear key e hc hx
    go_enter Try.func60, Try.ntmps60
    go_wp2_with fail
    all_goals go_ret
    all_goals refine ⟨?_, (Below.refl _ _).alloc (Nat.le_refl _) _⟩
    all_goals first | rfl | simp_all
  · have e : kindW x = 0 := by unfold kindW; rw [if_neg hk]
    rw [e]
    have hk2 : ((x.kind : Int) != 3) = true := by simp; omega
    generalize ba x.text = s at *
    go_enter Try.func60, Try.ntmps60
    go_wp2_with fail
    go_ret
    exact ⟨rfl, (Below.refl _ _).alloc (Nat.le_refl _) _⟩
end
section
open Go.RowKit
set_option linter.unusedVariables false



def atL (l : List W) (i : Nat) : W := l.getD i noW
/-- Words that lie in a block, from a place on. -/
def Lie (w : World) (b o : Nat) (l : List W) : Prop := ∀ i, i < l.length → WAt w b (o + i * 4) (atL l i)
theorem Lie.below {w w' : World} {b o : Nat} {l : List W} (h : Lie w b o l) (hb : Below w.heap.size w w') : Lie w' b o l := fun i hi => (h i hi).below hb
def bestI : Option (Nat × Nat) → Int
  | none => -1
  | some x => x.1
def goG (l : List W) (k : Nat) : Go1 := (l.take k).foldl stepG ⟨0, 0, false, none⟩
theorem goG_zero (l : List W) : goG l 0 = ⟨0, 0, false, none⟩ := rfl
theorem goG_next {l : List W} {k : Nat} (h : k < l.length) : goG l (k + 1) = stepG (goG l k) (atL l k) := by
  have e : l.take (k + 1) = l.take k ++ [atL l k] := by
    unfold atL; rw [List.take_succ_eq_append_getElem h, List.getD_eq_getElem?_getD, List.getElem?_eq_getElem h]; rfl
  unfold goG
  rw [e, List.foldl_append]; rfl
theorem goG_all (l : List W) : (goG l l.length).best.map (·.1) = splitM l := by unfold goG splitM; rw [List.take_length]
/-- What is so of a going through words. -/
structure Gone (l : List W) (k : Nat) (g : Go1) : Prop where
  i : g.i = k
  lo : -(k : Int) ≤ g.deep
  hi : g.deep ≤ k
  en : ∀ j, k = j + 1 → g.en = endW (atL l j)
  en0 : k = 0 → g.en = false
  best : ∀ x, g.best = some x → x.1 < k ∧ x.2 = levW (atL l x.1)
theorem deepW_lo (x : W) (d : Int) : d - 1 ≤ deepW x d ∧ deepW x d ≤ d + 1 := by unfold deepW; split <;> split <;> omega
theorem gone_zero (l : List W) : Gone l 0 (goG l 0) := ⟨rfl, by show -((0 : Nat) : Int) ≤ 0; decide, by show (0 : Int) ≤ ((0 : Nat) : Int); decide, fun j h => absurd h (by omega), fun _ => rfl, fun x h => by simp [goG_zero] at h⟩
theorem Gone.next {l : List W} {k : Nat} (h : Gone l k (goG l k)) (hk : k < l.length) : Gone l (k + 1) (goG l (k + 1)) := by
  rw [goG_next hk]
  have hd := deepW_lo (atL l k) (goG l k).deep
  have := h.lo; have := h.hi
  refine ⟨?_, ?_, ?_, ?_, fun e => by omega, ?_⟩
  · show (goG l k).i + 1 = _; rw [h.i]
  · show _ ≤ deepW _ _; omega
  · show deepW _ _ ≤ _; omega
  · intro j e; have : j = k := by omega
    subst this; rfl
  · intro x hx
    have hx : (if 0 < deepW (atL l k) (goG l k).deep ∨ kindW (atL l k) = 0 ∨ (goG l k).en = false then (goG l k).best else better (goG l k).i (levW (atL l k)) (goG l k).best) = some x := hx
    split at hx
    · obtain ⟨h1, h2⟩ := h.best x hx; exact ⟨by omega, h2⟩
    · rw [h.i] at hx
      cases hb : (goG l k).best with
      | none => rw [hb] at hx; cases hx; exact ⟨Nat.lt_succ_self _, rfl⟩
      | some y =>
        rw [hb] at hx
        unfold better at hx
        simp only at hx
        split at hx
        · cases hx; exact ⟨Nat.lt_succ_self _, rfl⟩
        · cases hx; obtain ⟨h1, h2⟩ := h.best x hb; exact ⟨by omega, h2⟩
theorem all_gone (l : List W) : ∀ k, k ≤ l.length → Gone l k (goG l k)
  | 0, _ => gone_zero l
  | k + 1, h => (all_gone l k (by omega)).next (by omega)
/-- A word as it lies, and what the small functions say of it. -/
theorem is_as {x : W} {c : UInt8} {b : Bool} (h : isW x c = b) (w : World) : Calls Try.prog 58 #[.agg #[.int .i64 x.kind, .string (ba x.text), .int .i64 x.n, .int .i64 x.pos], .string ⟨#[c]⟩] w fun e w' => e = .returned (.bool b) ∧ Below w.heap.size w w' := by
  have := is_any x c w; rw [h] at this; exact this
theorem kind_as {x : W} {k : Int} (hx : x.kind = 3 → ∃ c, x.text = [c]) (h : kindW x = k) (w : World) : Calls Try.prog 60 #[.agg #[.int .i64 x.kind, .string (ba x.text), .int .i64 x.n, .int .i64 x.pos]] w fun e w' => e = .returned (.int .i64 k) ∧ Below w.heap.size w w' := by
  have := kind_any x hx w; rw [h] at this; exact this
theorem level_as {k : Int} {n : Nat} (h : rowK k = n) (w : World) : Calls Try.prog 59 #[.int .i64 k] w fun e w' => e = .returned (.int .i64 n) ∧ w' = w := by
  have := level_any k w; rw [h] at this; exact this
end
end Go.Proofs.Ytfjphlejhcdbaaa
