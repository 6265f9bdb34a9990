/-
  Layer 12, flow: the game of tokens as mathematics (12.5, 12.6).
-/
import Derived.Test.YtlaiacjlphjmlaaFlP
namespace Go.Proofs.Ytlaiacjlphjmlaa
set_option linter.unusedVariables false

structure Tk where
  pos : Nat
  plays : List Nat
structure Gm where
  toks : List Tk
  came : List Nat
def zeroTk : Tk := ⟨0, []⟩
def lastP (l : List Nat) : Nat := l.getD (l.length - 1) 0
def outN (ps : List Pl) (p : Nat) : Nat := (outP ps p).length
def toK (ps : List Pl) (p k : Nat) : Nat := ((outP ps p).getD (k % outN ps p) zeroF).to.toNat
/-- A token goes on. -/
def moveM (ps : List Pl) (s : Fs) (g : Gm) (k b : Nat) : Gm :=
  if kindP ps (g.toks.getD k zeroTk).pos = 8 then ⟨g.toks.eraseIdx k, g.came⟩
  else if kindP ps (g.toks.getD k zeroTk).pos = 4 then ⟨g.toks.eraseIdx k ++ (outP ps (g.toks.getD k zeroTk).pos).map (fun x => ⟨x.to.toNat, (g.toks.getD k zeroTk).plays ++ [g.came.length]⟩), g.came ++ [0]⟩
  else if kindP ps (g.toks.getD k zeroTk).pos = 5 then
    (if g.came.getD (lastP (g.toks.getD k zeroTk).plays) 0 + 1 < outN ps (s.fk.getD (g.toks.getD k zeroTk).pos 0) then ⟨g.toks.eraseIdx k, g.came.set (lastP (g.toks.getD k zeroTk).plays) (g.came.getD (lastP (g.toks.getD k zeroTk).plays) 0 + 1)⟩
     else ⟨g.toks.eraseIdx k ++ [⟨toK ps (g.toks.getD k zeroTk).pos b, (g.toks.getD k zeroTk).plays.dropLast⟩], g.came.set (lastP (g.toks.getD k zeroTk).plays) (g.came.getD (lastP (g.toks.getD k zeroTk).plays) 0 + 1)⟩)
  else ⟨g.toks.eraseIdx k ++ [⟨toK ps (g.toks.getD k zeroTk).pos b, (g.toks.getD k zeroTk).plays⟩], g.came⟩
/-- Plays fit a place. -/
def OkP (s : Fs) (m : Nat) (fo : Nat → Nat) (ou : Nat → List Nat) (p : Nat) (l : List Nat) : Prop := (s.fk.getD p 0 = 0 ∧ l = []) ∨ (s.fk.getD p 0 ≠ 0 ∧ ∃ q, q < m ∧ fo q = s.fk.getD p 0 ∧ l = ou q ++ [q])
def cntT (g : Gm) (x : Option Nat) : Nat := g.toks.countP fun t => t.plays.getLast? == x
def opn (ps : List Pl) (g : Gm) (fo : Nat → Nat) (q : Nat) : Bool := decide (g.came.getD q 0 < outN ps (fo q))
def cntO (ps : List Pl) (g : Gm) (fo : Nat → Nat) (ou : Nat → List Nat) (x : Option Nat) : Nat := (List.range g.came.length).countP fun q => ((ou q).getLast? == x) && opn ps g fo q
structure Ginv (ps : List Pl) (n : Nat) (s : Fs) (g : Gm) (fo : Nat → Nat) (ou : Nat → List Nat) : Prop where
  tok : ∀ t ∈ g.toks, t.pos < n ∧ OkP s g.came.length fo ou t.pos t.plays
  play : ∀ q, q < g.came.length → fo q < n ∧ kindP ps (fo q) = 4 ∧ OkP s g.came.length fo ou (fo q) (ou q)
  cnt : ∀ q, q < g.came.length → cntT g (some q) + cntO ps g fo ou (some q) + g.came.getD q 0 = outN ps (fo q)
  top : cntT g none + cntO ps g fo ou none ≤ 1
theorem countP_erase {α : Type} (p : α → Bool) (z : α) : ∀ (l : List α) (k : Nat), k < l.length → l.countP p = (l.eraseIdx k).countP p + (if p (l.getD k z) = true then 1 else 0)
  | [], k, h => by simp at h
  | a :: l, 0, h => by
    show (a :: l).countP p = l.countP p + (if p a = true then 1 else 0)
    rw [List.countP_cons]
  | a :: l, k + 1, h => by
    have := countP_erase p z l k (by simpa using h)
    show (a :: l).countP p = (a :: l.eraseIdx k).countP p + (if p (l.getD k z) = true then 1 else 0)
    rw [List.countP_cons, List.countP_cons, this]
    omega
theorem getD_memT {l : List Tk} {k : Nat} (h : k < l.length) : l.getD k zeroTk ∈ l := by rw [List.getD_eq_getElem?_getD, List.getElem?_eq_getElem h]; exact List.getElem_mem h
theorem mem_erase {l : List Tk} {k : Nat} {t : Tk} (h : t ∈ l.eraseIdx k) : t ∈ l := List.mem_of_mem_eraseIdx h
section
variable {ps : List Pl} {n : Nat} {s : Fs} {g : Gm} {fo : Nat → Nat} {ou : Nat → List Nat}
theorem OkP.len (hb : Bal ps n s) (hp : ∀ q, q < g.came.length → fo q < n ∧ kindP ps (fo q) = 4 ∧ OkP s g.came.length fo ou (fo q) (ou q)) : ∀ (f p : Nat) (l : List Nat), s.dp.getD p 0 < f → p < n → OkP s g.came.length fo ou p l → l.length = s.dp.getD p 0
  | 0, p, l, hm, hpn, h => absurd hm (Nat.not_lt_zero _)
  | f + 1, p, l, hm, hpn, h => by
    rcases hb.ch p hpn with ⟨h1, h2⟩ | ⟨h1, _, h3⟩
    · rcases h with ⟨_, rfl⟩ | ⟨h4, _⟩
      · rw [h2]; rfl
      · exact absurd h1 h4
    · rcases h with ⟨h4, _⟩ | ⟨_, q, hq, hf, rfl⟩
      · exact absurd h4 h1
      · obtain ⟨p1, p2, p3⟩ := hp q hq
        rw [hf] at p1 p3
        have ih := OkP.len hb hp f (s.fk.getD p 0) (ou q) (by omega) p1 p3
        rw [List.length_append, ih, h3]
        rfl
theorem OkP.last {p : Nat} {l : List Nat} (h : OkP s g.came.length fo ou p l) {x : Nat} (hx : l.getLast? = some x) : x < g.came.length ∧ s.fk.getD p 0 ≠ 0 ∧ fo x = s.fk.getD p 0 ∧ l = ou x ++ [x] := by
  rcases h with ⟨_, rfl⟩ | ⟨h1, q, hq, hf, rfl⟩
  · cases hx
  · have : q = x := by simpa using hx
    subst this
    exact ⟨hq, h1, hf, rfl⟩
theorem OkP.none {p : Nat} {l : List Nat} (h : OkP s g.came.length fo ou p l) : l.getLast? = none ↔ s.fk.getD p 0 = 0 := by
  rcases h with ⟨h1, rfl⟩ | ⟨h1, q, hq, hf, rfl⟩
  · exact ⟨fun _ => h1, fun _ => rfl⟩
  · exact ⟨fun q => by simp at q, fun q => absurd q h1⟩
theorem cntT_at (x : Option Nat) {k : Nat} (hk : k < g.toks.length) : cntT g x = (g.toks.eraseIdx k).countP (fun t => t.plays.getLast? == x) + (if ((g.toks.getD k zeroTk).plays.getLast? == x) = true then 1 else 0) := countP_erase _ zeroTk _ k hk
theorem beq_opt {x y : Option Nat} : ((x == y) = true) ↔ x = y := by simp
theorem Ginv.plen (h : Ginv ps n s g fo ou) (hb : Bal ps n s) : ∀ t ∈ g.toks, t.pos < n ∧ t.plays.length = s.dp.getD t.pos 0 := fun t ht => ⟨(h.tok t ht).1, OkP.len hb h.play (s.dp.getD t.pos 0 + 1) t.pos t.plays (Nat.lt_succ_self _) (h.tok t ht).1 (h.tok t ht).2⟩
/-- A play with something alive in it is open. -/
theorem Ginv.opens (h : Ginv ps n s g fo ou) {q : Nat} (hq : q < g.came.length) (hl : 0 < cntT g (some q) + cntO ps g fo ou (some q)) : opn ps g fo q = true := by
  have := h.cnt q hq
  exact decide_eq_true (by omega)
theorem cntO_pos {x : Option Nat} {q : Nat} (hq : q < g.came.length) (h1 : (ou q).getLast? = x) (h2 : opn ps g fo q = true) : 0 < cntO ps g fo ou x := by
  unfold cntO
  rw [List.countP_pos_iff]
  exact ⟨q, List.mem_range.mpr hq, by rw [beq_opt.mpr h1, h2]; rfl⟩
/-- No play is open while a token is outside of all. -/
theorem Ginv.shut (h : Ginv ps n s g fo ou) (h0 : cntO ps g fo ou none = 0) : ∀ (m q : Nat), (ou q).length < m → q < g.came.length → opn ps g fo q = true → False
  | 0, q, hm, _, _ => absurd hm (Nat.not_lt_zero _)
  | m + 1, q, hm, hq, ho => by
    obtain ⟨_, _, hk⟩ := h.play q hq
    cases hl : (ou q).getLast? with
    | none => have := cntO_pos (ou := ou) hq hl ho; omega
    | some x =>
      obtain ⟨x1, _, _, x4⟩ := hk.last hl
      have h1 := cntO_pos (ou := ou) hq hl ho
      have h2 := h.opens x1 (by omega)
      refine h.shut h0 m x ?_ x1 h2
      have := congrArg List.length x4
      rw [List.length_append] at this
      simp at this
      omega
theorem Ginv.single (h : Ginv ps n s g fo ou) (hb : Bal ps n s) {k : Nat} (hk : k < g.toks.length) (h8 : kindP ps (g.toks.getD k zeroTk).pos = 8) : g.toks.length = 1 := by
  obtain ⟨h1, h2⟩ := h.tok _ (getD_memT hk)
  have hn : (g.toks.getD k zeroTk).plays.getLast? = none := h2.none.mpr (hb.e8 _ h1 h8)
  have hc := cntT_at (g := g) none hk
  rw [if_pos (beq_opt.mpr hn)] at hc
  have ht := h.top
  have hz : (g.toks.eraseIdx k).countP (fun t => t.plays.getLast? == none) = 0 := by omega
  have ho : cntO ps g fo ou none = 0 := by omega
  have hl := List.length_eraseIdx_of_lt hk
  cases hr : g.toks.eraseIdx k with
  | nil => rw [hr] at hl; simp at hl; omega
  | cons t r =>
    have hm : t ∈ g.toks.eraseIdx k := by rw [hr]; exact List.mem_cons_self ..
    obtain ⟨_, t2⟩ := h.tok t (mem_erase hm)
    cases hl2 : t.plays.getLast? with
    | none =>
      have : 0 < (g.toks.eraseIdx k).countP (fun t => t.plays.getLast? == none) := List.countP_pos_iff.mpr ⟨t, hm, beq_opt.mpr hl2⟩
      omega
    | some x =>
      obtain ⟨x1, _, _, _⟩ := t2.last hl2
      have : 0 < cntT g (some x) := List.countP_pos_iff.mpr ⟨t, mem_erase hm, beq_opt.mpr hl2⟩
      exact absurd (h.opens x1 (by omega)) fun q => h.shut ho _ x (Nat.lt_succ_self _) x1 q
end
theorem count_flip (p p' : Nat → Bool) (q : Nat) (h0 : p' q = false) (he : ∀ i, i ≠ q → p' i = p i) : ∀ m, q < m → (List.range m).countP p = (List.range m).countP p' + (if p q = true then 1 else 0)
  | 0, h => absurd h (Nat.not_lt_zero _)
  | m + 1, h => by
    rw [List.range_succ, List.countP_append, List.countP_append]
    by_cases hm : q = m
    · subst hm
      have : (List.range q).countP p = (List.range q).countP p' := List.countP_congr fun i hi => by
        rw [he i (by have := List.mem_range.mp hi; omega)]
      rw [this, List.countP_singleton, List.countP_singleton, h0]
      simp
    · have ih := count_flip p p' q h0 he m (by omega)
      rw [ih, List.countP_singleton, List.countP_singleton, he m (fun e => hm e.symm)]
      omega
end Go.Proofs.Ytlaiacjlphjmlaa
