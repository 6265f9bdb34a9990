/-
  Members, messages and worlds as mathematics: what each call makes of a member, and what it sends.
-/
import Derived.Test.YtfmfphfckaiejaaJab
import Derived.Test.YtfmfphfckaiejaaJad
namespace Go.Proofs.Ytfmfphfckaiejaa
section
set_option linter.unusedVariables false


/-- Up to where a majority has come. -/
def reachM (l : List Int) : Int := if l.length = 0 then 0 else (sortM l).getD (l.length - (l.length / 2 + 1)) 0
theorem reach_rch (l : List Int) : Rch l (reachM l) := by
  unfold reachM
  split
  · rename_i h; exact rch_none h
  · rename_i h; exact Rch.sorted (by omega) (by omega)
/-- A member. -/
structure Mb where
  id : Int
  n : Int
  term : Int
  vote : Int
  role : Int
  lead : Int
  b : Int
  bt : Int
  es : List En
  commit : Int
  snap : BB
  granted : List Bool
  next : List Int
  mtch : List Int
  clock : Int
  wait : Int
/-- A message. -/
structure Ms where
  kind : Int
  grp : Int
  frm : Int
  to : Int
  term : Int
  at_ : Int
  att : Int
  commit : Int
  ok : Bool
  ents : List En
  data : BB
def zMb : Mb := ⟨0, 0, 0, 0, 0, 0, 0, 0, [], 0, [], [], [], [], 0, 0⟩
def zMs : Ms := ⟨0, 0, 0, 0, 0, 0, 0, 0, false, [], []⟩
def Mb.last (m : Mb) : Int := m.b + m.es.length
def Mb.lastT (m : Mb) : Int := (termM m.b m.bt m.es m.last).1
/-- 15.1 -/
abbrev amongM (id n : Int) : Prop := 1 ≤ id ∧ id ≤ n ∧ n ≤ 7
def newM (id n : Int) : Mb × Int := if amongM id n then ({ zMb with id := id, n := n, wait := 10 + id }, 0) else (zMb, 2)
/-- 15.2 -/
def restartM (id n term vote b bt : Int) (es : List En) (snap : BB) : Mb × Int :=
  if amongM id n then
    if (0 ≤ term ∧ term ≤ 1099511627776) ∧ (0 ≤ vote ∧ vote ≤ n) ∧ chkM b bt es = 0 ∧ (termM b bt es (b + es.length)).1 ≤ term then
      ({ zMb with id := id, n := n, wait := 10 + id, term := term, vote := vote, b := b, bt := bt, es := es, snap := snap, commit := b }, 0)
    else (zMb, 1)
  else (zMb, 2)
/-- 15.3 -/
def followM (m : Mb) (term who : Int) : Mb := { m with term := if m.term < term then term else m.term, vote := if m.term < term then 0 else m.vote, role := 0, lead := who, granted := [], next := [], mtch := [] }
def oneB (n who : Int) : List Bool := (List.replicate n.toNat false).set (who - 1).toNat true
/-- To each of the first k but itself. -/
def toM (id : Int) (f : Int → Ms) : Nat → List Ms
  | 0 => []
  | k + 1 => toM id f k ++ (if (k : Int) + 1 = id then [] else [f ((k : Int) + 1)])
def bidM (m : Mb) (kind term to : Int) : Ms := { zMs with kind := kind, frm := m.id, to := to, term := term, at_ := m.last, att := m.lastT }
/-- 15.8 -/
def commitM (m : Mb) : Int := if (termM m.b m.bt m.es (reachM m.mtch)).2 = true ∧ (termM m.b m.bt m.es (reachM m.mtch)).1 = m.term ∧ m.commit < reachM m.mtch then reachM m.mtch else m.commit
/-- 15.9 -/
def tellM (m : Mb) (to : Int) : Ms :=
  if m.next.getD (to - 1).toNat 0 ≤ m.b then { zMs with kind := 7, frm := m.id, to := to, term := m.term, commit := m.commit, at_ := m.b, att := m.bt, data := m.snap }
  else { zMs with kind := 5, frm := m.id, to := to, term := m.term, commit := m.commit, at_ := m.next.getD (to - 1).toNat 0 - 1, att := (termM m.b m.bt m.es (m.next.getD (to - 1).toNat 0 - 1)).1, ents := fromM m.b m.es (m.next.getD (to - 1).toNat 0) 8 }
def tellAllM (m : Mb) : List Ms := toM m.id (tellM m) m.n.toNat
/-- 15.7, up to what is committed. -/
def addM (m : Mb) (data : BB) : Mb := { m with es := m.es ++ [(m.term, data)], mtch := m.mtch.set (m.id - 1).toNat (m.last + 1) }
def lookM (m : Mb) : Mb := { m with commit := commitM m }
def behindM (m : Mb) (data : BB) : Mb × List Ms := (lookM (addM m data), tellAllM (lookM (addM m data)))
/-- 15.6, up to the entry. -/
def lead0M (m : Mb) : Mb := { followM m m.term m.id with role := 3, clock := 0, next := List.replicate m.n.toNat (m.last + 1), mtch := List.replicate m.n.toNat 0 }
def leadM (m : Mb) : Mb × List Ms := behindM (lead0M m) []
/-- 15.5, up to the messages. -/
def stand0M (m : Mb) : Mb := { followM m (m.term + 1) 0 with vote := m.id, role := 2, clock := 0, granted := oneB m.n m.id }
def standM (m : Mb) : Mb × List Ms := if m.n = 1 then leadM (stand0M m) else (stand0M m, toM m.id (bidM (stand0M m) 3 (m.term + 1)) m.n.toNat)
/-- 15.4 -/
def ask0M (m : Mb) (draw : Int) : Mb := { followM m m.term 0 with role := 1, clock := 0, wait := 10 + draw % 18446744073709551616 % 10, granted := oneB m.n m.id }
def askM (m : Mb) (draw : Int) : Mb × List Ms := if m.n = 1 then standM (ask0M m draw) else (ask0M m draw, toM m.id (bidM (ask0M m draw) 1 (m.term + 1)) m.n.toNat)
/-- 15.10 -/
def tickM (m : Mb) (draw : Int) : Mb × List Ms :=
  if m.role = 3 then
    if m.clock + 1 < 2 then ({ m with clock := m.clock + 1 }, []) else ({ m with clock := 0 }, tellAllM { m with clock := 0 })
  else if m.clock + 1 < m.wait then ({ m with clock := m.clock + 1 }, []) else askM { m with clock := m.clock + 1 } draw
/-- 15.17 -/
def proposeM (m : Mb) (data : BB) : Mb × Int × List Ms × Int := if m.role = 3 then ((behindM m data).1, (behindM m data).1.last, (behindM m data).2, 0) else (m, 0, [], 15)
/-- 15.18 -/
def compactM (m : Mb) (upto : Int) (snap : BB) : Mb × Int :=
  if upto ≤ m.b ∨ m.commit < upto then (m, 2)
  else if (termM m.b m.bt m.es upto).2 = true then ({ m with b := upto, bt := (termM m.b m.bt m.es upto).1, es := m.es.drop (upto - m.b).toNat, snap := snap }, 0) else (m, 2)
/-- A world: members, messages on their way. -/
structure Wd where
  R : List Mb
  net : List Ms
/-- An act. -/
structure Op where
  kind : Int
  who : Int
  n : Int
  data : BB
def cutM (l : List Ms) : List Ms := l.drop (l.length - 60)
def setW (w : Wd) (i : Nat) (r : Mb) (l : List Ms) : Wd := ⟨w.R.set i r, cutM (w.net ++ l)⟩
def takeW (w : Wd) (k : Nat) (keep : Bool) : Wd := ⟨w.R, w.net.take k ++ (if keep = true then [w.net.getD k zMs] else []) ++ w.net.drop (k + 1)⟩
def beginW (n : Nat) : Wd := ⟨(List.range n).map fun (k : Nat) => (newM ((k : Int) + 1) n).1, []⟩
end
section
set_option linter.unusedVariables false


/-- The term at a place of a whole log; 0 at none. -/
def tmL (L : List En) (p : Nat) : Int := if p = 0 then 0 else tOf L (p - 1)
theorem tOf_beyond {L : List En} {k : Nat} (h : L.length ≤ k) : tOf L k = 0 := by
  unfold tOf; rw [List.getD_eq_getElem?_getD, List.getElem?_eq_none h]; rfl
theorem tm_in {L : List En} {p : Nat} (h : 1 ≤ tmL L p) : 1 ≤ p ∧ p ≤ L.length := by
  unfold tmL at h
  split at h
  · omega
  · refine ⟨by omega, ?_⟩
    by_cases q : p ≤ L.length
    · exact q
    · rw [tOf_beyond (by omega)] at h; omega
/-- Two logs are the same up to a place that both have. -/
def Agr (L M : List En) (p : Nat) : Prop := p ≤ L.length ∧ p ≤ M.length ∧ L.take p = M.take p
theorem Agr.symm {L M : List En} {p : Nat} (h : Agr L M p) : Agr M L p := ⟨h.2.1, h.1, h.2.2.symm⟩
theorem Agr.le {L M : List En} {p q : Nat} (h : Agr L M p) (hq : q ≤ p) : Agr L M q := by
  refine ⟨Nat.le_trans hq h.1, Nat.le_trans hq h.2.1, ?_⟩
  have := congrArg (List.take q) h.2.2
  rwa [List.take_take, List.take_take, Nat.min_eq_left hq] at this
theorem Agr.trans {L M K : List En} {p : Nat} (h : Agr L M p) (h2 : Agr M K p) : Agr L K p := ⟨h.1, h2.2.1, h.2.2.trans h2.2.2⟩
theorem Agr.self {L : List En} {p : Nat} (h : p ≤ L.length) : Agr L L p := ⟨h, h, rfl⟩
theorem Agr.zero (L M : List En) : Agr L M 0 := ⟨Nat.zero_le _, Nat.zero_le _, by simp⟩
theorem Agr.tm {L M : List En} {p q : Nat} (h : Agr L M p) (hq : q ≤ p) : tmL L q = tmL M q := by
  unfold tmL
  split
  · rfl
  · have h1 := tOf_take (es := L) (k := p) (i := q - 1) (by omega)
    have h2 := tOf_take (es := M) (k := p) (i := q - 1) (by omega)
    rw [← h1, ← h2, h.2.2]
theorem Agr.takeR {L M : List En} {p q : Nat} (h : Agr L M p) (hq : p ≤ q) : Agr L (M.take q) p :=
  ⟨h.1, by rw [List.length_take]; have := h.2.1; omega, by rw [List.take_take, Nat.min_eq_left hq]; exact h.2.2⟩
theorem Agr.take {L : List En} {p : Nat} (h : p ≤ L.length) : Agr (L.take p) L p := ((Agr.self h).takeR (Nat.le_refl _)).symm
/-- A majority of n. -/
def Maj (n : Nat) (P : Int → Prop) : Prop := ∃ l : List Bool, l.length = n ∧ wonM l = true ∧ ∀ k, k < n → l.getD k false = true → P ((k : Int) + 1)
theorem Maj.mono {n : Nat} {P Q : Int → Prop} (h : Maj n P) (hi : ∀ j : Int, 1 ≤ j → j ≤ n → P j → Q j) : Maj n Q := by
  obtain ⟨l, h1, h2, h3⟩ := h
  exact ⟨l, h1, h2, fun k hk e => hi ((k : Int) + 1) (by omega) (by omega) (h3 k hk e)⟩
theorem Maj.meet {n : Nat} {P Q : Int → Prop} (h : Maj n P) (h2 : Maj n Q) : ∃ j : Int, 1 ≤ j ∧ j ≤ n ∧ P j ∧ Q j := by
  obtain ⟨l, a1, a2, a3⟩ := h
  obtain ⟨m, b1, b2, b3⟩ := h2
  have hb := both_meet (a1.trans b1.symm) a2 b2
  refine Classical.byContradiction fun hn => ?_
  rw [both_none fun k k1 k2 k3 k4 => hn ⟨(k : Int) + 1, by omega, by omega, a3 k (by omega) k3, b3 k (by omega) k4⟩] at hb
  cases hb
theorem Maj.some {n : Nat} {P : Int → Prop} (h : Maj n P) : ∃ j : Int, 1 ≤ j ∧ j ≤ n ∧ P j := by
  obtain ⟨j, h1, h2, h3, _⟩ := h.meet h
  exact ⟨j, h1, h2, h3⟩
/-- What no member sees. -/
structure Gh where
  n : Nat
  cur : Int → Int
  F : Int → List En
  ldr : Int → Int
  LL : Int → List En
  vt : Int → Int → Int
  cand : Int → Int → List En
  ack : Int → Int → Nat
/-- A log whose entries were all made by who led in their terms. -/
def Lg (g : Gh) (L : List En) : Prop := ∀ p, 1 ≤ p → p ≤ L.length → 1 ≤ tmL L p ∧ g.ldr (tmL L p) ≠ 0 ∧ Agr L (g.LL (tmL L p)) p ∧ tmL L (p - 1) ≤ tmL L p
theorem Lg.mono {g : Gh} {L : List En} (h : Lg g L) : ∀ p q, q ≤ p → p ≤ L.length → tmL L q ≤ tmL L p
  | 0, q, hq, _ => by
    obtain rfl : q = 0 := by omega
    exact Int.le_refl _
  | p + 1, q, hq, hp => by
    by_cases e : q = p + 1
    · subst e; exact Int.le_refl _
    · exact Int.le_trans (h.mono p q (by omega) (by omega)) (h (p + 1) (by omega) hp).2.2.2
theorem Lg.take {g : Gh} {L : List En} (h : Lg g L) (k : Nat) : Lg g (L.take k) := by
  intro p hp hl
  rw [List.length_take] at hl
  have ha := (Agr.take (L := L) (p := min k L.length) (by omega))
  rw [show L.take (min k L.length) = L.take k by
    by_cases q : k ≤ L.length
    · rw [Nat.min_eq_left q]
    · rw [Nat.min_eq_right (by omega), List.take_of_length_le (Nat.le_refl _), List.take_of_length_le (by omega)]] at ha
  have e1 := ha.tm (q := p) (by omega)
  have e2 := ha.tm (q := p - 1) (by omega)
  obtain ⟨q1, q2, q3, q4⟩ := h p hp (by omega)
  rw [e1, e2]
  exact ⟨q1, q2, (ha.le (by omega)).trans q3, q4⟩
theorem Lg.nil (g : Gh) : Lg g [] := fun p hp hl => by simp at hl; omega
/-- Can a place of what was led in a term still be acknowledged by a majority? -/
def Poss (g : Gh) (T : Int) (p : Nat) : Prop := Maj g.n fun j => p ≤ g.ack j T ∨ g.cur j ≤ T
/-- It was. -/
def Chosen (g : Gh) (T : Int) (p : Nat) : Prop := 1 ≤ T ∧ tmL (g.LL T) p = T ∧ Maj g.n fun j => p ≤ g.ack j T
theorem Chosen.poss {g : Gh} {T : Int} {p : Nat} (h : Chosen g T p) : Poss g T p := h.2.2.mono fun _ _ _ q => .inl q
structure GOk (g : Gh) : Prop where
  vc : ∀ T j, g.vt T j ≠ 0 → T ≤ g.cur j
  vs : ∀ T j, g.vt T j ≠ 0 → g.vt T (g.vt T j) = g.vt T j
  lm : ∀ T, g.ldr T ≠ 0 → Maj g.n fun j => g.vt T j = g.ldr T
  l0 : ∀ T, g.ldr T = 0 → g.LL T = [] ∧ ∀ j, g.ack j T = 0
  fF : ∀ j, Lg g (g.F j)
  fL : ∀ T, Lg g (g.LL T)
  fC : ∀ T c, c ≠ 0 → g.vt T c = c → Lg g (g.cand T c)
  tF : ∀ j p, p ≤ (g.F j).length → tmL (g.F j) p ≤ g.cur j
  tL : ∀ T p, 1 ≤ p → p ≤ (g.LL T).length → tmL (g.LL T) p ≤ T
  tC : ∀ T c, c ≠ 0 → g.vt T c = c → ∀ p, p ≤ (g.cand T c).length → tmL (g.cand T c) p < T
  c0 : ∀ j, 0 ≤ g.cur j
  aL : ∀ j T, g.ack j T ≤ (g.LL T).length
  aC : ∀ j T, g.ack j T ≠ 0 → T ≤ g.cur j
  a6 : ∀ j, Agr (g.F j) (g.LL (g.cur j)) (g.ack j (g.cur j))
  a7 : ∀ j T p, 1 ≤ T → tmL (g.LL T) p = T → p ≤ g.ack j T → Poss g T p → Agr (g.F j) (g.LL T) p
  a8 : ∀ T T' p, T < T' → g.ldr T' ≠ 0 → 1 ≤ T → tmL (g.LL T) p = T → Poss g T p → Agr (g.LL T) (g.LL T') p
  a9 : ∀ j T' T p, g.vt T' j ≠ 0 → T < T' → 1 ≤ T → tmL (g.LL T) p = T → p ≤ g.ack j T → Poss g T p → Agr (g.LL T) (g.cand T' (g.vt T' j)) p
/-- What a step of member i may turn. -/
structure Ext (g g' : Gh) (i : Int) : Prop where
  n : g'.n = g.n
  ld : ∀ T, g.ldr T ≠ 0 → g'.ldr T = g.ldr T
  LL : ∀ T, Agr (g.LL T) (g'.LL T) (g.LL T).length
  vt : ∀ T j, g.vt T j ≠ 0 → g'.vt T j = g.vt T j
  ca : ∀ T c, c ≠ 0 → g.vt T c = c → g'.cand T c = g.cand T c
  ack : ∀ j T, g.ack j T ≤ g'.ack j T
  oF : ∀ j, j ≠ i → g'.F j = g.F j
  oc : ∀ j, j ≠ i → g'.cur j = g.cur j
  ov : ∀ T j, j ≠ i → g'.vt T j = g.vt T j
  oL : ∀ T, g.ldr T ≠ 0 → g.ldr T ≠ i → g'.LL T = g.LL T
  ol : ∀ T, g'.ldr T ≠ 0 → g'.ldr T ≠ i → g.ldr T = g'.ldr T
theorem Ext.refl (g : Gh) (i : Int) : Ext g g i := ⟨rfl, fun _ _ => rfl, fun _ => Agr.self (Nat.le_refl _), fun _ _ _ => rfl, fun _ _ _ _ => rfl, fun _ _ => Nat.le_refl _, fun _ _ => rfl, fun _ _ => rfl, fun _ _ _ => rfl, fun _ _ _ => rfl, fun _ _ _ => rfl⟩
theorem Ext.trans {g g' g'' : Gh} {i : Int} (h : Ext g g' i) (h2 : Ext g' g'' i) : Ext g g'' i where
  n := h2.n.trans h.n
  ld T q := (h2.ld T (by rw [h.ld T q]; exact q)).trans (h.ld T q)
  LL T := (h.LL T).trans ((h2.LL T).le (h.LL T).2.1)
  vt T j q := (h2.vt T j (by rw [h.vt T j q]; exact q)).trans (h.vt T j q)
  ca T c q0 q := (h2.ca T c q0 (by rw [h.vt T c (by rw [q]; exact q0)]; exact q)).trans (h.ca T c q0 q)
  ack j T := Nat.le_trans (h.ack j T) (h2.ack j T)
  oF j q := (h2.oF j q).trans (h.oF j q)
  oc j q := (h2.oc j q).trans (h.oc j q)
  ov T j q := (h2.ov T j q).trans (h.ov T j q)
  oL T q0 q := (h2.oL T (by rw [h.ld T q0]; exact q0) (by rw [h.ld T q0]; exact q)).trans (h.oL T q0 q)
  ol T q0 q := by
    have e := h2.ol T q0 q
    rw [← e] at q0 q ⊢
    exact h.ol T q0 q
theorem Chosen.ext {g g' : Gh} {i T : Int} {p : Nat} (h : Chosen g T p) (e : Ext g g' i) : Chosen g' T p := by
  obtain ⟨h1, h2, h3⟩ := h
  refine ⟨h1, ?_, by rw [e.n]; exact h3.mono fun j _ _ q => Nat.le_trans q (e.ack j T)⟩
  rw [← (e.LL T).tm (tm_in (by rw [h2]; exact h1)).2, h2]
/-- So much of a log is known to stay. -/
def Cmt (g : Gh) (t : Int) (L : List En) (c : Nat) : Prop := c = 0 ∨ ∃ T p, Chosen g T p ∧ c ≤ p ∧ T ≤ t ∧ Agr L (g.LL T) c
theorem Cmt.len {g : Gh} {t : Int} {L : List En} {c : Nat} (h : Cmt g t L c) : c ≤ L.length := by
  rcases h with rfl | ⟨T, p, _, _, _, h⟩
  · exact Nat.zero_le _
  · exact h.1
theorem Cmt.ext {g g' : Gh} {i t : Int} {L : List En} {c : Nat} (h : Cmt g t L c) (e : Ext g g' i) : Cmt g' t L c := by
  rcases h with rfl | ⟨T, p, h1, h2, h3, h4⟩
  · exact .inl rfl
  · exact .inr ⟨T, p, h1.ext e, h2, h3, h4.trans ((e.LL T).le h4.2.1)⟩
theorem Cmt.up {g : Gh} {t t' : Int} {L : List En} {c : Nat} (h : Cmt g t L c) (e : t ≤ t') : Cmt g t' L c := by
  rcases h with rfl | ⟨T, p, h1, h2, h3, h4⟩
  · exact .inl rfl
  · exact .inr ⟨T, p, h1, h2, Int.le_trans h3 e, h4⟩
theorem Cmt.le {g : Gh} {t : Int} {L : List En} {c d : Nat} (h : Cmt g t L c) (e : d ≤ c) : Cmt g t L d := by
  rcases h with rfl | ⟨T, p, h1, h2, h3, h4⟩
  · exact .inl (by omega)
  · exact .inr ⟨T, p, h1, Nat.le_trans e h2, h3, h4.le e⟩
/-- Who leads has what is known to stay. -/
theorem Chosen.lead {g : Gh} (G : GOk g) {T T' : Int} {p : Nat} (h : Chosen g T p) (hT : T ≤ T') (hl : g.ldr T' ≠ 0) : Agr (g.LL T) (g.LL T') p := by
  by_cases e : T = T'
  · subst e
    exact Agr.self (tm_in (by rw [h.2.1]; exact h.1)).2
  · exact G.a8 T T' p (by omega) hl h.1 h.2.1 h.poss
theorem Cmt.lead {g : Gh} (G : GOk g) {t : Int} {L : List En} {c : Nat} (h : Cmt g t L c) (hl : g.ldr t ≠ 0) : Agr L (g.LL t) c := by
  rcases h with rfl | ⟨T, p, h1, h2, h3, h4⟩
  · exact Agr.zero _ _
  · exact h4.trans ((h1.lead G h3 hl).le h2)
/-- Another log that goes on with who leads as far. -/
theorem Cmt.other {g : Gh} (G : GOk g) {t : Int} {L M : List En} {c : Nat} (h : Cmt g t L c) (hl : g.ldr t ≠ 0) (hM : Agr M (g.LL t) c) : Cmt g t M c := by
  rcases h with rfl | ⟨T, p, h1, h2, h3, h4⟩
  · exact .inl rfl
  · exact .inr ⟨T, p, h1, h2, h3, hM.trans ((h1.lead G h3 hl).le h2).symm⟩
/-- Two that are known to stay are one. -/
theorem Chosen.two {g : Gh} (G : GOk g) {T T' : Int} {p p' : Nat} (h : Chosen g T p) (h' : Chosen g T' p') (hT : T ≤ T') : Agr (g.LL T) (g.LL T') p := by
  refine h.lead G hT fun e => ?_
  have h1 := (tm_in (L := g.LL T') (p := p') (by rw [h'.2.1]; exact h'.1))
  rw [(G.l0 T' e).1] at h1
  simp at h1
  omega
/-- A log in memory: from where on, and which entries. -/
def Lay (L : List En) (b bt : Int) (es : List En) : Prop := ∃ k : Nat, b = k ∧ k ≤ L.length ∧ es = L.drop k ∧ bt = tmL L k
structure MOk (g : Gh) (m : Mb) : Prop where
  i1 : 1 ≤ m.id
  i2 : m.id ≤ m.n
  i3 : m.n = g.n
  t : g.cur m.id = m.term
  v : g.vt m.term m.id = m.vote
  lg : Lay (g.F m.id) m.b m.bt m.es
  cm : ∃ c : Nat, m.commit = c ∧ m.b ≤ m.commit ∧ Cmt g m.term (g.F m.id) c
  r1 : m.role = 1 → m.granted.length = g.n
  r2 : m.role = 2 → m.granted.length = g.n ∧ m.vote = m.id ∧ g.cand m.term m.id = g.F m.id ∧ g.ldr m.term ≠ m.id ∧ ∀ k, k < g.n → m.granted.getD k false = true → g.vt m.term ((k : Int) + 1) = m.id
  r3 : m.role = 3 → g.ldr m.term = m.id ∧ g.LL m.term = g.F m.id ∧ m.mtch.length = g.n ∧ m.next.length = g.n ∧ (∀ k, k < g.n → 0 ≤ m.mtch.getD k 0 ∧ m.mtch.getD k 0 ≤ g.ack ((k : Int) + 1) m.term) ∧ ∀ k, k < g.n → 1 ≤ m.next.getD k 0 ∧ m.next.getD k 0 ≤ (g.F m.id).length + 1
  ld : m.role = 3 ↔ m.lead = m.id
theorem MOk.ext {g g' : Gh} {i : Int} {m : Mb} (h : MOk g m) (e : Ext g g' i) (hi : m.id ≠ i) : MOk g' m where
  i1 := h.i1
  i2 := h.i2
  i3 := by rw [e.n]; exact h.i3
  t := by rw [e.oc _ hi]; exact h.t
  v := by rw [e.ov _ _ hi]; exact h.v
  lg := by rw [e.oF _ hi]; exact h.lg
  cm := by
    obtain ⟨c, h1, h2, h3⟩ := h.cm
    exact ⟨c, h1, h2, by rw [e.oF _ hi]; exact h3.ext e⟩
  r1 := by rw [e.n]; exact h.r1
  r2 := fun q => by
    obtain ⟨h1, h2, h3, h4, h5⟩ := h.r2 q
    have hp := h.i1
    rw [e.n]
    refine ⟨h1, h2, ?_, fun q2 => ?_, fun k hk q2 => ?_⟩
    · rw [e.ca _ _ (by omega) (by rw [h.v]; exact h2), e.oF _ hi]; exact h3
    · exact h4 ((e.ol m.term (by rw [q2]; omega) (by rw [q2]; exact hi)).trans q2)
    · have h6 := h5 k hk q2
      rw [e.vt _ _ (by rw [h6]; omega)]; exact h6
  r3 := fun q => by
    obtain ⟨h1, h2, h3, h4, h5, h6⟩ := h.r3 q
    have hp := h.i1
    rw [e.n, e.oF _ hi, e.ld _ (by rw [h1]; omega), e.oL _ (by rw [h1]; omega) (by rw [h1]; exact hi)]
    exact ⟨h1, h2, h3, h4, fun k hk => ⟨(h5 k hk).1, by have := (h5 k hk).2; have := e.ack ((k : Int) + 1) m.term; omega⟩, h6⟩
  ld := h.ld
structure XOk (g : Gh) (x : Ms) : Prop where
  f1 : 1 ≤ x.frm
  f2 : x.frm ≤ g.n
  o1 : 1 ≤ x.to
  o2 : x.to ≤ g.n
  k3 : x.kind = 3 → g.vt x.term x.frm = x.frm ∧ x.at_ = (g.cand x.term x.frm).length ∧ x.att = tmL (g.cand x.term x.frm) (g.cand x.term x.frm).length
  k4 : x.kind = 4 → x.ok = true → g.vt x.term x.frm = x.to
  k5 : x.kind = 5 → g.ldr x.term = x.frm ∧ ∃ a c : Nat, x.at_ = a ∧ x.commit = c ∧ a + x.ents.length ≤ (g.LL x.term).length ∧ x.ents = ((g.LL x.term).drop a).take x.ents.length ∧ x.att = tmL (g.LL x.term) a ∧ Cmt g x.term (g.LL x.term) c
  k6 : x.kind = 6 → x.ok = true → ∃ a : Nat, x.at_ = a ∧ a ≤ g.ack x.frm x.term
  k7 : x.kind = 7 → g.ldr x.term = x.frm ∧ ∃ a : Nat, x.at_ = a ∧ x.att = tmL (g.LL x.term) a ∧ Cmt g x.term (g.LL x.term) a
theorem drop_take_agr {L M : List En} {p a k : Nat} (h : Agr L M p) (hk : a + k ≤ p) : (L.drop a).take k = (M.drop a).take k := by
  rw [List.take_drop, List.take_drop, (h.le hk).2.2]
theorem XOk.ext {g g' : Gh} {i : Int} {x : Ms} (h : XOk g x) (e : Ext g g' i) : XOk g' x where
  f1 := h.f1
  f2 := by rw [e.n]; exact h.f2
  o1 := h.o1
  o2 := by rw [e.n]; exact h.o2
  k3 := fun q => by
    obtain ⟨h1, h2, h3⟩ := h.k3 q
    have hp := h.f1
    rw [e.vt _ _ (by rw [h1]; omega), e.ca _ _ (by omega) h1]
    exact ⟨h1, h2, h3⟩
  k4 := fun q q2 => by
    have h1 := h.k4 q q2
    have hp := h.o1
    rw [e.vt _ _ (by rw [h1]; omega)]; exact h1
  k5 := fun q => by
    obtain ⟨h1, a, c, h2, h3, h4, h5, h6, h7⟩ := h.k5 q
    have hp := h.f1
    rw [e.ld _ (by rw [h1]; omega)]
    have hl := e.LL x.term
    have hl2 := hl.2.1
    refine ⟨h1, a, c, h2, h3, by omega, ?_, ?_, ?_⟩
    · rw [← drop_take_agr hl h4]; exact h5
    · rw [← hl.tm (by omega)]; exact h6
    · rcases h7 with rfl | ⟨T, p, q1, q2, q3, q4⟩
      · exact .inl rfl
      · exact .inr ⟨T, p, q1.ext e, q2, q3, ((hl.symm.le q4.1).trans q4).trans ((e.LL T).le q4.2.1)⟩
  k6 := fun q q2 => by
    obtain ⟨a, h1, h2⟩ := h.k6 q q2
    exact ⟨a, h1, Nat.le_trans h2 (e.ack _ _)⟩
  k7 := fun q => by
    obtain ⟨h1, a, h2, h6, h7⟩ := h.k7 q
    have hp := h.f1
    rw [e.ld _ (by rw [h1]; omega)]
    have hl := e.LL x.term
    have hc := h7.len
    refine ⟨h1, a, h2, ?_, ?_⟩
    · rw [← hl.tm hc]; exact h6
    · rcases h7 with rfl | ⟨T, p, q1, q2, q3, q4⟩
      · exact .inl rfl
      · exact .inr ⟨T, p, q1.ext e, q2, q3, ((hl.symm.le q4.1).trans q4).trans ((e.LL T).le q4.2.1)⟩
end
section
set_option linter.unusedVariables false


/-- What a call makes of a member, and sends, is as it must be. -/
def ActM (g : Gh) (m : Mb) (r : Mb × List Ms) : Prop := ∃ g', GOk g' ∧ Ext g g' m.id ∧ MOk g' r.1 ∧ r.1.id = m.id ∧ ∀ x, x ∈ r.2 → XOk g' x
theorem ActM.next {g g1 : Gh} {m m1 : Mb} {r : Mb × List Ms} (h : ActM g1 m1 r) (e : Ext g g1 m.id) (hi : m1.id = m.id) : ActM g m r := by
  obtain ⟨g', h1, h2, h3, h4, h5⟩ := h
  rw [hi] at h2 h4
  exact ⟨g', h1, e.trans h2, h3, h4, h5⟩
section
variable {g : Gh} {m : Mb}
theorem Lay.last {L es : List En} {b bt : Int} (h : Lay L b bt es) : b + es.length = L.length := by
  obtain ⟨k, rfl, h2, rfl, h4⟩ := h
  rw [List.length_drop]; omega
theorem tOf_tm (L : List En) (k : Nat) : tOf L k = tmL L (k + 1) := by unfold tmL; rw [if_neg (by omega), Nat.add_sub_cancel]
theorem Lay.term {L es : List En} {b bt : Int} (h : Lay L b bt es) {p : Nat} (h1 : b ≤ p) (h2 : p ≤ L.length) : termM b bt es p = (tmL L p, true) := by
  have hl := h.last
  obtain ⟨k, rfl, h3, rfl, h4⟩ := h
  by_cases e : p = k
  · subst e; rw [term_base, h4]
  · rw [term_in (by omega) (by omega), tOf_drop, tOf_tm, show k + ((p : Int) - k - 1).toNat + 1 = p by omega]
theorem Lay.out {L es : List En} {b bt p : Int} (h : Lay L b bt es) (h1 : p < b ∨ (L.length : Int) < p) : termM b bt es p = (0, false) := term_out (by have := h.last; omega)
theorem Lay.found {L es : List En} {b bt p : Int} (h : Lay L b bt es) (h1 : (termM b bt es p).2 = true) : ∃ q : Nat, p = q ∧ b ≤ p ∧ q ≤ L.length := by
  have hl := h.last
  obtain ⟨q1, q2⟩ := term_where h1
  obtain ⟨k, rfl, _⟩ := h
  exact ⟨p.toNat, by omega, q1, by omega⟩
theorem MOk.last (M : MOk g m) : m.last = (g.F m.id).length := M.lg.last
theorem MOk.lastT (M : MOk g m) : m.lastT = tmL (g.F m.id) (g.F m.id).length := by
  unfold Mb.lastT
  have hb : m.b ≤ (g.F m.id).length := by obtain ⟨k, h1, h2, _⟩ := M.lg; omega
  rw [M.last, M.lg.term hb (Nat.le_refl _)]
theorem oneB_len (n who : Int) : (oneB n who).length = n.toNat := by unfold oneB; rw [List.length_set, List.length_replicate]
theorem rep_at {α : Type} {n k : Nat} {v d : α} (h : k < n) : (List.replicate n v).getD k d = v := by
  rw [List.getD_eq_getElem?_getD, List.getElem?_replicate, if_pos h]; rfl
theorem getD_set_int {l : List Int} {i k : Nat} {v : Int} (h : k < l.length) : (l.set i v).getD k 0 = if i = k then v else l.getD k 0 := by
  rw [List.getD_eq_getElem?_getD, List.getElem?_set, List.getD_eq_getElem?_getD]
  split
  · rename_i q; subst q; rw [if_pos h]; rfl
  · rfl
theorem to_mem {id : Int} {f : Int → Ms} : ∀ {k : Nat} {x : Ms}, x ∈ toM id f k → ∃ to : Int, 1 ≤ to ∧ to ≤ k ∧ x = f to
  | 0, x, h => by cases h
  | k + 1, x, h => by
    rcases List.mem_append.1 h with h | h
    · obtain ⟨to, q1, q2, q3⟩ := to_mem h
      exact ⟨to, q1, by omega, q3⟩
    · split at h
      · cases h
      · exact ⟨(k : Int) + 1, by omega, by omega, List.mem_singleton.1 h⟩
end
end
section
set_option linter.unusedVariables false


def EnK (K : Int) (e : En) : Prop := 0 ≤ e.1 ∧ e.1 ≤ K ∧ e.2.length ≤ 20
theorem EnK.up {K K' : Int} {e : En} (h : EnK K e) (hk : K ≤ K') : EnK K' e := ⟨h.1, Int.le_trans h.2.1 hk, h.2.2⟩
/-- A member whose numbers are at most so great. -/
structure WfK (K : Int) (m : Mb) : Prop where
  i1 : 1 ≤ m.id
  i2 : m.id ≤ m.n
  i3 : m.n ≤ 7
  t1 : 0 ≤ m.term
  t2 : m.term ≤ K
  v1 : 0 ≤ m.vote
  v2 : m.vote ≤ 7
  r1 : 0 ≤ m.role
  r2 : m.role ≤ 3
  l1 : 0 ≤ m.lead
  l2 : m.lead ≤ 7
  b1 : 0 ≤ m.b
  la : m.b + m.es.length ≤ K
  bt1 : 0 ≤ m.bt
  bt2 : m.bt ≤ K
  e : ∀ x, x ∈ m.es → EnK K x
  c1 : 0 ≤ m.commit
  c2 : m.commit ≤ K
  sn : m.snap.length ≤ 20
  g1 : m.role = 1 ∨ m.role = 2 → m.granted.length = m.n.toNat
  g2 : m.granted.length ≤ 7
  x1 : m.role = 3 → m.next.length = m.n.toNat ∧ m.mtch.length = m.n.toNat
  x2 : m.next.length ≤ 7
  m2 : m.mtch.length ≤ 7
  x3 : ∀ i, i < m.next.length → 1 ≤ m.next.getD i 0 ∧ m.next.getD i 0 ≤ K + 1
  m3 : ∀ i, i < m.mtch.length → 0 ≤ m.mtch.getD i 0 ∧ m.mtch.getD i 0 ≤ K
  k1 : 0 ≤ m.clock
  k2 : m.clock ≤ K
  w1 : 0 ≤ m.wait
  w2 : m.wait ≤ 20
structure WfY (K : Int) (x : Ms) : Prop where
  f1 : 1 ≤ x.frm
  f2 : x.frm ≤ 7
  t1 : 0 ≤ x.term
  t2 : x.term ≤ K + 1
  a1 : 0 ≤ x.at_
  a2 : x.at_ + x.ents.length ≤ K
  b1 : 0 ≤ x.att
  b2 : x.att ≤ K
  c1 : 0 ≤ x.commit
  c2 : x.commit ≤ K
  e : ∀ y, y ∈ x.ents → EnK K y
  e2 : x.ents.length ≤ 8
  d : x.data.length ≤ 20
section
variable {K K' : Int} {m : Mb} {x : Ms}
theorem WfK.up (h : WfK K m) (hk : K ≤ K') : WfK K' m :=
  { h with
    t2 := Int.le_trans h.t2 hk, la := Int.le_trans h.la hk, bt2 := Int.le_trans h.bt2 hk, e := fun x hx => (h.e x hx).up hk, c2 := Int.le_trans h.c2 hk
    x3 := fun i hi => ⟨(h.x3 i hi).1, by have := (h.x3 i hi).2; omega⟩, m3 := fun i hi => ⟨(h.m3 i hi).1, Int.le_trans (h.m3 i hi).2 hk⟩, k2 := Int.le_trans h.k2 hk }
theorem WfY.up (h : WfY K x) (hk : K ≤ K') : WfY K' x :=
  { h with t2 := by have := h.t2; omega, a2 := Int.le_trans h.a2 hk, b2 := Int.le_trans h.b2 hk, c2 := Int.le_trans h.c2 hk, e := fun x hx => (h.e x hx).up hk }
theorem ys_up {l : List Ms} (h : ∀ x, x ∈ l → WfY K x) (hk : K ≤ K') : ∀ x, x ∈ l → WfY K' x := fun x hx => (h x hx).up hk
theorem tOf_k {es : List En} (h : ∀ x, x ∈ es → EnK K x) (hK : 0 ≤ K) (i : Nat) : 0 ≤ tOf es i ∧ tOf es i ≤ K := by
  by_cases q : i < es.length
  · unfold tOf
    rw [List.getD_eq_getElem?_getD, List.getElem?_eq_getElem q]
    have := h _ (List.getElem_mem q)
    exact ⟨this.1, this.2.1⟩
  · rw [tOf_beyond (by omega)]
    exact ⟨Int.le_refl _, hK⟩
theorem WfK.k0 (h : WfK K m) : 0 ≤ K := Int.le_trans h.t1 h.t2
theorem term_k (h : WfK K m) (p : Int) : 0 ≤ (termM m.b m.bt m.es p).1 ∧ (termM m.b m.bt m.es p).1 ≤ K := by
  have h0 := h.k0
  unfold termM
  split
  · exact ⟨h.bt1, h.bt2⟩
  · split
    · exact tOf_k h.e h0 _
    · exact ⟨Int.le_refl _, h0⟩
theorem follow_k (h : WfK K m) {T who : Int} (hT : T ≤ K) (w1 : 0 ≤ who) (w2 : who ≤ 7) : WfK K (followM m T who) :=
  { h with
    t1 := by show 0 ≤ (if m.term < T then T else m.term); have := h.t1; split <;> omega
    t2 := by show (if m.term < T then T else m.term) ≤ K; have := h.t2; split <;> omega
    v1 := by show 0 ≤ (if m.term < T then 0 else m.vote); have := h.v1; split <;> omega
    v2 := by show (if m.term < T then 0 else m.vote) ≤ 7; have := h.v2; split <;> omega
    r1 := Int.le_refl _, r2 := by show (0 : Int) ≤ 3; decide
    l1 := w1, l2 := w2, g1 := fun q => by rcases q with q | q <;> cases q
    g2 := Nat.zero_le _, x1 := fun q => (by cases q), x2 := Nat.zero_le _, m2 := Nat.zero_le _
    x3 := fun i hi => absurd hi (Nat.not_lt_zero _), m3 := fun i hi => absurd hi (Nat.not_lt_zero _) }
theorem stand0_k (h : WfK K m) : WfK (K + 1) (stand0M m) :=
  have f := follow_k (h.up (K' := K + 1) (by omega)) (T := m.term + 1) (who := 0) (by have := h.t2; omega) (Int.le_refl _) (by decide)
  { f with
    v1 := by show 0 ≤ m.id; have := h.i1; omega
    v2 := by show m.id ≤ 7; have := h.i2; have := h.i3; omega
    r1 := by show (0 : Int) ≤ 2; decide
    r2 := by show (2 : Int) ≤ 3; decide
    g1 := fun _ => oneB_len _ _
    g2 := by show (oneB m.n m.id).length ≤ 7; rw [oneB_len]; have := h.i3; omega
    x1 := fun q => (by cases q)
    k1 := Int.le_refl _, k2 := by show (0 : Int) ≤ K + 1; have := h.k0; omega }
theorem ask0_k (h : WfK K m) (d : Int) : WfK K (ask0M m d) :=
  have f := follow_k h (T := m.term) (who := 0) h.t2 (Int.le_refl _) (by decide)
  { f with
    r1 := by show (0 : Int) ≤ 1; decide
    r2 := by show (1 : Int) ≤ 3; decide
    g1 := fun _ => oneB_len _ _
    g2 := by show (oneB m.n m.id).length ≤ 7; rw [oneB_len]; have := h.i3; omega
    x1 := fun q => (by cases q)
    k1 := Int.le_refl _, k2 := h.k0
    w1 := by show 0 ≤ 10 + d % 18446744073709551616 % 10; omega
    w2 := by show 10 + d % 18446744073709551616 % 10 ≤ 20; omega }
theorem lead0_k (h : WfK K m) : WfK K (lead0M m) :=
  have f := follow_k h (T := m.term) (who := m.id) h.t2 (by have := h.i1; omega) (by have := h.i2; have := h.i3; omega)
  have hn := h.i3
  { f with
    r1 := by show (0 : Int) ≤ 3; decide
    r2 := by show (3 : Int) ≤ 3; decide
    g1 := fun q => by rcases q with q | q <;> cases q
    x1 := fun q => ⟨List.length_replicate, List.length_replicate⟩
    x2 := by show (List.replicate m.n.toNat _).length ≤ 7; rw [List.length_replicate]; omega
    m2 := by show (List.replicate m.n.toNat (0 : Int)).length ≤ 7; rw [List.length_replicate]; omega
    x3 := fun i hi => by
      have hi : i < m.n.toNat := by have : i < (List.replicate m.n.toNat (m.last + 1)).length := hi; rwa [List.length_replicate] at this
      show 1 ≤ (List.replicate m.n.toNat (m.last + 1)).getD i 0 ∧ (List.replicate m.n.toNat (m.last + 1)).getD i 0 ≤ K + 1
      rw [rep_at hi]
      have := h.b1; have := h.la
      unfold Mb.last
      omega
    m3 := fun i hi => by
      have hi : i < m.n.toNat := by have : i < (List.replicate m.n.toNat (0 : Int)).length := hi; rwa [List.length_replicate] at this
      show 0 ≤ (List.replicate m.n.toNat (0 : Int)).getD i 0 ∧ (List.replicate m.n.toNat (0 : Int)).getD i 0 ≤ K
      rw [rep_at hi]
      exact ⟨Int.le_refl _, h.k0⟩
    k1 := Int.le_refl _, k2 := h.k0 }
theorem set_k {l : List Int} {v lo hi : Int} (h : ∀ i, i < l.length → lo ≤ l.getD i 0 ∧ l.getD i 0 ≤ hi) (h1 : lo ≤ v) (h2 : v ≤ hi) (k : Nat) : ∀ i, i < (l.set k v).length → lo ≤ (l.set k v).getD i 0 ∧ (l.set k v).getD i 0 ≤ hi := fun i hi => by
  rw [List.length_set] at hi
  rw [getD_set_int hi]
  split
  · exact ⟨h1, h2⟩
  · exact h i hi
theorem add_k (h : WfK K m) (d : BB) (hd : d.length ≤ 20) : WfK (K + 1) (addM m d) :=
  have f := h.up (K' := K + 1) (by omega)
  { f with
    la := by show m.b + ((m.es ++ [(m.term, d)]).length : Nat) ≤ K + 1; rw [List.length_append, List.length_singleton]; have := h.la; omega
    e := fun x hx => by
      have hx : x ∈ m.es ++ [(m.term, d)] := hx
      rcases List.mem_append.1 hx with q | q
      · exact f.e x q
      · rw [List.mem_singleton.1 q]; exact ⟨h.t1, f.t2, hd⟩
    x1 := fun q => ⟨(h.x1 q).1, by show (m.mtch.set _ _).length = _; rw [List.length_set]; exact (h.x1 q).2⟩
    m2 := by show (m.mtch.set _ _).length ≤ 7; rw [List.length_set]; exact h.m2
    m3 := set_k f.m3 (by show 0 ≤ m.b + m.es.length + 1; have := h.b1; omega) (by show m.b + m.es.length + 1 ≤ K + 1; have := h.la; omega) _ }
theorem look_k (h : WfK K m) : WfK K (lookM m) := by
  have hc : 0 ≤ commitM m ∧ commitM m ≤ K := by
    have a := h.c1
    have b := h.c2
    have c := h.la
    unfold commitM
    split
    · rename_i q
      have := term_where q.1
      omega
    · omega
  exact { h with c1 := hc.1, c2 := hc.2 }
theorem tell_y (h : WfK K m) (to : Int) : WfY K (tellM m to) := by
  have a1 := h.i1
  have a2 := h.i2
  have a3 := h.i3
  have a4 := h.t1
  have a5 := h.t2
  have a6 := h.la
  have a7 := h.b1
  have a0 := h.k0
  unfold tellM
  split
  · exact ⟨a1, Int.le_trans a2 a3, a4, by show m.term ≤ K + 1; omega, a7, by show m.b + ((0 : Nat) : Int) ≤ K; omega, h.bt1, h.bt2, h.c1, h.c2, fun y hy => (by cases hy), Nat.zero_le _, h.sn⟩
  · rename_i q
    have t := term_k h (m.next.getD (to - 1).toNat 0 - 1)
    have hx : m.next.getD (to - 1).toNat 0 ≤ K + 1 := by
      by_cases q2 : (to - 1).toNat < m.next.length
      · exact (h.x3 _ q2).2
      · rw [List.getD_eq_getElem?_getD, List.getElem?_eq_none (by omega)] at q ⊢
        show (0 : Int) ≤ K + 1
        omega
    generalize m.next.getD (to - 1).toNat 0 = nx at *
    have hl : ((fromM m.b m.es nx 8).length : Int) ≤ max 0 (K + 1 - nx) ∧ (fromM m.b m.es nx 8).length ≤ 8 := by
      unfold fromM
      rw [if_neg q, List.length_take, List.length_drop]
      have : ((8 : Int).toNat) = 8 := rfl
      rw [this]
      omega
    refine ⟨a1, Int.le_trans a2 a3, a4, by show m.term ≤ K + 1; omega, by show 0 ≤ nx - 1; omega, by show nx - 1 + ((fromM m.b m.es nx 8).length : Int) ≤ K; omega, t.1, t.2, h.c1, h.c2, fun y hy => ?_, hl.2, Nat.zero_le _⟩
    have hy : y ∈ fromM m.b m.es nx 8 := hy
    unfold fromM at hy
    rw [if_neg q] at hy
    exact h.e y (List.mem_of_mem_drop (List.mem_of_mem_take hy))
theorem tellAll_y (h : WfK K m) : ∀ x, x ∈ tellAllM m → WfY K x := fun x hx => by
  obtain ⟨to, _, _, rfl⟩ := to_mem hx
  exact tell_y h to
/-- What an act leaves. -/
def AcK (K : Int) (r : Mb × List Ms) : Prop := WfK K r.1 ∧ (∀ x, x ∈ r.2 → WfY K x) ∧ r.2.length ≤ 7
theorem AcK.up {r : Mb × List Ms} (h : AcK K r) (hk : K ≤ K') : AcK K' r := ⟨h.1.up hk, ys_up h.2.1 hk, h.2.2⟩
theorem to_len (id : Int) (f : Int → Ms) : ∀ k, (toM id f k).length ≤ k
  | 0 => Nat.le_refl _
  | k + 1 => by
    show (toM id f k ++ _).length ≤ k + 1
    rw [List.length_append]
    have := to_len id f k
    split <;> simp <;> omega
theorem behind_k (h : WfK K m) (d : BB) (hd : d.length ≤ 20) : AcK (K + 1) (behindM m d) := by
  have h2 := look_k (add_k h d hd)
  exact ⟨h2, tellAll_y h2, Nat.le_trans (to_len _ _ _) (by have : (lookM (addM m d)).n = m.n := rfl; rw [this]; have := h.i3; omega)⟩
theorem lead_k (h : WfK K m) : AcK (K + 1) (leadM m) := behind_k (lead0_k h) [] (Nat.zero_le _)
theorem bid_y (h : WfK K m) (kind to : Int) {T : Int} (h1 : 0 ≤ T) (h2 : T ≤ K + 1) : WfY K (bidM m kind T to) := by
  have t := term_k h m.last
  exact ⟨h.i1, Int.le_trans h.i2 h.i3, h1, h2, by show 0 ≤ m.b + (m.es.length : Int); have := h.b1; omega, by show m.b + (m.es.length : Int) + ((0 : Nat) : Int) ≤ K; have := h.la; omega, t.1, t.2, Int.le_refl _, h.k0, fun y hy => (by cases hy), Nat.zero_le _, Nat.zero_le _⟩
theorem stand_k (h : WfK K m) : AcK (K + 2) (standM m) := by
  have s := stand0_k h
  unfold standM
  split
  · have := lead_k s
    rw [Int.add_assoc] at this
    exact this
  · refine ⟨s.up (by omega), fun x hx => ?_, Nat.le_trans (to_len _ _ _) (by have := h.i3; omega)⟩
    obtain ⟨to, _, _, rfl⟩ := to_mem hx
    exact (bid_y s 3 to (by have := h.t1; omega) (by have := h.t2; omega)).up (by omega)
theorem ask_k (h : WfK K m) (d : Int) : AcK (K + 2) (askM m d) := by
  have s := ask0_k h d
  unfold askM
  split
  · exact stand_k s
  · refine ⟨s.up (by omega), fun x hx => ?_, Nat.le_trans (to_len _ _ _) (by have := h.i3; omega)⟩
    obtain ⟨to, _, _, rfl⟩ := to_mem hx
    exact (bid_y s 1 to (by have := h.t1; omega) (by have := h.t2; omega)).up (by omega)
theorem clock_k (h : WfK K m) {c : Int} (h1 : 0 ≤ c) (h2 : c ≤ K) : WfK K { m with clock := c } := { h with k1 := h1, k2 := h2 }
theorem none_k (h : WfK K m) : AcK K (m, []) := ⟨h, fun x hx => (by cases hx), Nat.zero_le _⟩
theorem tick_k (h : WfK K m) (d : Int) : AcK (K + 3) (tickM m d) := by
  have c := clock_k (h.up (K' := K + 1) (by omega)) (c := m.clock + 1) (by have := h.k1; omega) (by have := h.k2; omega)
  have c0 := clock_k h (c := 0) (Int.le_refl _) h.k0
  unfold tickM
  split
  · split
    · exact (none_k c).up (by omega)
    · exact AcK.up (K := K) ⟨c0, tellAll_y c0, Nat.le_trans (to_len _ _ _) (by show m.n.toNat ≤ 7; have := h.i3; omega)⟩ (by omega)
  · split
    · exact (none_k c).up (by omega)
    · have := ask_k c d
      rw [Int.add_assoc] at this
      exact this
theorem propose_k (h : WfK K m) (d : BB) (hd : d.length ≤ 20) : AcK (K + 1) ((proposeM m d).1, (proposeM m d).2.2.1) := by
  unfold proposeM
  split
  · exact behind_k h d hd
  · exact (none_k h).up (by omega)
end
/-- A world whose numbers are at most so great. -/
structure WdK (K : Int) (w : Wd) : Prop where
  R : ∀ k, k < w.R.length → WfK K (w.R.getD k zMb)
  X : ∀ x, x ∈ w.net → WfY K x
  n : w.net.length ≤ 61
theorem WdK.up {K K' : Int} {w : Wd} (h : WdK K w) (hk : K ≤ K') : WdK K' w := ⟨fun k q => (h.R k q).up hk, ys_up h.X hk, h.n⟩
theorem WdK.set {K K' : Int} {w : Wd} (h : WdK K w) (hk : K ≤ K') {i : Nat} (hi : i < w.R.length) {r : Mb} {l : List Ms} (a : AcK K' (r, l)) : WdK K' (setW w i r l) := by
  refine ⟨fun k q => ?_, fun x hx => ?_, ?_⟩
  · have q : k < w.R.length := by have : k < (w.R.set i r).length := q; rwa [List.length_set] at this
    show WfK K' ((w.R.set i r).getD k zMb)
    rw [List.getD_eq_getElem?_getD, List.getElem?_set]
    split
    · first | exact a.1 | (rw [if_pos hi]; exact a.1)
    · rw [← List.getD_eq_getElem?_getD]; exact (h.R k q).up hk
  · rcases List.mem_append.1 (List.mem_of_mem_drop hx) with q | q
    · exact (h.X x q).up hk
    · exact a.2.1 x q
  · show ((w.net ++ l).drop ((w.net ++ l).length - 60)).length ≤ 61
    rw [List.length_drop]
    omega
theorem WdK.take {K : Int} {w : Wd} (h : WdK K w) {k : Nat} (hk : k < w.net.length) (keep : Bool) : WdK K (takeW w k keep) := by
  refine ⟨h.R, fun x hx => ?_, ?_⟩
  · have hx : x ∈ w.net.take k ++ (if keep = true then [w.net.getD k zMs] else []) ++ w.net.drop (k + 1) := hx
    rcases List.mem_append.1 hx with q | q
    · rcases List.mem_append.1 q with q | q
      · exact h.X x (List.mem_of_mem_take q)
      · split at q
        · rw [List.mem_singleton.1 q, List.getD_eq_getElem?_getD, List.getElem?_eq_getElem hk]
          exact h.X _ (List.getElem_mem hk)
        · cases q
    · exact h.X x (List.mem_of_mem_drop q)
  · show (w.net.take k ++ (if keep = true then [w.net.getD k zMs] else []) ++ w.net.drop (k + 1)).length ≤ 61
    have := h.n
    rw [List.length_append, List.length_append, List.length_take, List.length_drop]
    split <;> simp <;> omega
end
section
set_option linter.unusedVariables false


structure WfZ (m : Mb) : Prop where
  tr : m.role = 2 ∨ m.role = 3 → 1 ≤ m.term
  ma : m.role = 3 → 1 ≤ m.mtch.getD (m.id - 1).toNat 0
  gr : m.role = 1 ∨ m.role = 2 → m.granted.getD (m.id - 1).toNat false = true
  n1 : ¬ m.role = 3 → m.next = [] ∧ m.mtch = []
  n2 : ¬ (m.role = 1 ∨ m.role = 2) → m.granted = []
  e : ∀ x, x ∈ m.es → 1 ≤ x.1
def YZ (x : Ms) : Prop := ∀ y, y ∈ x.ents → 1 ≤ y.1
def AcZ (r : Mb × List Ms) : Prop := WfZ r.1 ∧ ∀ x, x ∈ r.2 → YZ x
section
variable {K : Int} {m : Mb} {x : Ms}
theorem none_z (h : WfZ m) : AcZ (m, []) := ⟨h, fun x hx => by cases hx⟩
theorem tell_z (h : ∀ x, x ∈ m.es → 1 ≤ x.1) (to : Int) : YZ (tellM m to) := by
  intro y hy
  unfold tellM at hy
  split at hy
  · cases hy
  · rename_i q
    have hy : y ∈ fromM m.b m.es (m.next.getD (to - 1).toNat 0) 8 := hy
    unfold fromM at hy
    rw [if_neg q] at hy
    exact h y (List.mem_of_mem_drop (List.mem_of_mem_take hy))
theorem tellAll_z (h : ∀ x, x ∈ m.es → 1 ≤ x.1) : ∀ x, x ∈ tellAllM m → YZ x := fun x hx => by
  obtain ⟨to, _, _, rfl⟩ := to_mem hx
  exact tell_z h to
theorem behind_z (k : WfK K m) (hr : m.role = 3) (ht : 1 ≤ m.term) (hg : m.granted = []) (he : ∀ x, x ∈ m.es → 1 ≤ x.1) (d : BB) : AcZ (behindM m d) := by
  have he2 : ∀ x, x ∈ m.es ++ [(m.term, d)] → 1 ≤ x.1 := fun x hx => by
    rcases List.mem_append.1 hx with q | q
    · exact he x q
    · rw [List.mem_singleton.1 q]; exact ht
  refine ⟨⟨fun _ => ht, fun _ => ?_, fun q => ?_, fun q => absurd hr q, fun _ => hg, he2⟩, tellAll_z (m := lookM (addM m d)) he2⟩
  · show 1 ≤ (m.mtch.set (m.id - 1).toNat (m.last + 1)).getD (m.id - 1).toNat 0
    have := (k.x1 hr).2
    have := k.i1
    have := k.i2
    rw [getD_set_int (by omega), if_pos rfl]
    have := k.b1
    unfold Mb.last
    omega
  · have q : m.role = 1 ∨ m.role = 2 := q
    omega
theorem lead_z (k : WfK K m) (ht : 1 ≤ m.term) (he : ∀ x, x ∈ m.es → 1 ≤ x.1) : AcZ (leadM m) := by
  have e1 : (lead0M m).term = m.term := by show (if m.term < m.term then m.term else m.term) = _; split <;> rfl
  exact behind_z (lead0_k k) rfl (by rw [e1]; exact ht) rfl he []
theorem oneB_self {n id : Int} (h1 : 1 ≤ id) (h2 : id ≤ n) : (oneB n id).getD (id - 1).toNat false = true := by
  unfold oneB
  rw [List.getD_eq_getElem?_getD, List.getElem?_set_self (by rw [List.length_replicate]; omega)]
  rfl
theorem bids_z {kd T id : Int} {n : Nat} : ∀ y, y ∈ toM id (bidM m kd T) n → YZ y := fun y hy => by
  obtain ⟨to, _, _, rfl⟩ := to_mem hy
  exact fun z hz => by cases hz
theorem stand_z (k : WfK K m) (he : ∀ x, x ∈ m.es → 1 ≤ x.1) : AcZ (standM m) := by
  have t0 := k.t1
  have e1 : (stand0M m).term = m.term + 1 := by show (if m.term < m.term + 1 then m.term + 1 else m.term) = _; rw [if_pos (by omega)]
  unfold standM
  split
  · exact lead_z (stand0_k k) (by rw [e1]; omega) he
  · exact ⟨⟨fun _ => by show 1 ≤ (stand0M m).term; rw [e1]; omega, fun q => (by cases q), fun _ => oneB_self k.i1 k.i2, fun _ => ⟨rfl, rfl⟩, fun q => absurd (.inr rfl) q, he⟩, bids_z (m := stand0M m)⟩
theorem ask_z (k : WfK K m) (he : ∀ x, x ∈ m.es → 1 ≤ x.1) (d : Int) : AcZ (askM m d) := by
  unfold askM
  split
  · exact stand_z (ask0_k k d) he
  · exact ⟨⟨fun q => (by rcases q with q | q <;> cases q), fun q => (by cases q), fun _ => oneB_self k.i1 k.i2, fun _ => ⟨rfl, rfl⟩, fun q => absurd (.inl rfl) q, he⟩, bids_z (m := ask0M m d)⟩
theorem WfZ.clock (h : WfZ m) (c : Int) : WfZ { m with clock := c } := ⟨h.tr, h.ma, h.gr, h.n1, h.n2, h.e⟩
theorem tick_z (k : WfK K m) (h : WfZ m) (d : Int) : AcZ (tickM m d) := by
  unfold tickM
  split
  · split
    · exact none_z (h.clock _)
    · exact ⟨h.clock _, tellAll_z (m := { m with clock := 0 }) h.e⟩
  · split
    · exact none_z (h.clock _)
    · exact ask_z (clock_k (k.up (K' := K + 1) (by omega)) (c := m.clock + 1) (by have := k.k1; omega) (by have := k.k2; omega)) h.e d
theorem flat_z {r : Mb} (h0 : r.role = 0) (hn : r.next = []) (hm : r.mtch = []) (hg : r.granted = []) (he : ∀ x, x ∈ r.es → 1 ≤ x.1) : WfZ r := ⟨fun q => by omega, fun q => by omega, fun q => by omega, fun _ => ⟨hn, hm⟩, fun _ => hg, he⟩
theorem getD_set_ne {l : List Int} {i k : Nat} {v : Int} (h : i ≠ k) : (l.set i v).getD k 0 = l.getD k 0 := by
  rw [List.getD_eq_getElem?_getD, List.getElem?_set_ne h, ← List.getD_eq_getElem?_getD]
theorem propose_z (k : WfK K m) (h : WfZ m) (d : BB) : AcZ ((proposeM m d).1, (proposeM m d).2.2.1) := by
  unfold proposeM
  split
  · rename_i q
    exact behind_z k q (h.tr (.inr q)) (h.n2 (by omega)) h.e d
  · exact none_z h
end
/-- Of a world. -/
structure WdZ (w : Wd) : Prop where
  R : ∀ k, k < w.R.length → WfZ (w.R.getD k zMb)
  X : ∀ x, x ∈ w.net → YZ x
theorem WdZ.set {w : Wd} (h : WdZ w) {i : Nat} (hi : i < w.R.length) {r : Mb} {l : List Ms} (a : AcZ (r, l)) : WdZ (setW w i r l) := by
  refine ⟨fun k q => ?_, fun x hx => ?_⟩
  · have q : k < w.R.length := by have : k < (w.R.set i r).length := q; rwa [List.length_set] at this
    show WfZ ((w.R.set i r).getD k zMb)
    rw [List.getD_eq_getElem?_getD, List.getElem?_set]
    split
    · first | exact a.1 | (rw [if_pos hi]; exact a.1)
    · rw [← List.getD_eq_getElem?_getD]; exact h.R k q
  · rcases List.mem_append.1 (List.mem_of_mem_drop hx) with q | q
    · exact h.X x q
    · exact a.2 x q
theorem WdZ.take {w : Wd} (h : WdZ w) {k : Nat} (hk : k < w.net.length) (keep : Bool) : WdZ (takeW w k keep) := by
  refine ⟨h.R, fun x hx => ?_⟩
  have hx : x ∈ w.net.take k ++ (if keep = true then [w.net.getD k zMs] else []) ++ w.net.drop (k + 1) := hx
  rcases List.mem_append.1 hx with q | q
  · rcases List.mem_append.1 q with q | q
    · exact h.X x (List.mem_of_mem_take q)
    · split at q
      · rw [List.mem_singleton.1 q, List.getD_eq_getElem?_getD, List.getElem?_eq_getElem hk]
        exact h.X _ (List.getElem_mem hk)
      · cases q
  · exact h.X x (List.mem_of_mem_drop q)
theorem begin_z {n : Nat} (hn : n ≤ 7) : WdZ (beginW n) := by
  refine ⟨fun k hk => ?_, fun x hx => by cases hx⟩
  have hl : (beginW n).R.length = n := by show ((List.range n).map _).length = n; simp
  have e : (beginW n).R.getD k zMb = { zMb with id := (k : Int) + 1, n := n, wait := 10 + ((k : Int) + 1) } := by
    show ((List.range n).map fun (k : Nat) => (newM ((k : Int) + 1) n).1).getD k zMb = _
    rw [List.getD_eq_getElem?_getD, List.getElem?_map, List.getElem?_range (by omega)]
    show (newM ((k : Int) + 1) n).1 = _
    unfold newM
    rw [if_pos ⟨by omega, by omega, by omega⟩]
  rw [e]
  exact flat_z rfl rfl rfl rfl fun x hx => by cases hx
end
end Go.Proofs.Ytfmfphfckaiejaa
