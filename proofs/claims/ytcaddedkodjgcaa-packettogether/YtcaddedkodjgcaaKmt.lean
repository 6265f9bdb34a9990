/-
  Plain mathematics of layer 17: messages as bytes, and from bytes; sums behind; messages put together.
-/
import Derived.Test.YtcaddedkodjgcaaMsm
import Derived.Test.YtcaddedkodjgcaaPmt
import Derived.Test.YtcaddedkodjgcaaCmt
namespace Go.Proofs.Ytcaddedkodjgcaa
open Pack
set_option linter.unusedVariables false

def fourB (s : BitVec 32) : BB := [s.setWidth 8, (s >>> 8).setWidth 8, (s >>> 16).setWidth 8, (s >>> 24).setWidth 8]
def sealB (b : BB) : BB := b ++ fourB (Crc.sum b)
def urI (n : Int) : BB := urow n.toNat
def numsB (l : List Int) : BB := l.flatMap urI
def entB (e : En) : BB := urI e.1 ++ (urow e.2.length ++ e.2)
def headL (m : Ms) : List Int := [m.kind, m.grp, m.term, m.at_, m.att, m.commit, if m.ok then 1 else 0, (m.ents.length : Int)]
def msB (m : Ms) : BB := numsB (headL m) ++ (m.ents.flatMap entB ++ (urow m.data.length ++ m.data))
def bodyB (f t : Int) (l : List Ms) : BB := numsB [f, t, (l.length : Int)] ++ l.flatMap msB
def entOk (e : En) : Bool := decide (1 ≤ e.1) && decide (e.1 ≤ 1099511627776) && decide (e.2.length ≤ 65536)
def inI (n a b : Int) : Bool := decide (a ≤ n) && decide (n ≤ b)
def msOk (m : Ms) : Bool := inI m.kind 1 7 && inI m.grp 0 63 && inI m.term 0 1099511627776 && inI m.at_ 0 1099511627776 && inI m.att 0 1099511627776 && inI m.commit 0 1099511627776 && decide (m.ents.length ≤ 8) && decide (m.data.length ≤ 65536) && m.ents.all entOk
def msFit (f t : Int) (m : Ms) : Bool := decide (m.frm = f) && decide (m.to = t) && msOk m
def pchk (f t : Int) (l : List Ms) : Int := if inI f 1 7 = false ∨ inI t 1 7 = false ∨ f = t then 1 else if 256 < l.length then 6 else if l.all (msFit f t) = true then 0 else 1
def pput (f t : Int) (l : List Ms) : BB := if pchk f t l = 0 then sealB (bodyB f t l) else []

/-- What is left to be read, and the first error. -/
abbrev St := BB × Int
def numS (top : Nat) (s : St) : Int × St :=
  if s.2 = 0 then
    match rd 0 s.1 with
    | .inl k => if top < val (s.1.take k) then (0, (s.1, 6)) else ((val (s.1.take k) : Nat), (s.1.drop k, 0))
    | .inr true => (0, (s.1, 2))
    | .inr false => (0, (s.1, 5))
  else (0, s)
def txtS (s : St) : BB × St :=
  if s.2 = 0 then
    match rd 0 s.1 with
    | .inl k => if val (s.1.take k) ≤ s.1.length - k then ((s.1.drop k).take (val (s.1.take k)), (s.1.drop (k + val (s.1.take k)), 0)) else ([], (s.1, 5))
    | .inr true => ([], (s.1, 2))
    | .inr false => ([], (s.1, 5))
  else ([], s)
def entS (s : St) : En × St := (((numS 1099511627776 s).1, (txtS (numS 1099511627776 s).2).1), (txtS (numS 1099511627776 s).2).2)
def entsS : Nat → St → List En × St
  | 0, s => ([], s)
  | n + 1, s => if (entsS n s).2.2 = 0 then ((entsS n s).1 ++ [(entS (entsS n s).2).1], (entS (entsS n s).2).2) else entsS n s
/-- The eight numbers ahead: from the k-th on. -/
def topL : List Nat := [7, 64, 1099511627776, 1099511627776, 1099511627776, 1099511627776, 1, 8]
def numsS : List Nat → St → List Int × St
  | [], s => ([], s)
  | a :: l, s => ((numS a s).1 :: (numsS l (numS a s).2).1, (numsS l (numS a s).2).2)
def msgOf (f t : Int) (h : List Int) (es : List En) (d : BB) : Ms := ⟨h.getD 0 0, h.getD 1 0, f, t, h.getD 2 0, h.getD 3 0, h.getD 4 0, h.getD 5 0, decide (h.getD 6 0 = 1), es, d⟩
def msgS (f t : Int) (s : St) : Ms × St :=
  (msgOf f t (numsS topL s).1 (entsS ((numsS topL s).1.getD 7 0).toNat (numsS topL s).2).1 (txtS (entsS ((numsS topL s).1.getD 7 0).toNat (numsS topL s).2).2).1,
    (txtS (entsS ((numsS topL s).1.getD 7 0).toNat (numsS topL s).2).2).2)
def mssS (f t : Int) : Nat → St → List Ms × St
  | 0, s => ([], s)
  | n + 1, s => if (mssS f t n s).2.2 = 0 then ((mssS f t n s).1 ++ [(msgS f t (mssS f t n s).2).1], (msgS f t (mssS f t n s).2).2) else mssS f t n s
/-- A packet: from, to, messages. -/
abbrev Pk := Int × Int × List Ms
def zPk : Pk := (0, 0, [])
/-- What is told at last of what was read. -/
def endS (p : Pk) (s : St) : Pk × Int := if s.2 = 0 then (if s.1 = [] then (if pchk p.1 p.2.1 p.2.2 = 0 then (p, 0) else (zPk, pchk p.1 p.2.1 p.2.2)) else (zPk, 3)) else (zPk, s.2)
def bodyS (s : St) : Pk × St :=
  (((numS 7 s).1, (numS 7 (numS 7 s).2).1, (mssS (numS 7 s).1 (numS 7 (numS 7 s).2).1 (numS 256 (numS 7 (numS 7 s).2).2).1.toNat (numS 256 (numS 7 (numS 7 s).2).2).2).1),
    (mssS (numS 7 s).1 (numS 7 (numS 7 s).2).1 (numS 256 (numS 7 (numS 7 s).2).2).1.toNat (numS 256 (numS 7 (numS 7 s).2).2).2).2)
def readM (b : BB) : Pk × Int :=
  if b.length < 4 then (zPk, 5) else if sealB (b.take (b.length - 4)) = b then endS (bodyS (b.take (b.length - 4), 0)).1 (bodyS (b.take (b.length - 4), 0)).2 else (zPk, 4)

theorem fourB_len (s : BitVec 32) : (fourB s).length = 4 := rfl
theorem sealB_len (b : BB) : (sealB b).length = b.length + 4 := by unfold sealB; rw [List.length_append, fourB_len]
theorem sealB_take (b : BB) : (sealB b).take ((sealB b).length - 4) = b := by
  rw [sealB_len, Nat.add_sub_cancel]; unfold sealB; rw [List.take_left]

theorem num_ok {top n : Nat} {T : BB} (h1 : n ≤ top) (h2 : n < 18446744073709551616) : numS top (urow n ++ T, 0) = ((n : Int), (T, 0)) := by
  unfold numS
  rw [if_pos rfl]
  simp only [rd0_urow T h2, List.take_left, List.drop_left, val_urow]
  rw [if_neg (by omega)]
theorem numI_ok {top : Nat} {n : Int} {T : BB} (h0 : 0 ≤ n) (h1 : n ≤ top) (h2 : n < 18446744073709551616) : numS top (urI n ++ T, 0) = (n, (T, 0)) := by
  have := num_ok (top := top) (n := n.toNat) (T := T) (by omega) (by omega)
  rw [show ((n.toNat : Nat) : Int) = n by omega] at this
  exact this
theorem num_inv {top : Nat} {s : St} {v : Int} {T : BB} (h : numS top s = (v, (T, 0))) : s = (urI v ++ T, 0) ∧ 0 ≤ v ∧ v ≤ top := by
  obtain ⟨l, e⟩ := s
  unfold numS at h
  split at h
  · rename_i h0
    simp only at h0 h
    subst h0
    cases hr : rd 0 l with
    | inl k =>
      rw [hr] at h
      simp only at h
      split at h
      · simp at h
      · rename_i h1
        simp only [Prod.mk.injEq] at h
        obtain ⟨rfl, rfl, _⟩ := h
        obtain ⟨_, _, _, h4, h5⟩ := rd0_ok hr
        refine ⟨?_, by omega, by omega⟩
        unfold urI
        rw [Int.toNat_natCast, h4, List.take_append_drop]
    | inr b => rw [hr] at h; cases b <;> simp at h
  · rename_i h0
    simp only [Prod.mk.injEq] at h
    exact absurd h.2.2 h0
theorem txt_ok {d T : BB} (h : d.length < 18446744073709551616) : txtS (urow d.length ++ (d ++ T), 0) = (d, (T, 0)) := by
  unfold txtS
  rw [if_pos rfl]
  simp only [rd0_urow (d ++ T) h, List.take_left, List.drop_left, val_urow]
  rw [if_pos (by simp), ← List.drop_drop, List.drop_left, List.drop_left]
  try rw [List.take_left]
theorem txt_inv {s : St} {d T : BB} (h : txtS s = (d, (T, 0))) : s = (urow d.length ++ (d ++ T), 0) := by
  obtain ⟨l, e⟩ := s
  unfold txtS at h
  split at h
  · rename_i h0
    simp only at h0 h
    subst h0
    cases hr : rd 0 l with
    | inl k =>
      rw [hr] at h
      simp only at h
      split at h
      · rename_i h1
        simp only [Prod.mk.injEq] at h
        obtain ⟨rfl, rfl, _⟩ := h
        obtain ⟨_, _, _, h4, h5⟩ := rd0_ok hr
        rw [List.length_take, List.length_drop, Nat.min_eq_left h1, h4, ← List.drop_drop, List.take_append_drop, List.take_append_drop]
      · simp at h
    | inr b => rw [hr] at h; cases b <;> simp at h
  · rename_i h0
    simp only [Prod.mk.injEq] at h
    exact absurd h.2.2 h0
theorem ent_ok {e : En} {T : BB} (h : entOk e = true) : entS (entB e ++ T, 0) = (e, (T, 0)) := by
  unfold entOk at h
  simp only [Bool.and_eq_true, decide_eq_true_eq] at h
  have h1 : numS 1099511627776 (entB e ++ T, 0) = (e.1, (urow e.2.length ++ (e.2 ++ T), 0)) := by
    unfold entB
    rw [List.append_assoc, List.append_assoc]
    exact numI_ok (by omega) (by have := h.1.2; omega) (by have := h.1.2; omega)
  unfold entS
  rw [h1]
  simp only [txt_ok (show e.2.length < 18446744073709551616 by omega)]
theorem ent_inv {s : St} {e : En} {T : BB} (h : entS s = (e, (T, 0))) : s = (entB e ++ T, 0) := by
  unfold entS at h
  cases h1 : numS 1099511627776 s with
  | mk v s1 =>
    rw [h1] at h
    simp only at h
    cases h2 : txtS s1 with
    | mk d s2 =>
      rw [h2] at h
      simp only [Prod.mk.injEq] at h
      obtain ⟨rfl, rfl⟩ := h
      have h3 := txt_inv h2
      subst h3
      rw [(num_inv h1).1]
      unfold entB
      rw [List.append_assoc, List.append_assoc]
theorem take_snoc {α : Type} {l : List α} {n : Nat} (h : n < l.length) : l.take (n + 1) = l.take n ++ [l[n]] := by rw [List.take_add_one, List.getElem?_eq_getElem h]; rfl
theorem flat_at {α : Type} (f : α → BB) {es : List α} {n : Nat} (h : n < es.length) (T : BB) : (es.drop n).flatMap f ++ T = f es[n] ++ ((es.drop (n + 1)).flatMap f ++ T) := by
  rw [List.drop_eq_getElem_cons h, List.flatMap_cons, List.append_assoc]
theorem ents_at {es : List En} (h : es.all entOk = true) (T : BB) : ∀ n, n ≤ es.length → entsS n (es.flatMap entB ++ T, 0) = (es.take n, ((es.drop n).flatMap entB ++ T, 0))
  | 0, _ => by simp [entsS]
  | n + 1, hn => by
    have hlt : n < es.length := by omega
    unfold entsS
    rw [ents_at h T n (by omega)]
    simp only [if_pos]
    rw [flat_at entB hlt T, ent_ok (List.all_eq_true.1 h _ (List.getElem_mem hlt))]
    rw [take_snoc hlt]
theorem ents_ok {es : List En} (h : es.all entOk = true) (T : BB) : entsS es.length (es.flatMap entB ++ T, 0) = (es, (T, 0)) := by
  rw [ents_at h T _ (Nat.le_refl _), List.take_length, List.drop_length]; rfl
theorem ents_inv : ∀ (n : Nat) {s : St} {es : List En} {T : BB}, entsS n s = (es, (T, 0)) → s = (es.flatMap entB ++ T, 0) ∧ es.length = n
  | 0, s, es, T, h => by
    simp only [entsS, Prod.mk.injEq] at h
    obtain ⟨rfl, rfl⟩ := h
    exact ⟨rfl, rfl⟩
  | n + 1, s, es, T, h => by
    unfold entsS at h
    cases h1 : entsS n s with
    | mk r s1 =>
      rw [h1] at h
      simp only at h
      split at h
      · cases h2 : entS s1 with
        | mk e s2 =>
          rw [h2] at h
          simp only [Prod.mk.injEq] at h
          obtain ⟨rfl, rfl⟩ := h
          have h3 := ent_inv h2
          subst h3
          have h4 := ents_inv n h1
          refine ⟨?_, by simp [h4.2]⟩
          rw [h4.1, List.flatMap_append, List.append_assoc]
          simp
      · rename_i h0
        simp only [Prod.mk.injEq] at h
        obtain ⟨rfl, rfl⟩ := h
        exact absurd rfl h0
theorem nums_ok : ∀ (ts : List Nat) (l : List Int) (T : BB), ts.length = l.length → (∀ i, i < l.length → 0 ≤ l.getD i 0 ∧ l.getD i 0 ≤ ts.getD i 0 ∧ l.getD i 0 < 18446744073709551616) → numsS ts (numsB l ++ T, 0) = (l, (T, 0))
  | [], [], T, _, _ => rfl
  | [], _ :: _, T, h, _ => by simp at h
  | _ :: _, [], T, h, _ => by simp at h
  | a :: ts, n :: l, T, h, hl => by
    have h0 := hl 0 (by simp)
    simp only [List.getD_cons_zero] at h0
    unfold numsS
    have e : numsB (n :: l) ++ T = urI n ++ (numsB l ++ T) := by unfold numsB; rw [List.flatMap_cons, List.append_assoc]
    rw [e, numI_ok h0.1 h0.2.1 h0.2.2]
    simp only
    rw [nums_ok ts l T (by simpa using h) (fun i hi => by have := hl (i + 1) (by simpa using hi); simpa using this)]
theorem nums_inv : ∀ (ts : List Nat) {s : St} {l : List Int} {T : BB}, numsS ts s = (l, (T, 0)) → s = (numsB l ++ T, 0) ∧ l.length = ts.length ∧ ∀ i, i < l.length → 0 ≤ l.getD i 0 ∧ l.getD i 0 ≤ ts.getD i 0
  | [], s, l, T, h => by
    simp only [numsS, Prod.mk.injEq] at h
    obtain ⟨rfl, rfl⟩ := h
    exact ⟨rfl, rfl, fun i hi => by simp at hi⟩
  | a :: ts, s, l, T, h => by
    unfold numsS at h
    cases h1 : numS a s with
    | mk v s1 =>
      rw [h1] at h
      simp only at h
      cases h2 : numsS ts s1 with
      | mk r s2 =>
        rw [h2] at h
        simp only [Prod.mk.injEq] at h
        obtain ⟨rfl, rfl⟩ := h
        obtain ⟨h3, h4, h5⟩ := nums_inv ts h2
        subst h3
        obtain ⟨h6, h7, h8⟩ := num_inv h1
        refine ⟨?_, by simp [h4], fun i hi => ?_⟩
        · rw [h6]; unfold numsB; rw [List.flatMap_cons, List.append_assoc]
        · cases i with
          | zero => simpa using ⟨h7, h8⟩
          | succ i => have := h5 i (by simpa using hi); simpa using this
theorem msOk_parts {m : Ms} (h : msOk m = true) : (1 ≤ m.kind ∧ m.kind ≤ 7) ∧ (0 ≤ m.grp ∧ m.grp ≤ 63) ∧ (0 ≤ m.term ∧ m.term ≤ 1099511627776) ∧ (0 ≤ m.at_ ∧ m.at_ ≤ 1099511627776) ∧ (0 ≤ m.att ∧ m.att ≤ 1099511627776) ∧ (0 ≤ m.commit ∧ m.commit ≤ 1099511627776) ∧ m.ents.length ≤ 8 ∧ m.data.length ≤ 65536 ∧ m.ents.all entOk = true := by
  unfold msOk inI at h
  simp only [Bool.and_eq_true, decide_eq_true_eq] at h
  obtain ⟨⟨⟨⟨⟨⟨⟨⟨h1, h2⟩, h3⟩, h4⟩, h5⟩, h6⟩, h7⟩, h8⟩, h9⟩ := h
  exact ⟨h1, h2, h3, h4, h5, h6, h7, h8, h9⟩
theorem head_ok {m : Ms} (h : msOk m = true) (T : BB) : numsS topL (numsB (headL m) ++ T, 0) = (headL m, (T, 0)) := by
  obtain ⟨h1, h2, h3, h4, h5, h6, h7, h8, h9⟩ := msOk_parts h
  refine nums_ok topL (headL m) T rfl fun i hi => ?_
  have hi' : i < 8 := hi
  have hb : (0 : Int) ≤ (if m.ok then 1 else 0) ∧ (if m.ok then (1 : Int) else 0) ≤ 1 := by split <;> omega
  rcases i with _ | _ | _ | _ | _ | _ | _ | _ | i
  · show 0 ≤ m.kind ∧ m.kind ≤ ((7 : Nat) : Int) ∧ m.kind < _; omega
  · show 0 ≤ m.grp ∧ m.grp ≤ ((64 : Nat) : Int) ∧ m.grp < _; omega
  · show 0 ≤ m.term ∧ m.term ≤ ((1099511627776 : Nat) : Int) ∧ m.term < _; omega
  · show 0 ≤ m.at_ ∧ m.at_ ≤ ((1099511627776 : Nat) : Int) ∧ m.at_ < _; omega
  · show 0 ≤ m.att ∧ m.att ≤ ((1099511627776 : Nat) : Int) ∧ m.att < _; omega
  · show 0 ≤ m.commit ∧ m.commit ≤ ((1099511627776 : Nat) : Int) ∧ m.commit < _; omega
  · show 0 ≤ (if m.ok then (1 : Int) else 0) ∧ (if m.ok then (1 : Int) else 0) ≤ ((1 : Nat) : Int) ∧ (if m.ok then (1 : Int) else 0) < _; omega
  · show 0 ≤ (m.ents.length : Int) ∧ (m.ents.length : Int) ≤ ((8 : Nat) : Int) ∧ (m.ents.length : Int) < _; omega
  · omega
theorem msg_ok {f t : Int} {m : Ms} (h : msFit f t m = true) (T : BB) : msgS f t (msB m ++ T, 0) = (m, (T, 0)) := by
  unfold msFit at h
  simp only [Bool.and_eq_true, decide_eq_true_eq] at h
  obtain ⟨⟨rfl, rfl⟩, h⟩ := h
  obtain ⟨h1, h2, h3, h4, h5, h6, h7, h8, h9⟩ := msOk_parts h
  have e : msB m ++ T = numsB (headL m) ++ (m.ents.flatMap entB ++ (urow m.data.length ++ (m.data ++ T))) := by unfold msB; simp only [List.append_assoc]
  unfold msgS
  rw [e, head_ok h]
  simp only
  rw [show ((headL m).getD 7 0).toNat = m.ents.length from rfl, ents_ok h9]
  simp only
  rw [txt_ok (by omega)]
  obtain ⟨a1, a2, a3, a4, a5, a6, a7, a8, a9, a10, a11⟩ := m
  simp only [msgOf, headL, List.getD_cons_zero, List.getD_cons_succ]
  cases a9 <;> simp
theorem msg_inv {f t : Int} {s : St} {m : Ms} {T : BB} (h : msgS f t s = (m, (T, 0))) : s = (msB m ++ T, 0) ∧ m.frm = f ∧ m.to = t := by
  unfold msgS at h
  cases h1 : numsS topL s with
  | mk l s1 =>
    rw [h1] at h
    simp only at h
    cases h2 : entsS (l.getD 7 0).toNat s1 with
    | mk es s2 =>
      rw [h2] at h
      simp only at h
      cases h3 : txtS s2 with
      | mk d s3 =>
        rw [h3] at h
        simp only [Prod.mk.injEq] at h
        obtain ⟨rfl, rfl⟩ := h
        have h4 := txt_inv h3
        subst h4
        obtain ⟨h5, h6⟩ := ents_inv _ h2
        subst h5
        obtain ⟨h7, h8, h9⟩ := nums_inv topL h1
        subst h7
        refine ⟨?_, rfl, rfl⟩
        have h10 : l.length = 8 := h8
        match l, h10 with
        | [b0, b1, b2, b3, b4, b5, b6, b7], _ =>
          have k7 := (h9 7 (by simp)).1
          have k6 := h9 6 (by simp)
          simp only [List.getD_cons_zero, List.getD_cons_succ] at h6 k7 k6
          have k8 : b6 ≤ 1 := k6.2
          have e : headL (msgOf f t [b0, b1, b2, b3, b4, b5, b6, b7] es d) = [b0, b1, b2, b3, b4, b5, b6, b7] := by
            simp only [headL, msgOf, List.getD_cons_zero, List.getD_cons_succ]
            rw [show (es.length : Int) = b7 by omega, show (if decide (b6 = 1) = true then (1 : Int) else 0) = b6 by by_cases hb : b6 = 1 <;> simp [hb]; omega]
          unfold msB
          rw [e]
          simp only [msgOf, List.append_assoc]
theorem mss_at {f t : Int} {l : List Ms} (h : l.all (msFit f t) = true) (T : BB) : ∀ n, n ≤ l.length → mssS f t n (l.flatMap msB ++ T, 0) = (l.take n, ((l.drop n).flatMap msB ++ T, 0))
  | 0, _ => by simp [mssS]
  | n + 1, hn => by
    have hlt : n < l.length := by omega
    unfold mssS
    rw [mss_at h T n (by omega)]
    simp only [if_pos]
    rw [flat_at msB hlt T, msg_ok (List.all_eq_true.1 h _ (List.getElem_mem hlt))]
    rw [take_snoc hlt]
theorem mss_ok {f t : Int} {l : List Ms} (h : l.all (msFit f t) = true) (T : BB) : mssS f t l.length (l.flatMap msB ++ T, 0) = (l, (T, 0)) := by
  rw [mss_at h T _ (Nat.le_refl _), List.take_length, List.drop_length]; rfl
theorem mss_inv {f t : Int} : ∀ (n : Nat) {s : St} {l : List Ms} {T : BB}, mssS f t n s = (l, (T, 0)) → s = (l.flatMap msB ++ T, 0) ∧ l.length = n
  | 0, s, es, T, h => by
    simp only [mssS, Prod.mk.injEq] at h
    obtain ⟨rfl, rfl⟩ := h
    exact ⟨rfl, rfl⟩
  | n + 1, s, es, T, h => by
    unfold mssS at h
    cases h1 : mssS f t n s with
    | mk r s1 =>
      rw [h1] at h
      simp only at h
      split at h
      · cases h2 : msgS f t s1 with
        | mk e s2 =>
          rw [h2] at h
          simp only [Prod.mk.injEq] at h
          obtain ⟨rfl, rfl⟩ := h
          have h3 := (msg_inv h2).1
          subst h3
          have h4 := mss_inv n h1
          refine ⟨?_, by simp [h4.2]⟩
          rw [h4.1, List.flatMap_append, List.append_assoc]
          simp
      · rename_i h0
        simp only [Prod.mk.injEq] at h
        obtain ⟨rfl, rfl⟩ := h
        exact absurd rfl h0
theorem pchk_zero {f t : Int} {l : List Ms} (h : pchk f t l = 0) : (1 ≤ f ∧ f ≤ 7) ∧ (1 ≤ t ∧ t ≤ 7) ∧ f ≠ t ∧ l.length ≤ 256 ∧ l.all (msFit f t) = true := by
  unfold pchk at h
  split at h
  · simp at h
  · rename_i h1
    split at h
    · simp at h
    · rename_i h2
      split at h
      · rename_i h3
        simp only [not_or, Bool.not_eq_false, inI, Bool.and_eq_true, decide_eq_true_eq] at h1
        exact ⟨h1.1, h1.2.1, h1.2.2, by omega, h3⟩
      · simp at h
theorem body_ok {f t : Int} {l : List Ms} (h : pchk f t l = 0) : bodyS (bodyB f t l, 0) = ((f, t, l), ([], 0)) := by
  obtain ⟨h1, h2, h3, h4, h5⟩ := pchk_zero h
  have e : bodyB f t l = urI f ++ (urI t ++ (urI (l.length : Int) ++ (l.flatMap msB ++ []))) := by unfold bodyB numsB; simp
  have k1 : numS 7 (bodyB f t l, 0) = (f, (urI t ++ (urI (l.length : Int) ++ (l.flatMap msB ++ [])), 0)) := by rw [e]; exact numI_ok (by omega) (by omega) (by omega)
  have k2 : numS 7 (urI t ++ (urI (l.length : Int) ++ (l.flatMap msB ++ [])), 0) = (t, (urI (l.length : Int) ++ (l.flatMap msB ++ []), 0)) := numI_ok (by omega) (by omega) (by omega)
  have k3 : numS 256 (urI (l.length : Int) ++ (l.flatMap msB ++ []), 0) = ((l.length : Int), (l.flatMap msB ++ [], 0)) := numI_ok (by omega) (by omega) (by omega)
  unfold bodyS
  rw [k1]
  simp only
  rw [k2]
  simp only
  rw [k3]
  simp only
  rw [show ((l.length : Nat) : Int).toNat = l.length from Int.toNat_natCast _, mss_ok h5]
theorem body_inv {s : St} {p : Pk} (h : bodyS s = (p, ([], 0))) : s = (bodyB p.1 p.2.1 p.2.2, 0) := by
  unfold bodyS at h
  cases h1 : numS 7 s with
  | mk f s1 =>
    rw [h1] at h
    simp only at h
    cases h2 : numS 7 s1 with
    | mk t s2 =>
      rw [h2] at h
      simp only at h
      cases h3 : numS 256 s2 with
      | mk n s3 =>
        rw [h3] at h
        simp only at h
        cases h4 : mssS f t n.toNat s3 with
        | mk l s4 =>
          rw [h4] at h
          simp only [Prod.mk.injEq] at h
          obtain ⟨rfl, rfl⟩ := h
          obtain ⟨h5, h6⟩ := mss_inv _ h4
          subst h5
          obtain ⟨h7, h8, _⟩ := num_inv h3
          subst h7
          have h9 := (num_inv h2).1
          subst h9
          rw [(num_inv h1).1]
          unfold bodyB numsB
          simp only
          rw [show (l.length : Int) = n by omega]
          simp
theorem read_put {f t : Int} {l : List Ms} (h : pchk f t l = 0) : readM (sealB (bodyB f t l)) = ((f, t, l), 0) := by
  unfold readM
  rw [if_neg (by rw [sealB_len]; omega), sealB_take, if_pos rfl, body_ok h]
  unfold endS
  simp only [if_pos]
  rw [if_pos h]
theorem read_inv {b : BB} {p : Pk} (h : readM b = (p, 0)) : pchk p.1 p.2.1 p.2.2 = 0 ∧ b = sealB (bodyB p.1 p.2.1 p.2.2) := by
  unfold readM at h
  split at h
  · simp at h
  · split at h
    · rename_i h1 h2
      cases h3 : bodyS (b.take (b.length - 4), 0) with
      | mk q s =>
        rw [h3] at h
        unfold endS at h
        simp only at h
        split at h
        · rename_i h4
          split at h
          · rename_i h5
            split at h
            · rename_i h6
              simp only [Prod.mk.injEq, and_true] at h
              subst h
              refine ⟨h6, ?_⟩
              obtain ⟨s1, s2⟩ := s
              simp only at h4 h5
              subst h4 h5
              have h7 := body_inv h3
              simp only [Prod.mk.injEq, and_true] at h7
              rw [← h7]
              exact h2.symm
            · rename_i h6
              simp only [Prod.mk.injEq] at h
              exact absurd h.2 h6
          · simp at h
        · rename_i h4
          simp only [Prod.mk.injEq] at h
          exact absurd h.2 h4
    · simp at h
theorem read_err {b : BB} (h : (readM b).2 ≠ 0) : (readM b).1 = zPk := by
  unfold readM at h ⊢
  split
  · rfl
  · rename_i h1
    rw [if_neg h1] at h
    split
    · rename_i h2
      rw [if_pos h2] at h
      unfold endS at h ⊢
      split
      · rename_i h3
        rw [if_pos h3] at h
        split
        · rename_i h4
          rw [if_pos h4] at h
          split
          · rename_i h5
            rw [if_pos h5] at h
            exact absurd rfl h
          · rfl
        · rfl
      · rfl
    · rfl
theorem seal_sum (b : BB) : Crc.sum (sealB b) = 0x2144df1c#32 := by
  unfold sealB
  rw [← Crc.go_sum]
  exact Crc.ends _
/-- Bytes of which some within four side by side were turned have another sum. -/
theorem turned {p q : BB} {b0 b1 b2 b3 c0 c1 c2 c3 : BitVec 8} (h : Crc.word b0 b1 b2 b3 ≠ Crc.word c0 c1 c2 c3) {x y : BB} (hb : p ++ b0 :: b1 :: b2 :: b3 :: q = sealB x) : p ++ c0 :: c1 :: c2 :: c3 :: q ≠ sealB y := fun e => by
  refine Crc.tells p q b0 b1 b2 b3 c0 c1 c2 c3 h ?_
  have h1 := seal_sum x
  have h2 := seal_sum y
  rw [← hb] at h1
  rw [← e] at h2
  simpa using h1.trans h2.symm
theorem read_none {b : BB} (h4 : 4 ≤ b.length) (h : sealB (b.take (b.length - 4)) ≠ b) : readM b = (zPk, 4) := by
  unfold readM
  rw [if_neg (by omega), if_neg h]
/-- Messages put together: for the first n nodes. -/
def mine (from_ to_ : Int) (l : List Ms) : List Ms := l.filter fun m => decide (m.frm = from_) && decide (m.to = to_)
def togS (f : Int) (l : List Ms) : Nat → List Pk
  | 0 => []
  | n + 1 => if (n : Int) + 1 = f then togS f l n else if mine f ((n : Int) + 1) l = [] then togS f l n else togS f l n ++ [(f, (n : Int) + 1, mine f ((n : Int) + 1) l)]
end Go.Proofs.Ytcaddedkodjgcaa
