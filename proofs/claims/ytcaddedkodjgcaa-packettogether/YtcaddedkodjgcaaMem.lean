/-
  Entries in memory: what reads as some; rows that grow; cuts.
-/
import Derived.Test.YtcaddedkodjgcaaBas
import Derived.Test.YtcaddedkodjgcaaMth
namespace Go.Proofs.Ytcaddedkodjgcaa
open Go.RowKit
set_option linter.unusedVariables false

theorem info45 : (Try.prog.info? 48).map (fun i => (i.zero, i.size, i.bytes)) = some (some (.agg #[.int .i64 0, .slice none 0 0]), 2, 32) := by kernel_rfl
/-- Two cells that read as an entry. -/
def ReadsE (w : World) (P : Nat → Prop) (u0 u1 : Value) (e : En) : Prop := ∃ ka kc, u0 = .int .i64 e.1 ∧ u1 = .slice ka e.2.length kc ∧ ReadsV w (.slice ka e.2.length kc) e.2 ∧ (e.2 ≠ [] → ∀ x, ka = some x → P x.block) ∧ InR e.1
theorem ReadsE.kept {w w' : World} {P Q : Nat → Prop} {u0 u1 : Value} {e : En} (h : ReadsE w P u0 u1 e) (hk : ∀ g, P g → g < w.heap.size → w'.heap[g]? = w.heap[g]? ∧ Q g) : ReadsE w' Q u0 u1 e := by
  obtain ⟨ka, kc, h1, h2, h3, h4, h5⟩ := h
  have lt : e.2 ≠ [] → ∀ x, ka = some x → x.block < w.heap.size := fun h0 x hx => by
    obtain ⟨b, off, e1, hb, _⟩ := cells_of h3 (by cases he : e.2 with | nil => exact absurd he h0 | cons _ _ => simp)
    rw [e1] at hx; cases hx; exact hb
  exact ⟨ka, kc, h1, h2, readsV_kept h3 fun h0 x hx => (hk _ (h4 h0 x hx) (lt h0 x hx)).1, fun h0 x hx => (hk _ (h4 h0 x hx) (lt h0 x hx)).2, h5⟩
/-- A slice of entries that reads as some. -/
def EnsV (w : World) (P : Nat → Prop) (a : Option Addr) (c : Nat) (es : List En) : Prop :=
  es.length ≤ c ∧ c ≤ 9223372036854775807 ∧ (a = none → c = 0) ∧ ∀ i, i < es.length → ∃ b o u0 u1, (a = some ⟨b, o, none⟩ ∧ P b) ∧ w.cell? ⟨b, o + i * 2, none⟩ = some u0 ∧ w.cell? ⟨b, o + i * 2 + 1, none⟩ = some u1 ∧ ReadsE w P u0 u1 (es.getD i zE)
theorem EnsV.nil (w : World) (P : Nat → Prop) : EnsV w P none 0 [] := ⟨Nat.le_refl _, by decide, fun _ => rfl, fun i hi => by simp at hi⟩
theorem EnsV.kept {w w' : World} {P Q : Nat → Prop} {a : Option Addr} {c : Nat} {es : List En} (h : EnsV w P a c es) (hk : ∀ g, P g → g < w.heap.size → w'.heap[g]? = w.heap[g]? ∧ Q g) : EnsV w' Q a c es := by
  obtain ⟨h1, h2, h3, h4⟩ := h
  refine ⟨h1, h2, h3, fun i hi => ?_⟩
  obtain ⟨b, o, u0, u1, ⟨q1, qp⟩, q2, q3, q4⟩ := h4 i hi
  obtain ⟨e, eq⟩ := hk b qp (World.block_lt_of_cell? _ _ q2)
  exact ⟨b, o, u0, u1, ⟨q1, eq⟩, (cell_kept e _).trans q2, (cell_kept e _).trans q3, q4.kept hk⟩
theorem EnsV.below {w w' : World} {P : Nat → Prop} {a : Option Addr} {c : Nat} {es : List En} (h : EnsV w P a c es) (hb : Below w.heap.size w w') : EnsV w' P a c es := h.kept fun g hg hlt => ⟨hb.block g hlt, hg⟩
theorem EnsV.sub {w : World} {P Q : Nat → Prop} {a : Option Addr} {c : Nat} {es : List En} (h : EnsV w P a c es) (hq : ∀ g, P g → g < w.heap.size → Q g) : EnsV w Q a c es := h.kept fun g hg hlt => ⟨rfl, hq g hg hlt⟩
theorem EnsV.all {w : World} {P : Nat → Prop} {a : Option Addr} {c : Nat} {es : List En} (h : EnsV w P a c es) : EnsV w (fun _ => True) a c es := h.sub fun _ _ _ => trivial
theorem EnsV.low {w : World} {P : Nat → Prop} {a : Option Addr} {c : Nat} {es : List En} (h : EnsV w P a c es) : EnsV w (fun g => g < w.heap.size) a c es := h.sub fun _ _ q => q
theorem EnsV.drew {w : World} {P : Nat → Prop} {a : Option Addr} {c : Nat} {es : List En} (h : EnsV w P a c es) : EnsV w.drew P a c es := h.below (Below.refl _ _).drew
theorem EnsV.alloc {w : World} {P : Nat → Prop} {a : Option Addr} {c : Nat} {es : List En} (h : EnsV w P a c es) (o : Obj) : EnsV (w.alloc o) P a c es := h.below ((Below.refl _ _).alloc (Nat.le_refl _) o)
theorem EnsV.cap1 {w : World} {P : Nat → Prop} {a : Option Addr} {c : Nat} {es : List En} (h : EnsV w P a c es) : es.length ≤ c := h.1
theorem EnsV.cap2 {w : World} {P : Nat → Prop} {a : Option Addr} {c : Nat} {es : List En} (h : EnsV w P a c es) : c ≤ 9223372036854775807 := h.2.1
/-- One of them: its cells. -/
theorem EnsV.at_ {w : World} {P : Nat → Prop} {a : Option Addr} {c : Nat} {es : List En} (h : EnsV w P a c es) {i : Nat} (hi : i < es.length) : ∃ b o ka kc, a = some ⟨b, o, none⟩ ∧ w.cell? ⟨b, o + i * 2, none⟩ = some (.int .i64 (tOf es i)) ∧ w.cell? ⟨b, o + i * 2 + 1, none⟩ = some (.slice ka (es.getD i zE).2.length kc) ∧ ReadsV w (.slice ka (es.getD i zE).2.length kc) (es.getD i zE).2 ∧ InR (tOf es i) ∧ b < w.heap.size ∧ ReadsE w P (.int .i64 (tOf es i)) (.slice ka (es.getD i zE).2.length kc) (es.getD i zE) := by
  obtain ⟨b, o, u0, u1, ⟨q1, _⟩, q2, q3, q4⟩ := h.2.2.2 i hi
  obtain ⟨ka, kc, rfl, rfl, r1, r2, r3⟩ := id q4
  exact ⟨b, o, ka, kc, q1, q2, q3, r1, r3, World.block_lt_of_cell? _ _ q2, q4⟩
theorem EnsV.inr {w : World} {P : Nat → Prop} {a : Option Addr} {c : Nat} {es : List En} (h : EnsV w P a c es) : ∀ i, i < es.length → InR (tOf es i) := fun i hi => by
  obtain ⟨b, o, ka, kc, _, _, _, _, q, _⟩ := h.at_ hi
  exact q
theorem add2 (b o k : Nat) : (⟨b, o, none⟩ : Addr).add k = ⟨b, o + k, none⟩ := add_plain b o k
theorem getD_drop (es : List En) (k i : Nat) : (es.drop k).getD i zE = es.getD (k + i) zE := by
  rw [List.getD_eq_getElem?_getD, List.getElem?_drop, ← List.getD_eq_getElem?_getD]
theorem getD_take {es : List En} {k i : Nat} (h : i < k) : (es.take k).getD i zE = es.getD i zE := by
  rw [List.getD_eq_getElem?_getD, List.getElem?_take, if_pos h, ← List.getD_eq_getElem?_getD]
/-- x[k:]. -/
theorem EnsV.drop {w : World} {P : Nat → Prop} {a : Option Addr} {c : Nat} {es : List En} (h : EnsV w P a c es) {k : Nat} (hk : k ≤ es.length) : EnsV w P (if c = k then a else a.map (·.add (k * 2))) (c - k) (es.drop k) := by
  obtain ⟨h1, h2, h3, h4⟩ := h
  refine ⟨by rw [List.length_drop]; omega, by omega, fun e => ?_, fun i hi => ?_⟩
  · split at e
    · omega
    · have : a = none := by cases a with | none => rfl | some _ => simp at e
      have := h3 this; omega
  · rw [List.length_drop] at hi
    obtain ⟨b, o, u0, u1, ⟨q1, qp⟩, q2, q3, q4⟩ := h4 (k + i) (by omega)
    subst q1
    refine ⟨b, o + k * 2, u0, u1, ⟨?_, qp⟩, ?_, ?_, ?_⟩
    · rw [if_neg (by omega), Option.map_some, add2]
    · rw [show o + k * 2 + i * 2 = o + (k + i) * 2 by omega]; exact q2
    · rw [show o + k * 2 + i * 2 = o + (k + i) * 2 by omega]; exact q3
    · rw [getD_drop]; exact q4
/-- x[:k]. -/
theorem EnsV.take {w : World} {P : Nat → Prop} {a : Option Addr} {c : Nat} {es : List En} (h : EnsV w P a c es) {k : Nat} (hk : k ≤ es.length) : EnsV w P a c (es.take k) := by
  obtain ⟨h1, h2, h3, h4⟩ := h
  refine ⟨by rw [List.length_take]; omega, h2, h3, fun i hi => ?_⟩
  rw [List.length_take] at hi
  obtain ⟨b, o, u0, u1, q1, q2, q3, q4⟩ := h4 i (by omega)
  exact ⟨b, o, u0, u1, q1, q2, q3, by rw [getD_take (by omega)]; exact q4⟩
/-- A row that grows, of the call's own from B on; what its entries lead to lies in S, and not in the row. -/
def Gz (w : World) (B : Nat) (S : Nat → Prop) (v : Value) (ts : List En) : Prop := ∃ xs, w.ownsRow B 48 2 v ts.length xs ∧ ∀ j, j < ts.length → ∃ u0 u1, xs[j * 2]? = some u0 ∧ xs[j * 2 + 1]? = some u1 ∧ ReadsE w (fun g => S g ∧ v.ownBlock ≠ some g) u0 u1 (ts.getD j zE)
theorem Gz.nil (w : World) (B : Nat) (S : Nat → Prop) : Gz w B S (.slice none 0 0) [] := ⟨[], World.ownsRow_nil _ _ _ _, fun j hj => by simp at hj⟩
theorem Gz.kept {w w' : World} {B : Nat} {S : Nat → Prop} {v : Value} {ts : List En} (h : Gz w B S v ts) (hk : ∀ g, B ≤ g ∨ S g → g < w.heap.size → w'.heap[g]? = w.heap[g]?) : Gz w' B S v ts := by
  obtain ⟨xs, h1, h2⟩ := h
  refine ⟨xs, ⟨h1.1, ?_⟩, fun j hj => ?_⟩
  · rcases h1.2 with hn | ⟨g, cap, cur, hv, hg, hh, rest⟩
    · exact .inl hn
    · exact .inr ⟨g, cap, cur, hv, hg, by rw [hk g (.inl hg) (Array.getElem?_eq_some_iff.1 hh).1]; exact hh, rest⟩
  · obtain ⟨u0, u1, q1, q2, q3⟩ := h2 j hj
    exact ⟨u0, u1, q1, q2, q3.kept fun g hg hlt => ⟨hk g (.inr hg.1) hlt, hg⟩⟩
theorem Gz.below {w w' : World} {B : Nat} {S : Nat → Prop} {v : Value} {ts : List En} (h : Gz w B S v ts) (hb : Below w.heap.size w w') : Gz w' B S v ts := h.kept fun g _ hlt => hb.block g hlt
theorem Gz.form {w : World} {B : Nat} {S : Nat → Prop} {v : Value} {ts : List En} (h : Gz w B S v ts) : ∃ a c, v = .slice a ts.length c := by
  obtain ⟨xs, h1, _⟩ := h
  rcases h1.2 with ⟨rfl, h0⟩ | ⟨g, cap, cur, rfl, _⟩
  · exact ⟨_, _, by rw [h0]⟩
  · exact ⟨_, _, rfl⟩
theorem Gz.own {w : World} {B : Nat} {S : Nat → Prop} {v : Value} {ts : List En} (h : Gz w B S v ts) : ∀ k, v.ownBlock = some k → B ≤ k ∧ k < w.heap.size := by
  obtain ⟨xs, h1, _⟩ := h
  exact World.ownsRow.lt h1
/-- What grew reads. -/
theorem Gz.reads {w : World} {B : Nat} {S : Nat → Prop} {a : Option Addr} {n c : Nat} {ts : List En} (h : Gz w B S (.slice a n c) ts) : n = ts.length ∧ EnsV w (fun g => S g ∨ B ≤ g) a c ts := by
  obtain ⟨xs, h1, h2⟩ := h
  rcases id h1.2 with ⟨e, h0⟩ | ⟨g, cap, cur, e, hb, hh, q1, q2, q3, q4⟩
  · simp only [Value.slice.injEq] at e
    obtain ⟨rfl, rfl, rfl⟩ := e
    obtain rfl : ts = [] := List.length_eq_zero_iff.1 h0
    exact ⟨rfl, EnsV.nil w _⟩
  · simp only [Value.slice.injEq] at e
    obtain ⟨rfl, rfl, rfl⟩ := e
    refine ⟨rfl, q1, q2, fun e => (by cases e), fun i hi => ?_⟩
    obtain ⟨u0, u1, r1, r2, r3⟩ := h2 i hi
    refine ⟨g, 0, u0, u1, ⟨rfl, .inr hb⟩, ?_, ?_, r3.kept fun g hg _ => ⟨rfl, .inl hg.1⟩⟩
    · rw [Nat.zero_add, World.ownsRow.cellAt h1 (i * 2) (by omega)]; exact r1
    · rw [Nat.zero_add, World.ownsRow.cellAt h1 (i * 2 + 1) (by omega)]; exact r2
/-- The cells of what reads, one behind the other. -/
theorem EnsV.flat {w : World} {P : Nat → Prop} {b o c : Nat} {l : List En} (h : EnsV w P (some ⟨b, o, none⟩) c l) : ∃ news : List Value, news.length = l.length * 2 ∧ (∀ j u, news[j]? = some u → w.cell? ((⟨b, o, none⟩ : Addr).add j) = some u) ∧ (∀ u ∈ news, u.oneCell' = true) ∧ ∀ j, j < l.length → ∃ u0 u1, news[j * 2]? = some u0 ∧ news[j * 2 + 1]? = some u1 ∧ ReadsE w P u0 u1 (l.getD j zE) := by
  have key : ∀ i, i < l.length → ∃ u0 u1, w.cell? ⟨b, o + i * 2, none⟩ = some u0 ∧ w.cell? ⟨b, o + i * 2 + 1, none⟩ = some u1 ∧ ReadsE w P u0 u1 (l.getD i zE) := fun i hi => by
    obtain ⟨b', o', u0, u1, ⟨q1, _⟩, q2, q3, q4⟩ := h.2.2.2 i hi
    cases q1
    exact ⟨u0, u1, q2, q3, q4⟩
  have hat : ∀ j, j < l.length * 2 → ∃ u, w.cell? ⟨b, o + j, none⟩ = some u ∧ u.oneCell' = true := fun j hj => by
    obtain ⟨u0, u1, q2, q3, ka, kc, rfl, rfl, _⟩ := key (j / 2) (by omega)
    rcases Nat.mod_two_eq_zero_or_one j with e | e
    · rw [show o + j / 2 * 2 = o + j by omega] at q2
      exact ⟨_, q2, rfl⟩
    · rw [show o + j / 2 * 2 + 1 = o + j by omega] at q3
      exact ⟨_, q3, rfl⟩
  have get : ∀ j, j < l.length * 2 → ((List.range (l.length * 2)).map fun j => (w.cell? ⟨b, o + j, none⟩).getD (.bool false))[j]? = w.cell? ⟨b, o + j, none⟩ := fun j hj => by
    rw [List.getElem?_map, List.getElem?_range hj]
    obtain ⟨u, hu, _⟩ := hat j hj
    simp [hu]
  refine ⟨(List.range (l.length * 2)).map fun j => (w.cell? ⟨b, o + j, none⟩).getD (.bool false), by simp, fun j u hj => ?_, fun u hu => ?_, fun j hj => ?_⟩
  · have hlt : j < l.length * 2 := by
      obtain ⟨q, _⟩ := List.getElem?_eq_some_iff.1 hj
      simpa using q
    rw [get j hlt] at hj
    rw [add2]; exact hj
  · obtain ⟨j, hj, rfl⟩ := List.mem_map.1 hu
    obtain ⟨u, hu, h1⟩ := hat j (List.mem_range.1 hj)
    rw [hu]; exact h1
  · obtain ⟨u0, u1, q2, q3, q4⟩ := key j hj
    exact ⟨u0, u1, by rw [get _ (by omega)]; exact q2, by rw [get _ (by omega)]; exact q3, q4⟩
theorem getD_left {es fs : List En} {i : Nat} (h : i < es.length) : (es ++ fs).getD i zE = es.getD i zE := by
  rw [List.getD_eq_getElem?_getD, List.getElem?_append_left h, ← List.getD_eq_getElem?_getD]
theorem getD_right {es fs : List En} {i : Nat} : (es ++ fs).getD (es.length + i) zE = fs.getD i zE := by
  rw [List.getD_eq_getElem?_getD, List.getElem?_append_right (Nat.le_add_right _ _), Nat.add_sub_cancel_left, ← List.getD_eq_getElem?_getD]
/-- 'append(v, x...)'. -/
theorem run_app (ty : TypeId) {w : World} {B : Nat} {S P : Nat → Prop} {v : Value} {ts l : List En} {ax : Option Addr} {cx : Nat} (hG : Gz w B S v ts) (hE : EnsV w P ax cx l) (hP : ∀ g, P g → g < w.heap.size → S g ∧ v.ownBlock ≠ some g) (hbase : B ≤ w.heap.size) (hlen : ts.length + l.length ≤ 1048576) :
    ∃ v' w', (Builtin.append_ #[49, 49] ty #[v, .slice ax l.length cx]).run Try.prog w = .ok v' w' ∧ Gz w' B S v' (ts ++ l) ∧ w.grownBy w' v.ownBlock ∧ (v'.ownBlock = v.ownBlock ∨ v'.ownBlock = some w.heap.size) := by
  obtain ⟨i, hi, hz, hsize, hby⟩ := info_parts info45
  obtain ⟨xs, h1, h2⟩ := id hG
  cases ax with
  | none =>
    have hc := hE.2.2.1 rfl
    have h0 : l = [] := List.length_eq_zero_iff.1 (by have := hE.1; omega)
    subst hc h0
    refine ⟨v, w, run_append_owned_none (P := Try.prog) (w := w) B 49 ty 48 i 2 Try.underlying49 hi v ts.length xs h1, by rw [List.append_nil]; exact hG, ⟨rfl, rfl, rfl, Nat.le_refl _, fun _ _ _ => rfl⟩, .inl rfl⟩
  | some ad =>
    by_cases h0 : l = []
    · subst h0
      obtain ⟨v', w', hr, q2, q3, q4, q5⟩ := run_append_own_at (P := Try.prog) w B 49 ty 48 i _ 2 32 Try.underlying49 hi hz hsize hby rfl (by decide) v ts.length xs h1 ad 0 cx [] (by simp) (fun j u hj => by simp at hj) (fun u hu => by simp at hu) (by unfold maxLen; simp at hlen; omega) (by simp at hlen; omega) hbase
      refine ⟨v', w', hr, ⟨xs, by simpa using q2, fun j hj => ?_⟩, q3, q5⟩
      rw [List.append_nil] at hj ⊢
      obtain ⟨u0, u1, r1, r2, r3⟩ := h2 j hj
      refine ⟨u0, u1, r1, r2, r3.kept fun g hg hlt => ⟨q3.block g hlt fun e => hg.2 e.symm, hg.1, ?_⟩⟩
      rcases q5 with e | e
      · rw [e]; exact hg.2
      · rw [e]; intro h; injection h with h; omega
    · obtain ⟨b, o, u0, u1, ⟨e, _⟩, _⟩ := hE.2.2.2 0 (by cases l with | nil => exact absurd rfl h0 | cons _ _ => simp)
      cases e
      obtain ⟨news, n1, n2, n3, n4⟩ := hE.flat
      obtain ⟨v', w', hr, q2, q3, q4, q5⟩ := run_append_own_at (P := Try.prog) w B 49 ty 48 i _ 2 32 Try.underlying49 hi hz hsize hby rfl (by decide) v ts.length xs h1 ⟨b, o, none⟩ l.length cx news n1 n2 n3 (by unfold maxLen; omega) (by omega) hbase
      refine ⟨v', w', hr, ⟨xs ++ news, by rw [List.length_append]; exact q2, fun j hj => ?_⟩, q3, q5⟩
      have hx := h1.1
      have key : ∀ {u0 u1 : Value} {t : En}, ReadsE w (fun g => S g ∧ v.ownBlock ≠ some g) u0 u1 t → ReadsE w' (fun g => S g ∧ v'.ownBlock ≠ some g) u0 u1 t := fun h => h.kept fun g hg hlt => ⟨q3.block g hlt fun e => hg.2 e.symm, hg.1, by
        rcases q5 with e | e
        · rw [e]; exact hg.2
        · rw [e]; intro h; injection h with h; omega⟩
      rw [List.length_append] at hj
      by_cases hlt : j < ts.length
      · obtain ⟨u0, u1, r1, r2, r3⟩ := h2 j hlt
        exact ⟨u0, u1, by rw [List.getElem?_append_left (by omega)]; exact r1, by rw [List.getElem?_append_left (by omega)]; exact r2, by rw [getD_left hlt]; exact key r3⟩
      · obtain ⟨k, rfl⟩ : ∃ k, j = ts.length + k := ⟨j - ts.length, by omega⟩
        obtain ⟨u0, u1, r1, r2, r3⟩ := n4 k (by omega)
        refine ⟨u0, u1, ?_, ?_, ?_⟩
        · rw [List.getElem?_append_right (by omega), show (ts.length + k) * 2 - xs.length = k * 2 by omega]; exact r1
        · rw [List.getElem?_append_right (by omega), show (ts.length + k) * 2 + 1 - xs.length = k * 2 + 1 by omega]; exact r2
        · rw [getD_right]; exact key (r3.kept fun g hg hlt => ⟨rfl, hP g hg hlt⟩)
theorem list_app {ops : Array Oper} {rest : List Oper} {o : Oper} {a : Act} {Q : Exit → Act → World → Prop} {wX : World} (hgd : o.guard = none) (s x : Operand)
    (ho : o.op = .call { callee := .builtin .append, args := #[s, x], argTypes := #[49, 49] }) {B : Nat} {S P : Nat → Prop} {v : Value} {ts l : List En} {ax : Option Addr} {nx cx : Nat}
    (hG : Gz wX B S v ts) (hE : EnsV wX P ax cx l) (hn : nx = l.length) (hP : ∀ g, P g → g < wX.heap.size → S g ∧ v.ownBlock ≠ some g) (hbase : B ≤ wX.heap.size) (hs : a.eval s = v) (hx : a.eval x = .slice ax nx cx) (hlen : ts.length + l.length ≤ 1048576)
    (h : ∀ v' w', Gz w' B S v' (ts ++ l) → wX.grownBy w' v.ownBlock → (v'.ownBlock = v.ownBlock ∨ v'.ownBlock = some wX.heap.size) → wpList Try.prog ops Q rest (a.put o.dst v') w') : wpList Try.prog ops Q (o :: rest) a wX := by
  subst hn
  obtain ⟨v', w', hr, q1, q2, q3⟩ := run_app o.type hG hE hP hbase hlen
  refine wpList_plain hgd fun K hK => ?_
  unfold Oper.wp execOp
  simp only [ho, resolve, invoke, builtin, Sem.run_bind, Sem.run_pure, Result.andThen_ok, List.map_toArray, List.map_cons, List.map_nil, hs, hx, hr]
  exact hK _ _ (h v' w' q1 q2 q3)
theorem step_app {ops : Array Oper} {o : Oper} {a : Act} {K : Act → World → Prop} {Q : Exit → Act → World → Prop} {E : Prop} {wX : World} (hgd : o.guard = none) (s x : Operand)
    (ho : o.op = .call { callee := .builtin .append, args := #[s, x], argTypes := #[49, 49] }) {B : Nat} {S P : Nat → Prop} {v : Value} {ts l : List En} {ax : Option Addr} {nx cx : Nat}
    (hG : Gz wX B S v ts) (hE : EnsV wX P ax cx l) (hn : nx = l.length) (hP : ∀ g, P g → g < wX.heap.size → S g ∧ v.ownBlock ≠ some g) (hbase : B ≤ wX.heap.size) (hs : a.eval s = v) (hx : a.eval x = .slice ax nx cx) (hlen : ts.length + l.length ≤ 1048576)
    (h : ∀ v' w', Gz w' B S v' (ts ++ l) → wX.grownBy w' v.ownBlock → (v'.ownBlock = v.ownBlock ∨ v'.ownBlock = some wX.heap.size) → K (a.put o.dst v') w') : if Region.wanted o (yielded ops a.tmps) = true then Oper.wp Try.prog o a wX K Q else E := by
  subst hn
  obtain ⟨v', w', hr, q1, q2, q3⟩ := run_app o.type hG hE hP hbase hlen
  rw [if_pos (show Region.wanted o (yielded ops a.tmps) = true by simp [Region.wanted, hgd])]
  unfold Oper.wp execOp
  simp only [ho, resolve, invoke, builtin, Sem.run_bind, Sem.run_pure, Result.andThen_ok, List.map_toArray, List.map_cons, List.map_nil, hs, hx, hr]
  exact h v' w' q1 q2 q3
/-- 'append([]byte(nil), x...)'. -/
theorem run_bytes (ty : TypeId) {w : World} {v2 : Value} {l : BB} (hr : ReadsV w v2 l) (hlen : l.length ≤ 1048576) :
    ∃ v' w', (Builtin.append_ #[27, 27] ty #[.slice none 0 0, v2]).run Try.prog w = .ok v' w' ∧ Owns w' w.heap.size v' l ∧ Below w.heap.size w w' := by
  obtain ⟨i, hi, hz, hsize, hby⟩ := info_parts Try.info5
  have hown := Owns.nil w w.heap.size
  obtain ⟨ad, cap, rfl, hnil, _, _, hrd⟩ := hr
  cases ad with
  | none =>
    have hl2 : l = [] := by
      rcases hrd.2 with h | ⟨_, _, h, _⟩
      · exact h
      · cases h
    subst hl2
    have hc : cap = 0 := hnil rfl
    subst hc
    exact ⟨_, w, run_append_owned_none (P := Try.prog) (w := w) w.heap.size 27 ty 5 i 1 Try.underlying27 hi _ 0 [] hown, hown, Below.refl _ _⟩
  | some ad =>
    obtain ⟨v', w', hr, q2, q3, q4, q5⟩ := run_append_own_at (P := Try.prog) w w.heap.size 27 ty 5 i _ 1 1 Try.underlying27 hi hz hsize hby rfl (by decide) (.slice none 0 0) 0 [] hown ad l.length cap (bytesV l) (by simp [bytesV_length])
      (fun j u hj => by
        obtain ⟨hj1, rfl⟩ := bytesV_getElem hj
        rcases hrd.2 with h0 | ⟨b, off, hb, hc⟩
        · subst h0; simp at hj1
        · cases hb
          rw [add_plain]
          exact hc j hj1) bytesV_one (by unfold maxLen; omega) (by omega) (Nat.le_refl _)
    refine ⟨v', w', hr, ?_, (Below.refl _ _).grown q3 (Nat.le_refl _) fun k hk => by cases hk⟩
    show w'.ownsRow w.heap.size 5 1 v' l.length (bytesV l)
    rw [Nat.zero_add, List.nil_append] at q2
    exact q2
theorem step_bytes {ops : Array Oper} {o : Oper} {a : Act} {K : Act → World → Prop} {Q : Exit → Act → World → Prop} {E : Prop} {wX : World} (hgd : o.guard = none) (s x : Operand)
    (ho : o.op = .call { callee := .builtin .append, args := #[s, x], argTypes := #[27, 27] }) {v2 : Value} {l : BB} (hr : ReadsV wX v2 l) (hlen : l.length ≤ 1048576) (hs : a.eval s = .slice none 0 0) (hx : a.eval x = v2)
    (h : ∀ v' w', Owns w' wX.heap.size v' l → Below wX.heap.size wX w' → K (a.put o.dst v') w') : if Region.wanted o (yielded ops a.tmps) = true then Oper.wp Try.prog o a wX K Q else E := by
  obtain ⟨v', w', hr, q1, q2⟩ := run_bytes o.type hr hlen
  rw [if_pos (show Region.wanted o (yielded ops a.tmps) = true by simp [Region.wanted, hgd])]
  unfold Oper.wp execOp
  simp only [ho, resolve, invoke, builtin, Sem.run_bind, Sem.run_pure, Result.andThen_ok, List.map_toArray, List.map_cons, List.map_nil, hs, hx, hr]
  exact h v' w' q1 q2
theorem own_shape {w : World} {base : Nat} {v : Value} {l : BB} (h : Owns w base v l) : ∃ a c, v = .slice a l.length c ∧ ∀ x, a = some x → base ≤ x.block := by
  rcases h.2 with ⟨rfl, h0⟩ | ⟨g, cap, cur, rfl, hb, _⟩
  · exact ⟨_, _, by rw [h0], fun x hx => by cases hx⟩
  · exact ⟨_, _, rfl, fun x hx => by cases hx; exact hb⟩
/-- A new row of one entry. -/
theorem EnsV.one {w : World} {P : Nat → Prop} {u0 u1 : Value} {e : En} {g : Nat} (hg : g = w.heap.size) (hp : P g) (h : ReadsE w P u0 u1 e) : EnsV (w.alloc (.cells #[u0, u1] 48)) P (some ⟨g, 0, none⟩) 1 [e] := by
  subst hg
  refine ⟨by simp, by decide, fun e => (by cases e), fun i hi => ?_⟩
  obtain rfl : i = 0 := by simp at hi; omega
  have k := heap_alloc_new w (.cells #[u0, u1] 48)
  refine ⟨w.heap.size, 0, u0, u1, ⟨rfl, hp⟩, ?_, ?_, h.kept fun g hg hlt => ⟨Below.heap_alloc _ _ _ hlt, hg⟩⟩
  · rw [cell_of_row _ _ _ _ 48 (0, 0) k]; rfl
  · rw [cell_of_row _ _ _ _ 48 (0, 0) k]; rfl
/-- Several lists, as they are handed to copies. -/
def LsV (w : World) (a : Option Addr) (c : Nat) (ls : List (List En)) : Prop := ls.length ≤ c ∧ c ≤ 9223372036854775807 ∧ ∀ i, i < ls.length → ∃ b o ka kc, a = some ⟨b, o, none⟩ ∧ w.cell? ⟨b, o + i, none⟩ = some (.slice ka (ls.getD i []).length kc) ∧ EnsV w (fun _ => True) ka kc (ls.getD i [])
theorem LsV.below {w w' : World} {a : Option Addr} {c : Nat} {ls : List (List En)} (h : LsV w a c ls) (hb : Below w.heap.size w w') : LsV w' a c ls := by
  refine ⟨h.1, h.2.1, fun i hi => ?_⟩
  obtain ⟨b, o, ka, kc, q1, q2, q3⟩ := h.2.2 i hi
  exact ⟨b, o, ka, kc, q1, (cell_kept (hb.block b (World.block_lt_of_cell? _ _ q2)) _).trans q2, q3.below hb⟩
theorem LsV.nil (w : World) : LsV w none 0 [] := ⟨Nat.le_refl _, by decide, fun i hi => by simp at hi⟩
theorem LsV.one {w : World} {ka : Option Addr} {kn kc g : Nat} {l : List En} (hg : g = w.heap.size) (hn : kn = l.length) (h : EnsV w (fun _ => True) ka kc l) : LsV (w.alloc (.cells #[.slice ka kn kc] 49)) (some ⟨g, 0, none⟩) 1 [l] := by
  subst hg hn
  refine ⟨Nat.le_refl _, by decide, fun i hi => ?_⟩
  obtain rfl : i = 0 := by simp at hi; omega
  have k := heap_alloc_new w (.cells #[.slice ka l.length kc] 49)
  exact ⟨w.heap.size, 0, ka, kc, rfl, by rw [cell_of_row _ _ _ _ 49 (0, 0) k]; rfl, h.alloc _⟩
theorem LsV.two {w : World} {ka : Option Addr} {kn kc g : Nat} {l : List En} {ja : Option Addr} {jn jc : Nat} {m : List En} (hg : g = w.heap.size) (hn : kn = l.length) (h : EnsV w (fun _ => True) ka kc l) (hm : jn = m.length) (h2 : EnsV w (fun _ => True) ja jc m) : LsV (w.alloc (.cells #[.slice ka kn kc, .slice ja jn jc] 49)) (some ⟨g, 0, none⟩) 2 [l, m] := by
  subst hg hn hm
  refine ⟨Nat.le_refl _, by decide, fun i hi => ?_⟩
  have k := heap_alloc_new w (.cells #[.slice ka l.length kc, .slice ja m.length jc] 49)
  have hi : i = 0 ∨ i = 1 := by simp at hi; omega
  rcases hi with rfl | rfl
  · exact ⟨w.heap.size, 0, ka, kc, rfl, by rw [cell_of_row _ _ _ _ 49 (0, 0) k]; rfl, h.alloc _⟩
  · exact ⟨w.heap.size, 0, ja, jc, rfl, by rw [cell_of_row _ _ _ _ 49 (0, 0) k]; rfl, h2.alloc _⟩
theorem Gz.made (w : World) (B n : Nat) (S : Nat → Prop) (hn : n ≤ 1048576) (hB : B ≤ w.heap.size) : ∃ w', (∀ kl kc : IntKind, (Instr.makeSlice 49 (.int kl 0) (.int kc (n : Int))).run Try.prog w = .ok (.slice (some ⟨w.heap.size, 0, none⟩) 0 n) w') ∧ Gz w' B S (.slice (some ⟨w.heap.size, 0, none⟩) 0 n) [] ∧ w.grownBy w' none := by
  obtain ⟨i, hi, hz, hsize, hby⟩ := info_parts info45
  have hb2 : i.bytes * n ≤ 281474976710656 := by rw [hby]; omega
  have hb3 : (i.bytes : Int) * (n : Int) ≤ 281474976710656 := by
    have h : ((i.bytes * n : Nat) : Int) ≤ 281474976710656 := by omega
    rwa [Int.natCast_mul] at h
  have hr := fun kl kc : IntKind => run_make (P := Try.prog) w 49 48 i _ Try.underlying49 hi hz kl kc 0 n (Int.le_refl _) (by omega) hb3 (by omega)
  simp only [Int.toNat_zero, Int.toNat_natCast] at hr
  refine ⟨_, hr, ⟨[], ?_, fun j hj => by simp at hj⟩, World.grownBy_alloc w _ none⟩
  have := World.ownsRow_made w (e := 48) (size := 2) (base := B) (madeCells (Value.agg #[.int .i64 0, .slice none 0 0]).cells (n * i.size)) n hB (by unfold maxLen; omega) (by rw [size_madeCells, hsize])
  exact this
end Go.Proofs.Ytcaddedkodjgcaa
