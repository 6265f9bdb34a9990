/-
  The program's follow: its contract.
-/
import Derived.Test.YtfmfphfckaiejaaJah
import Derived.Test.YtfmfphfckaiejaaJak
import Derived.Test.YtfmfphfckaiejaaJal
import Derived.Test.YtfmfphfckaiejaaJan
namespace Go.Proofs.Ytfmfphfckaiejaa
section
open Go.RowKit
set_option linter.unusedVariables false


def Ad.cleared (s : Ad) : Ad := { s with ga := none, gc := 0, xa := none, xc := 0, ma := none, mc := 0 }
theorem heap_other {w : World} {M : Nat} {p : Nat} {x : Value} {g : Nat} (h : g ≠ M) : (w.setCell ⟨M, p, none⟩ x).heap[g]? = w.heap[g]? := Below.heap_setCell _ _ _ _ h
set_option maxRecDepth 100000 in
set_option maxHeartbeats 400000 in
theorem follow_any {w : World} {B M : Nat} {s : Ad} {m : Mb} {v : Value} {ts : List Ms} (hW : Wk w B M s m v ts) (T who : Int) : Calls Try.prog 60 #[.pointer (some ⟨M, 0, none⟩), .int .i64 T, .int .i64 who] w fun e w' => e = .returned (.tuple #[]) ∧ Wk w' B M s.cleared (followM m T who) v ts ∧ Dn B M v v w w' := by
  have HW : Hid (Wk w B M s m v ts) := hW
  have hM := hW.lt
  by_cases q : m.term < T
  · have e1 : followM m T who = { m with term := T, vote := 0, role := 0, lead := who, granted := [], next := [], mtch := [] } := by unfold followM; rw [if_pos q, if_pos q]
    rw [e1]
    obtain ⟨c0, c1, c2, c3, c4, c5, c6, c7, c8, c9, c10, c11, c12, c13, c14, c15, c16, cf⟩ := hW.c
    clear hW e1
    go_enter Try.func60, Try.ntmps60
    go_wp2
    first | (refine bodyPost_end (results_none rfl _ _ _) rfl ?_) | (refine bodyPost_ret (results_none rfl _ _ _) rfl ?_)
    exact ⟨rfl, HW.out.turn ((((((((((((((HW.out.c).put 2 _)).put 3 _)).put 4 _)).put 5 _)).put 11 _)).put 12 _)).put 13 _) (fun g hg => ((heap_other hg).trans ((heap_other hg).trans ((heap_other hg).trans ((heap_other hg).trans ((heap_other hg).trans ((heap_other hg).trans (heap_other (w := w) (g := g) hg)))))))) ⟨HW.out.r.e, HW.out.r.sn, HW.out.r.sP, RdL.nothing _, PV.none _ _, IlV.nothing _, PV.none _ _, IlV.nothing _, PV.none _ _⟩, Dn.turn (fun g hg => ((heap_other hg).trans ((heap_other hg).trans ((heap_other hg).trans ((heap_other hg).trans ((heap_other hg).trans ((heap_other hg).trans (heap_other (w := w) (g := g) hg)))))))) ((((((((((((((Below.refl B w).setCell HW.out.bm _)).setCell HW.out.bm _)).setCell HW.out.bm _)).setCell HW.out.bm _)).setCell HW.out.bm _)).setCell HW.out.bm _)).setCell HW.out.bm _)⟩
  · have e1 : followM m T who = { m with role := 0, lead := who, granted := [], next := [], mtch := [] } := by unfold followM; rw [if_neg q, if_neg q]
    rw [e1]
    obtain ⟨c0, c1, c2, c3, c4, c5, c6, c7, c8, c9, c10, c11, c12, c13, c14, c15, c16, cf⟩ := hW.c
    clear hW e1
    go_enter Try.func60, Try.ntmps60
    go_wp2
    first | (refine bodyPost_end (results_none rfl _ _ _) rfl ?_) | (refine bodyPost_ret (results_none rfl _ _ _) rfl ?_)
    exact ⟨rfl, HW.out.turn ((((((((((HW.out.c).put 4 _)).put 5 _)).put 11 _)).put 12 _)).put 13 _) (fun g hg => ((heap_other hg).trans ((heap_other hg).trans ((heap_other hg).trans ((heap_other hg).trans (heap_other (w := w) (g := g) hg)))))) ⟨HW.out.r.e, HW.out.r.sn, HW.out.r.sP, RdL.nothing _, PV.none _ _, IlV.nothing _, PV.none _ _, IlV.nothing _, PV.none _ _⟩, Dn.turn (fun g hg => ((heap_other hg).trans ((heap_other hg).trans ((heap_other hg).trans ((heap_other hg).trans (heap_other (w := w) (g := g) hg)))))) ((((((((((Below.refl B w).setCell HW.out.bm _)).setCell HW.out.bm _)).setCell HW.out.bm _)).setCell HW.out.bm _)).setCell HW.out.bm _)⟩
end
section
open Go.RowKit
set_option linter.unusedVariables false


/-- The numbers of a member lie where they may. -/
structure WfM (m : Mb) : Prop where
  i1 : 1 ≤ m.id
  i2 : m.id ≤ m.n
  i3 : m.n ≤ 7
  t1 : 0 ≤ m.term
  t2 : m.term ≤ 1000000
  v1 : 0 ≤ m.vote
  v2 : m.vote ≤ 7
  r1 : 0 ≤ m.role
  r2 : m.role ≤ 3
  l1 : 0 ≤ m.lead
  l2 : m.lead ≤ 7
  b1 : 0 ≤ m.b
  b2 : m.b ≤ 1000000
  bt1 : 0 ≤ m.bt
  bt2 : m.bt ≤ 1000000
  es : Small m.es
  eT : ∀ i, i < m.es.length → 0 ≤ tOf m.es i ∧ tOf m.es i ≤ 1000000
  c1 : 0 ≤ m.commit
  c2 : m.commit ≤ 1000000
  sn : m.snap.length ≤ 1000
  g1 : m.role = 1 ∨ m.role = 2 → m.granted.length = m.n.toNat
  g2 : m.granted.length ≤ 7
  x1 : m.role = 3 → m.next.length = m.n.toNat ∧ m.mtch.length = m.n.toNat
  x2 : m.next.length ≤ 7
  m2 : m.mtch.length ≤ 7
  x3 : ∀ i, i < m.next.length → 1 ≤ m.next.getD i 0 ∧ m.next.getD i 0 ≤ 1000000
  m3 : ∀ i, i < m.mtch.length → 0 ≤ m.mtch.getD i 0 ∧ m.mtch.getD i 0 ≤ 1000000
  k1 : 0 ≤ m.clock
  k2 : m.clock ≤ 1000000
  w1 : 0 ≤ m.wait
  w2 : m.wait ≤ 1000000
set_option maxRecDepth 100000 in
set_option maxHeartbeats 800000 in
theorem bid_any {w : World} {B M : Nat} {s : Ad} {m : Mb} {v : Value} {ts : List Ms} (hW : Wk w B M s m v ts) (hb1 : 0 ≤ m.b) (hb2 : m.b ≤ 2000000) (hes : Small m.es) (kind term : Int) : Calls Try.prog 67 #[.pointer (some ⟨M, 0, none⟩), .int .i64 kind, .int .i64 term] w fun e w' => e = .returned (msA zAx { zMs with kind := kind, term := term, at_ := m.last, att := m.lastT }) ∧ Below w.heap.size w w' := by
  have hM := hW.lt
  have hl := hes.1
  have HCl : Hid (∀ w1, Below w.heap.size w w1 → Wc w1 M s m v) := fun w1 q => hW.c.below q
  have HLa : Hid (∀ wx, Calls Try.prog 49 #[.agg #[.int .i64 m.b, .int .i64 m.bt, .slice s.ea m.es.length s.ec]] wx fun e w' => e = .returned (.int .i64 m.last) ∧ Below wx.heap.size wx w') := fun wx => Last_any m.b m.bt s.ea m.es.length s.ec wx hb1 (by omega) (by omega)
  have HLT : Hid (∀ wx, Below w.heap.size w wx → Calls Try.prog 29 #[.agg #[.int .i64 m.b, .int .i64 m.bt, .slice s.ea m.es.length s.ec]] wx fun e w' => e = .returned (.int .i64 m.lastT) ∧ Below wx.heap.size wx w') := fun wx h => LastTerm_any _ m.b m.bt s.ea s.ec m.es wx hb1 (by omega) (by omega) (hW.r.e.below h)
  obtain ⟨c0, c1, c2, c3, c4, c5, c6, c7, c8, c9, c10, c11, c12, c13, c14, c15, c16, cf⟩ := hW.c
  clear hW hes
  generalize m.last = la at *
  generalize m.lastT = lt at *
  go_enter Try.func67, Try.ntmps67
  go_wp2
  have ne1 : M ≠ w.heap.size := by omega
  have ne2 : w.heap.size ≠ M := by omega
  have HX : Hid (∀ w2, Below (w.alloc (.cells #[.int .i64 0, .int .i64 0, .int .i64 0, .int .i64 0, .int .i64 0, .int .i64 0, .int .i64 0, .int .i64 0, .bool false, .slice none 0 0, .slice none 0 0] 79)).heap.size (w.alloc (.cells #[.int .i64 0, .int .i64 0, .int .i64 0, .int .i64 0, .int .i64 0, .int .i64 0, .int .i64 0, .int .i64 0, .bool false, .slice none 0 0, .slice none 0 0] 79)) w2 → Xc w2 w.heap.size zAx zMs ∧ Below w.heap.size w w2) := fun w2 q => ⟨(Cl11.new w _ _ _ _ _ _ _ _ _ _ _ 79).below q, b1 q⟩
  go_region_held3 (fun w' => w'.cell? ⟨M, 6, none⟩ = some (.int .i64 m.b) ∧ w'.cell? ⟨M, 7, none⟩ = some (.int .i64 m.bt) ∧ w'.cell? ⟨M, 8, none⟩ = some (.slice s.ea m.es.length s.ec)) (go_keep) (first
    | (go_at_call 29; have := H1; refine (HLT.out _ (HX.out _ H1.out).2).mono ?_; rintro e w2 ⟨rfl, HB⟩; have H2 : Hid (Below (w.alloc (.cells #[.int .i64 0, .int .i64 0, .int .i64 0, .int .i64 0, .int .i64 0, .int .i64 0, .int .i64 0, .int .i64 0, .bool false, .slice none 0 0, .slice none 0 0] 79)).heap.size (w.alloc (.cells #[.int .i64 0, .int .i64 0, .int .i64 0, .int .i64 0, .int .i64 0, .int .i64 0, .int .i64 0, .int .i64 0, .bool false, .slice none 0 0, .slice none 0 0] 79)) w2) := H1.out.trans (HB.mono H1.out.size); obtain ⟨e0, e1, e2, e3, e4, e5, e6, e7, e8, e9, e10, e11, e12, e13, e14, e15, e16, ef⟩ := (HCl.out w2 (HX.out _ H2.out).2); obtain ⟨y0, y1, y2, y3, y4, y5, y6, y7, y8, y9, y10, yf⟩ := (HX.out _ H2.out).1; clear HB)
    | (go_at_call 49; refine (HLa.out _).mono ?_; rintro e w1 ⟨rfl, HB⟩; have H1 : Hid (Below (w.alloc (.cells #[.int .i64 0, .int .i64 0, .int .i64 0, .int .i64 0, .int .i64 0, .int .i64 0, .int .i64 0, .int .i64 0, .bool false, .slice none 0 0, .slice none 0 0] 79)).heap.size (w.alloc (.cells #[.int .i64 0, .int .i64 0, .int .i64 0, .int .i64 0, .int .i64 0, .int .i64 0, .int .i64 0, .int .i64 0, .bool false, .slice none 0 0, .slice none 0 0] 79)) w1) := (Below.refl _ _).drew.trans HB; obtain ⟨d0, d1, d2, d3, d4, d5, d6, d7, d8, d9, d10, d11, d12, d13, d14, d15, d16, df⟩ := (HCl.out w1 (HX.out _ H1.out).2); clear HB))
  go_wp2
  obtain ⟨e0, e1, e2, e3, e4, e5, e6, e7, e8, e9, e10, ef⟩ := (HX.out _ H2.out).1.boxed (.int .i64 kind) (.int .i64 0) (.int .i64 0) (.int .i64 0) (.int .i64 term) (.int .i64 la) (.int .i64 lt) (.int .i64 0) (.bool false) (.slice none 0 0) (.slice none 0 0)
  exact bodyPost_ret (v := .agg #[.int .i64 kind, .int .i64 0, .int .i64 0, .int .i64 0, .int .i64 term, .int .i64 la, .int .i64 lt, .int .i64 0, .bool false, .slice none 0 0, .slice none 0 0]) (by simp [results, Try.results67, go_sem, e0, e1, e2, e3, e4, e5, e6, e7, e8, e9, e10]) rfl ⟨rfl, Cl11.under (HX.out _ H2.out).2 (Nat.le_refl _)⟩
end
section
open Go.RowKit
set_option linter.unusedVariables false


theorem Reached_is (l : List Int) (a : Option Addr) (c : Nat) (w : World) (hl : IlV w a c l) (h3 : l.length ≤ 1000000) : Calls Try.prog 83 #[.slice a l.length c] w fun e w' => e = .returned (.int .i64 (reachM l)) ∧ InR (reachM l) ∧ Below w.heap.size w w' := (Reached_any l a c w hl h3).mono fun e w' ⟨x, h1, h2, h4, h5⟩ => by
  have := h2.out.one (reach_rch l)
  subst this
  exact ⟨h1, h4, h5⟩
theorem Wk.commit {w w1 : World} {B M : Nat} {s : Ad} {m : Mb} {v : Value} {ts : List Ms} (h : Wk w B M s m v ts) (hb : Below w.heap.size w w1) (c : Int) : Wk (w1.setCell ⟨M, 9, none⟩ (.int .i64 c)) B M s { m with commit := c } v ts ∧ Dn B M v v w (w1.setCell ⟨M, 9, none⟩ (.int .i64 c)) :=
  ⟨(h.below hb).turn ((h.below hb).c.put 9 _) (fun g hg => heap_other hg) ⟨(h.below hb).r.e, (h.below hb).r.sn, (h.below hb).r.sP, (h.below hb).r.g, (h.below hb).r.gP, (h.below hb).r.x, (h.below hb).r.xP, (h.below hb).r.t, (h.below hb).r.tP⟩, (Dn.below hb h.le).trans (Dn.turn (fun g hg => heap_other hg) ((Below.refl _ _).setCell h.bm _))⟩
theorem Wk.still {w w1 : World} {B M : Nat} {s : Ad} {m : Mb} {v : Value} {ts : List Ms} (h : Wk w B M s m v ts) (hb : Below w.heap.size w w1) : Wk w1 B M s m v ts ∧ Dn B M v v w w1 := ⟨h.below hb, Dn.below hb h.le⟩
set_option maxRecDepth 100000 in
set_option maxHeartbeats 800000 in
theorem look_any {w : World} {B M : Nat} {s : Ad} {m : Mb} {v : Value} {ts : List Ms} (hW : Wk w B M s m v ts) (hb1 : 0 ≤ m.b) (hb2 : m.b ≤ 2000000) (hes : m.es.length ≤ 1001) (hm : m.mtch.length ≤ 100) : Calls Try.prog 70 #[.pointer (some ⟨M, 0, none⟩)] w fun e w' => e = .returned (.tuple #[]) ∧ Wk w' B M s (lookM m) v ts ∧ Dn B M v v w w' := by
  have hM := hW.lt
  have HCl : Hid (∀ w1, Below w.heap.size w w1 → Wc w1 M s m v) := fun w1 q => hW.c.below q
  have HRe : Hid (Calls Try.prog 83 #[.slice s.ma m.mtch.length s.mc] w fun e w' => e = .returned (.int .i64 (reachM m.mtch)) ∧ InR (reachM m.mtch) ∧ Below w.heap.size w w') := Reached_is _ _ _ _ hW.r.t (by omega)
  have HTe : Hid (∀ wx, InR (reachM m.mtch) → Below w.heap.size w wx → Calls Try.prog 54 #[.agg #[.int .i64 m.b, .int .i64 m.bt, .slice s.ea m.es.length s.ec], .int .i64 (reachM m.mtch)] wx fun e w' => e = .returned (.tuple #[.int .i64 (termM m.b m.bt m.es (reachM m.mtch)).1, .bool (termM m.b m.bt m.es (reachM m.mtch)).2]) ∧ Below wx.heap.size wx w') := fun wx hq h => Term_any _ m.b m.bt s.ea s.ec m.es _ wx hb1 (by omega) (by omega) hq (hW.r.e.below h)
  have HY : Hid (∀ w1, Below w.heap.size w w1 → (termM m.b m.bt m.es (reachM m.mtch)).2 = true ∧ (termM m.b m.bt m.es (reachM m.mtch)).1 = m.term ∧ m.commit < reachM m.mtch → Wk (w1.setCell ⟨M, 9, none⟩ (.int .i64 (reachM m.mtch))) B M s (lookM m) v ts ∧ Dn B M v v w (w1.setCell ⟨M, 9, none⟩ (.int .i64 (reachM m.mtch)))) := fun w1 hb q => by
    rw [show lookM m = { m with commit := reachM m.mtch } by unfold lookM commitM; rw [if_pos q]]
    exact hW.commit hb _
  have HN : Hid (∀ w1, Below w.heap.size w w1 → ¬ ((termM m.b m.bt m.es (reachM m.mtch)).2 = true ∧ (termM m.b m.bt m.es (reachM m.mtch)).1 = m.term ∧ m.commit < reachM m.mtch) → Wk w1 B M s (lookM m) v ts ∧ Dn B M v v w w1) := fun w1 hb q => by
    rw [show lookM m = m by unfold lookM commitM; rw [if_neg q]]
    exact hW.still hb
  obtain ⟨c0, c1, c2, c3, c4, c5, c6, c7, c8, c9, c10, c11, c12, c13, c14, c15, c16, cf⟩ := hW.c
  clear hW
  generalize lookM m = m' at *
  generalize reachM m.mtch = r at *
  generalize (termM m.b m.bt m.es r).1 = t1 at *
  generalize (termM m.b m.bt m.es r).2 = t2 at *
  cases t2 with
  | false =>
    have HF : Hid (∀ w1, Below w.heap.size w w1 → Wk w1 B M s m' v ts ∧ Dn B M v v w w1) := fun w1 hb => HN.out w1 hb (fun q => by cases q.1)
    clear HY HN
    go_enter Try.func70, Try.ntmps70
    go_wp2_with (first
      | (go_at_call 54; have := H1; refine (HTe.out _ H1.out.1 H1.out.2).mono ?_; rintro e w2 ⟨rfl, HB⟩; have H2 : Hid (Below w.heap.size w w2) := H1.out.2.trans (HB.mono H1.out.2.size); obtain ⟨e0, e1, e2, e3, e4, e5, e6, e7, e8, e9, e10, e11, e12, e13, e14, e15, e16, ef⟩ := (HCl.out w2 H2.out); clear HB)
      | (go_at_call 83; refine HRe.out.mono ?_; rintro e w1 ⟨rfl, HI, HB⟩; have H1 : Hid (InR r ∧ Below w.heap.size w w1) := ⟨HI, HB⟩; obtain ⟨d0, d1, d2, d3, d4, d5, d6, d7, d8, d9, d10, d11, d12, d13, d14, d15, d16, df⟩ := (HCl.out w1 HB); clear HI HB))
    first | (refine bodyPost_end (results_none rfl _ _ _) rfl ?_) | (refine bodyPost_ret (results_none rfl _ _ _) rfl ?_)
    exact ⟨rfl, HF.out _ H2.out⟩
  | true =>
    by_cases q1 : t1 = m.term
    · have q1b : (t1 == m.term) = true := by simp [q1]
      by_cases q2 : m.commit < r
      · have HF : Hid (∀ w1, Below w.heap.size w w1 → Wk (w1.setCell ⟨M, 9, none⟩ (.int .i64 r)) B M s m' v ts ∧ Dn B M v v w (w1.setCell ⟨M, 9, none⟩ (.int .i64 r))) := fun w1 hb => HY.out w1 hb ⟨rfl, q1, q2⟩
        clear HY HN q1
        go_enter Try.func70, Try.ntmps70
        go_wp2_with (first
          | (go_at_call 54; have := H1; refine (HTe.out _ H1.out.1 H1.out.2).mono ?_; rintro e w2 ⟨rfl, HB⟩; have H2 : Hid (Below w.heap.size w w2) := H1.out.2.trans (HB.mono H1.out.2.size); obtain ⟨e0, e1, e2, e3, e4, e5, e6, e7, e8, e9, e10, e11, e12, e13, e14, e15, e16, ef⟩ := (HCl.out w2 H2.out); clear HB)
          | (go_at_call 83; refine HRe.out.mono ?_; rintro e w1 ⟨rfl, HI, HB⟩; have H1 : Hid (InR r ∧ Below w.heap.size w w1) := ⟨HI, HB⟩; obtain ⟨d0, d1, d2, d3, d4, d5, d6, d7, d8, d9, d10, d11, d12, d13, d14, d15, d16, df⟩ := (HCl.out w1 HB); clear HI HB))
        first | (refine bodyPost_end (results_none rfl _ _ _) rfl ?_) | (refine bodyPost_ret (results_none rfl _ _ _) rfl ?_)
        exact ⟨rfl, HF.out _ H2.out⟩
      · have HF : Hid (∀ w1, Below w.heap.size w w1 → Wk w1 B M s m' v ts ∧ Dn B M v v w w1) := fun w1 hb => HN.out w1 hb (fun q => q2 q.2.2)
        have q2d : decide (m.commit < r) = false := decide_eq_false q2
        clear HY HN q1
        go_enter Try.func70, Try.ntmps70
        go_wp2_with (first
          | (go_at_call 54; have := H1; refine (HTe.out _ H1.out.1 H1.out.2).mono ?_; rintro e w2 ⟨rfl, HB⟩; have H2 : Hid (Below w.heap.size w w2) := H1.out.2.trans (HB.mono H1.out.2.size); obtain ⟨e0, e1, e2, e3, e4, e5, e6, e7, e8, e9, e10, e11, e12, e13, e14, e15, e16, ef⟩ := (HCl.out w2 H2.out); clear HB)
          | (go_at_call 83; refine HRe.out.mono ?_; rintro e w1 ⟨rfl, HI, HB⟩; have H1 : Hid (InR r ∧ Below w.heap.size w w1) := ⟨HI, HB⟩; obtain ⟨d0, d1, d2, d3, d4, d5, d6, d7, d8, d9, d10, d11, d12, d13, d14, d15, d16, df⟩ := (HCl.out w1 HB); clear HI HB))
        first | (refine bodyPost_end (results_none rfl _ _ _) rfl ?_) | (refine bodyPost_ret (results_none rfl _ _ _) rfl ?_)
        exact ⟨rfl, HF.out _ H2.out⟩
    · have q1b : (t1 == m.term) = false := beq_eq_false_iff_ne.2 q1
      have HF : Hid (∀ w1, Below w.heap.size w w1 → Wk w1 B M s m' v ts ∧ Dn B M v v w w1) := fun w1 hb => HN.out w1 hb (fun q => q1 q.2.1)
      clear HY HN q1
      go_enter Try.func70, Try.ntmps70
      go_wp2_with (first
        | (go_at_call 54; have := H1; refine (HTe.out _ H1.out.1 H1.out.2).mono ?_; rintro e w2 ⟨rfl, HB⟩; have H2 : Hid (Below w.heap.size w w2) := H1.out.2.trans (HB.mono H1.out.2.size); obtain ⟨e0, e1, e2, e3, e4, e5, e6, e7, e8, e9, e10, e11, e12, e13, e14, e15, e16, ef⟩ := (HCl.out w2 H2.out); clear HB)
        | (go_at_call 83; refine HRe.out.mono ?_; rintro e w1 ⟨rfl, HI, HB⟩; have H1 : Hid (InR r ∧ Below w.heap.size w w1) := ⟨HI, HB⟩; obtain ⟨d0, d1, d2, d3, d4, d5, d6, d7, d8, d9, d10, d11, d12, d13, d14, d15, d16, df⟩ := (HCl.out w1 HB); clear HI HB))
      first | (refine bodyPost_end (results_none rfl _ _ _) rfl ?_) | (refine bodyPost_ret (results_none rfl _ _ _) rfl ?_)
      exact ⟨rfl, HF.out _ H2.out⟩
end
end Go.Proofs.Ytfmfphfckaiejaa
