/-
  The program's lead: its contract.
-/
import Derived.Test.YtfmfphfckaiejaaJas
import Derived.BigRegion
namespace Go.Proofs.Ytfmfphfckaiejaa
section
open Go.RowKit
set_option linter.unusedVariables false


theorem rep_atR {α : Type} {n k : Nat} {v d : α} (h : k < n) : (List.replicate n v).getD k d = v := by
  rw [List.getD_eq_getElem?_getD, List.getElem?_replicate, if_pos h]; rfl
/-- Next, so far. -/
def nxL (n i : Nat) (x : Int) : List Int := List.replicate i x ++ List.replicate (n - i) 0
theorem nxL_len {n i : Nat} {x : Int} (h : i ≤ n) : (nxL n i x).length = n := by unfold nxL; rw [List.length_append, List.length_replicate, List.length_replicate]; omega
theorem nxL_set {n i : Nat} {x : Int} (h : i < n) : (nxL n i x).set i x = nxL n (i + 1) x := by
  unfold nxL
  rw [List.set_append_right _ _ (by simp), List.length_replicate, Nat.sub_self, show n - i = (n - (i + 1)) + 1 by omega, List.replicate_succ, List.set_cons_zero, List.replicate_succ', List.append_assoc]
  rfl
theorem nxL_end (n : Nat) (x : Int) : nxL n n x = List.replicate n x := by unfold nxL; simp
theorem nxL_start (n : Nat) (x : Int) : nxL n 0 x = List.replicate n 0 := by unfold nxL; simp
theorem nxL_at {n i : Nat} {x : Int} (h : i ≤ n) {j : Nat} (hj : j < n) : (nxL n i x).getD j 0 = x ∨ (nxL n i x).getD j 0 = 0 := by
  unfold nxL
  by_cases q : j < i
  · left; rw [getD_leftA (by simpa using q), rep_atR q]
  · right
    obtain ⟨k, rfl⟩ : ∃ k, j = (List.replicate i x).length + k := ⟨j - i, by simp; omega⟩
    rw [getD_rightA, rep_atR (by simp at hj ⊢; omega)]
/-- A member that leads, Next being filled. -/
def leadN (m : Mb) (n i : Nat) (x : Int) : Mb := { m with next := nxL n i x, mtch := List.replicate n 0 }
def Ad.rows (s : Ad) (G1 G2 n : Nat) : Ad := { s with xa := some ⟨G1, 0, none⟩, xc := n, ma := some ⟨G2, 0, none⟩, mc := n }
/-- Where it stands then. -/
structure Ld (w wr : World) (B M G1 G2 : Nat) (s : Ad) (m : Mb) (v : Value) (n i : Nat) (x : Int) : Prop where
  k : ∀ g, g < w.heap.size → g ≠ M → wr.heap[g]? = w.heap[g]?
  b : Below B w wr
  c : Wc wr M (s.rows G1 G2 n) (leadN m n i x) v
  x : Nr wr G1 ((nxL n i x).map (.int .i64))
  t : Nr wr G2 ((List.replicate n (0 : Int)).map (.int .i64))
  g1 : w.heap.size ≤ G1
  g2 : w.heap.size ≤ G2
  ne : G1 ≠ G2
section
variable {w wr wr' : World} {B M G1 G2 : Nat} {s : Ad} {m : Mb} {v : Value} {ts : List Ms} {n i : Nat} {x : Int}
theorem Ld.below (h : Ld w wr B M G1 G2 s m v n i x) (hB : B ≤ w.heap.size) (hb : Below wr.heap.size wr wr') : Ld w wr' B M G1 G2 s m v n i x :=
  ⟨fun g hg hne => (hb.block g (Nat.lt_of_lt_of_le hg h.b.size)).trans (h.k g hg hne), h.b.trans (hb.mono (Nat.le_trans hB h.b.size)), h.c.below hb, h.x.below hb, h.t.below hb, h.g1, h.g2, h.ne⟩
theorem Ld.step (h : Ld w wr B M G1 G2 s m v n i x) (hM : M < w.heap.size) (hB : B ≤ w.heap.size) (hi : i < n) : Ld w (wr.setCell ⟨G1, i, none⟩ (.int .i64 x)) B M G1 G2 s m v n (i + 1) x := by
  have h1 := h.g1
  refine ⟨fun g hg hne => (heap_other (by omega)).trans (h.k g hg hne), h.b.setCell (p := ⟨G1, i, none⟩) (Nat.le_trans hB h1) _, ?_, ?_, h.t.kept (heap_other h.ne.symm) (Nat.le_of_eq (size_set _ _ _).symm), h.g1, h.g2, h.ne⟩
  · have c := h.c.kept (w' := wr.setCell ⟨G1, i, none⟩ (.int .i64 x)) (heap_other (by omega))
    have e1 : (leadN m n i x).next.length = n := nxL_len (by omega)
    have e2 : (leadN m n (i + 1) x).next.length = n := nxL_len (by omega)
    unfold Wc at c ⊢
    rw [e1] at c
    rw [e2]
    exact c
  · have := h.x.set i (.int .i64 x)
    rw [show ((nxL n i x).map (Value.int .i64)).set i (.int .i64 x) = (nxL n (i + 1) x).map (.int .i64) by rw [← List.map_set, nxL_set hi]] at this
    exact this
theorem Ld.wk (h : Ld w wr B M G1 G2 s m v n i x) (hi : i ≤ n) (hW : Wk w B M s m v ts) (hl : InR x) : Wk wr B M (s.rows G1 G2 n) (leadN m n i x) v ts ∧ Dn B M v v w wr := by
  have hr := hW.rk h.k
  refine hW.gen h.k h.b h.c ⟨hr.e, hr.sn, hr.sP, hr.g, hr.gP, h.x.ints (nxL_len hi).symm fun j hj => ?_, fun _ y hy => by cases hy; exact pw_new hW h.g1, h.t.ints (by show n = (List.replicate n (0 : Int)).length; simp) fun j hj => ?_, fun _ y hy => by cases hy; exact pw_new hW h.g2⟩
  · rw [nxL_len hi] at hj
    rcases nxL_at (x := x) hi hj with q | q
    · rw [q]; exact hl
    · rw [q]; exact inR_zero
  · have hj : j < n := by simpa using hj
    rw [rep_atR hj]; exact inR_zero
/-- Both rows are made. -/
theorem Ld.start (hW : Wk w B M s m v ts) (hn : n ≤ 100) (hg : (G1 = w.heap.size ∧ G2 = w.heap.size + 1) ∨ (G1 = w.heap.size + 1 ∧ G2 = w.heap.size)) : Ld w ((((w.setCell ⟨M, 12, none⟩ (.slice (some ⟨G1, 0, none⟩) n n)).setCell ⟨M, 13, none⟩ (.slice (some ⟨G2, 0, none⟩) n n)).alloc (.cells (List.replicate n (.int .i64 0)).toArray 3)).alloc (.cells (List.replicate n (.int .i64 0)).toArray 3)).drew B M G1 G2 s m v n 0 x := by
  have hM := hW.lt
  have e0 : ((nxL n 0 x).map (Value.int .i64)) = List.replicate n (.int .i64 0) := by rw [nxL_start, List.map_replicate]
  have e1 : ((List.replicate n (0 : Int)).map (Value.int .i64)) = List.replicate n (.int .i64 0) := by rw [List.map_replicate]
  obtain ⟨Y, hY⟩ : ∃ Y, (w.setCell ⟨M, 12, none⟩ (.slice (some ⟨G1, 0, none⟩) n n)).setCell ⟨M, 13, none⟩ (.slice (some ⟨G2, 0, none⟩) n n) = Y := ⟨_, rfl⟩
  have hs : Y.heap.size = w.heap.size := by rw [← hY, size_set, size_set]
  have hYo : ∀ g, g ≠ M → Y.heap[g]? = w.heap[g]? := fun g hne => by rw [← hY]; exact (heap_other hne).trans (heap_other hne)
  have hYb : Below B w Y := by rw [← hY]; exact ((Below.refl _ _).setCell (p := ⟨M, 12, none⟩) hW.bm _).setCell (p := ⟨M, 13, none⟩) hW.bm _
  have hYc := (hW.c.put 12 (.slice (some ⟨G1, 0, none⟩) n n)).put 13 (.slice (some ⟨G2, 0, none⟩) n n)
  rw [hY] at hYc ⊢
  have hb2 : Below Y.heap.size Y ((Y.alloc (.cells (List.replicate n (.int .i64 0)).toArray 3)).alloc (.cells (List.replicate n (.int .i64 0)).toArray 3)).drew := (below2 Y _ _).drew
  have r1 : ((Y.alloc (.cells (List.replicate n (.int .i64 0)).toArray 3)).alloc (.cells (List.replicate n (.int .i64 0)).toArray 3)).drew.heap[w.heap.size]? = some (.cells (List.replicate n (.int .i64 0)).toArray 3 (0, 0)) := by
    have q := heap_alloc_new Y (.cells (List.replicate n (.int .i64 0)).toArray 3)
    rw [hs] at q
    exact (Below.heap_alloc _ _ _ (by rw [size_alloc]; omega)).trans q
  have r2 : ((Y.alloc (.cells (List.replicate n (.int .i64 0)).toArray 3)).alloc (.cells (List.replicate n (.int .i64 0)).toArray 3)).drew.heap[w.heap.size + 1]? = some (.cells (List.replicate n (.int .i64 0)).toArray 3 (0, 0)) := by
    have q := heap_alloc_new (Y.alloc (.cells (List.replicate n (.int .i64 0)).toArray 3)) (.cells (List.replicate n (.int .i64 0)).toArray 3)
    rw [size_alloc, hs] at q
    exact q
  have n1 := Nr.of_heap r1 (by simp; omega)
  have n2 := Nr.of_heap r2 (by simp; omega)
  refine ⟨fun g hg hne => (hb2.block g (by omega)).trans (hYo g hne), hYb.trans (hb2.mono (by rw [hs]; exact hW.le)), ?_, ?_, ?_, ?_, ?_, ?_⟩
  · have c := hYc.below hb2
    have e3 : (leadN m n 0 x).next.length = n := nxL_len (by omega)
    have e4 : (leadN m n 0 x).mtch.length = n := by show (List.replicate n (0 : Int)).length = n; simp
    unfold Wc
    rw [e3, e4]
    exact c
  · rw [e0]
    rcases hg with ⟨rfl, rfl⟩ | ⟨rfl, rfl⟩
    · exact n1
    · exact n2
  · rw [e1]
    rcases hg with ⟨rfl, rfl⟩ | ⟨rfl, rfl⟩
    · exact n2
    · exact n1
  · omega
  · omega
  · omega
end
/-- To lead, ahead of its rows. -/
def lead1M (m : Mb) : Mb := { followM m m.term m.id with role := 3, clock := 0 }
theorem lead_is (m : Mb) (n : Nat) (h : m.n = n) : leadN (lead1M m) n n (m.last + 1) = lead0M m := by unfold leadN lead1M lead0M; rw [nxL_end, h]; rfl
set_option maxRecDepth 100000 in
set_option maxHeartbeats 1600000 in
theorem lead_any {w : World} {B M : Nat} {s : Ad} {m : Mb} {v : Value} {ts : List Ms} (hW : Wk w B M s m v ts) (n : Nat) (hn : m.n = n) (hn2 : n ≤ 100) (i1 : 1 ≤ m.id) (i2 : m.id ≤ n) (b1 : 0 ≤ m.b) (b2 : m.b ≤ 1500000) (es : Small m.es) (el : m.es.length ≤ 900) (ht : InR m.term) (sn : m.snap.length ≤ 1000) (hl : ts.length ≤ 700) : Calls Try.prog 82 #[.pointer (some ⟨M, 0, none⟩)] w fun e w' => e = .returned (.tuple #[]) ∧ ∃ s' v', Wk w' B M s' (leadM m).1 v' (ts ++ (leadM m).2) ∧ Dn B M v v' w w' := by
  have hM := hW.lt
  have HFo : Hid (∀ wx, Below w.heap.size w wx → Calls Try.prog 60 #[.pointer (some ⟨M, 0, none⟩), .int .i64 m.term, .int .i64 m.id] wx fun e w' => e = .returned (.tuple #[]) ∧ Wk w' B M s.cleared (followM m m.term m.id) v ts ∧ Dn B M v v w w') := fun wx h => (follow_any (hW.below h) m.term m.id).mono fun e w' ⟨q1, q2, q3⟩ => ⟨q1, q2, (Dn.below h hW.le).trans q3⟩
  have HEq : Hid ((followM m m.term m.id).term = m.term ∧ (followM m m.term m.id).id = m.id) := ⟨by show (if m.term < m.term then m.term else m.term) = _; split <;> rfl, rfl⟩
  have HR : Hid (Wk w B M s m v ts) := hW
  obtain ⟨c0, c1, c2, c3, c4, c5, c6, c7, c8, c9, c10, c11, c12, c13, c14, c15, c16, cf⟩ := hW.c
  clear hW
  go_enter Try.func82, Try.ntmps82
  go_wp2
  go_region_held3 (fun w' => w'.cell? ⟨M, 2, none⟩ = some (.int .i64 m.term) ∧ w'.cell? ⟨M, 0, none⟩ = some (.int .i64 m.id)) (go_keep) (first
    | (go_at_call 60; refine (HFo.out _ (Below.refl _ _).drew).mono ?_; rintro e w1 ⟨rfl, q1, q2⟩; have H1 : Hid (Wk w1 B M s.cleared (followM m m.term m.id) v ts ∧ Dn B M v v w w1) := ⟨q1, q2⟩; have hM1 := q1.lt; obtain ⟨d0, d1, d2, d3, d4, d5, d6, d7, d8, d9, d10, d11, d12, d13, d14, d15, d16, df⟩ := q1.c; rw [HEq.out.1] at d2; rw [HEq.out.2] at d0; clear q1 q2))
  go_wp2
  have HK := H1.out.1.turn (w' := (w1.setCell ⟨M, 4, none⟩ (.int .i64 3)).setCell ⟨M, 14, none⟩ (.int .i64 0)) (s' := s.cleared) (m' := lead1M m) ((((H1.out.1.c).put 4 _)).put 14 _) (fun g hg => ((heap_other hg).trans (heap_other (w := w1) (g := g) hg))) ⟨H1.out.1.r.e, H1.out.1.r.sn, H1.out.1.r.sP, H1.out.1.r.g, H1.out.1.r.gP, H1.out.1.r.x, H1.out.1.r.xP, H1.out.1.r.t, H1.out.1.r.tP⟩
  have HDn : Dn B M v v w ((w1.setCell ⟨M, 4, none⟩ (.int .i64 3)).setCell ⟨M, 14, none⟩ (.int .i64 0)) := H1.out.2.trans (Dn.turn (fun g hg => ((heap_other hg).trans (heap_other (w := w1) (g := g) hg))) ((((Below.refl B w1).setCell HR.out.bm _)).setCell HR.out.bm _))
  obtain ⟨W1, hW1⟩ : ∃ W1, (w1.setCell ⟨M, 4, none⟩ (.int .i64 3)).setCell ⟨M, 14, none⟩ (.int .i64 0) = W1 := ⟨_, rfl⟩
  rw [hW1] at HK HDn ⊢
  have HK1 : Hid (Wk W1 B M s.cleared (lead1M m) v ts ∧ Dn B M v v w W1) := ⟨HK, HDn⟩
  clear HK HDn hW1 c0 c1 c2 c3 c4 c5 c6 c7 c8 c9 c10 c11 c12 c13 c14 c15 c16 cf d0 d1 d2 d3 d4 d5 d6 d7 d8 d9 d10 d11 d12 d13 d14 d15 d16 df H1
  have hM1 := HK1.out.1.lt
  have hmk : ∀ w', (Instr.makeSlice 29 (.int .i64 (n : Int)) (.int .i64 (n : Int))).run Try.prog w' = .ok (.slice (some ⟨w'.heap.size, 0, none⟩) n n) (w'.alloc (.cells (List.replicate n (.int .i64 0)).toArray 3)) := fun w' => make_ints w' n hn2 .i64 .i64
  have nE1 : M ≠ W1.heap.size := by omega
  have nE2 : W1.heap.size ≠ M := by omega
  have nE3 : M ≠ W1.heap.size + 1 := by omega
  have nE4 : W1.heap.size + 1 ≠ M := by omega
  obtain ⟨c0, c1, c2, c3, c4, c5, c6, c7, c8, c9, c10, c11, c12, c13, c14, c15, c16, cf⟩ := HK1.out.1.c
  have hc1 : W1.cell? ⟨M, 1, none⟩ = some (.int .i64 (n : Int)) := by rw [← hn]; exact c1
  clear c1
  obtain ⟨rp, hrp⟩ : ∃ rp, (List.replicate n (Value.int .i64 0)).toArray = rp := ⟨_, rfl⟩
  rw [hrp] at hmk
  have HLA : Hid (Ld W1 ((((W1.setCell ⟨M, 12, none⟩ (.slice (some ⟨W1.heap.size, 0, none⟩) n n)).setCell ⟨M, 13, none⟩ (.slice (some ⟨W1.heap.size + 1, 0, none⟩) n n)).alloc (.cells rp 3)).alloc (.cells rp 3)).drew B M W1.heap.size (W1.heap.size + 1) s.cleared (lead1M m) v n 0 (m.last + 1)) := by rw [← hrp]; exact Ld.start HK1.out.1 hn2 (.inl ⟨rfl, rfl⟩)
  have HLB : Hid (Ld W1 ((((W1.setCell ⟨M, 12, none⟩ (.slice (some ⟨W1.heap.size + 1, 0, none⟩) n n)).setCell ⟨M, 13, none⟩ (.slice (some ⟨W1.heap.size, 0, none⟩) n n)).alloc (.cells rp 3)).alloc (.cells rp 3)).drew B M (W1.heap.size + 1) W1.heap.size s.cleared (lead1M m) v n 0 (m.last + 1)) := by rw [← hrp]; exact Ld.start HK1.out.1 hn2 (.inr ⟨rfl, rfl⟩)
  clear hrp
  go_region
  all_goals (
    first
      | (obtain ⟨Wr, hWr⟩ : ∃ Wr, ((((W1.setCell ⟨M, 12, none⟩ (.slice (some ⟨W1.heap.size, 0, none⟩) n n)).setCell ⟨M, 13, none⟩ (.slice (some ⟨W1.heap.size + 1, 0, none⟩) n n)).alloc (.cells rp 3)).alloc (.cells rp 3)).drew = Wr := ⟨_, rfl⟩
         have HL0 := HLA.out
         rw [hWr] at HL0 ⊢
         have HL : Hid (∃ G1 G2, Ld W1 Wr B M G1 G2 s.cleared (lead1M m) v n 0 (m.last + 1)) := ⟨_, _, HL0⟩
         clear HL0 hWr)
      | (obtain ⟨Wr, hWr⟩ : ∃ Wr, ((((W1.setCell ⟨M, 12, none⟩ (.slice (some ⟨W1.heap.size + 1, 0, none⟩) n n)).setCell ⟨M, 13, none⟩ (.slice (some ⟨W1.heap.size, 0, none⟩) n n)).alloc (.cells rp 3)).alloc (.cells rp 3)).drew = Wr := ⟨_, rfl⟩
         have HL0 := HLB.out
         rw [hWr] at HL0 ⊢
         have HL : Hid (∃ G1 G2, Ld W1 Wr B M G1 G2 s.cleared (lead1M m) v n 0 (m.last + 1)) := ⟨_, _, HL0⟩
         clear HL0 hWr)
    clear HLA HLB hmk c0 c2 c3 c4 c5 c6 c7 c8 c9 c10 c11 c12 c13 c14 c15 c16 cf hc1 nE1 nE2 nE3 nE4
    obtain ⟨G1, G2, HL1⟩ := HL.out
    have HG : Hid (W1.heap.size ≤ G1 ∧ G1 ≠ M ∧ B ≤ W1.heap.size) := ⟨HL1.g1, by have := HL1.g1; omega, HK1.out.1.le⟩
    have HL2 : Hid (Ld W1 Wr B M G1 G2 s.cleared (lead1M m) v n 0 (m.last + 1)) := HL1
    have y12 : Wr.cell? ⟨M, 12, none⟩ = some (.slice (some ⟨G1, 0, none⟩) n n) := by have := HL1.c.c12; rw [show (leadN (lead1M m) n 0 (m.last + 1)).next.length = n from nxL_len (Nat.zero_le _)] at this; exact this
    clear HL HL1
    have HLa : Hid (∀ wx, Calls Try.prog 49 #[.agg #[.int .i64 m.b, .int .i64 m.bt, .slice s.ea m.es.length s.ec]] wx fun e w' => e = .returned (.int .i64 m.last) ∧ Below wx.heap.size wx w') := fun wx => Last_any m.b m.bt s.ea m.es.length s.ec wx b1 (by omega) (by omega)
    have HIn : Hid (InR (m.last + 1)) := by show InR (m.b + m.es.length + 1); exact ⟨by omega, by omega⟩
    have hla1 : 0 ≤ m.last := by show 0 ≤ m.b + m.es.length; omega
    have hla2 : m.last ≤ 1999999 := by show m.b + m.es.length ≤ _; omega
    have HPu : Hid (∀ wx s', Wk wx B M s' (lead0M m) v ts → Calls Try.prog 48 #[.pointer (some ⟨M, 0, none⟩), .slice none 0 0] wx fun e w' => e = .returned (.tuple #[]) ∧ ∃ s' v', Wk w' B M s' (leadM m).1 v' (ts ++ (leadM m).2) ∧ Dn B M v v' wx w') := fun wx s' q => putBehind_any q n ⟨hn, hn2, i1, i2, by show (List.replicate m.n.toNat (m.last + 1)).length = n; simp; omega, by show (List.replicate m.n.toNat (0 : Int)).length = n; simp; omega, b1, b2, es, el, by show InR (if m.term < m.term then m.term else m.term); split <;> exact ht, sn, fun i hi => by show (List.replicate m.n.toNat (m.last + 1)).getD i 0 ≤ _; rw [rep_atR (by omega)]; omega⟩ none 0 [] (ReadsV.nil _) (by decide) hl
    have HLe : Hid (leadN (lead1M m) n n (m.last + 1) = lead0M m) := lead_is m n hn
    generalize m.last = la at *
    have hwr : IntKind.i64.wrap (la + 1) = la + 1 := by rw [IntKind.wrap_i64]; omega
    go_wp2
    go_loopw [49] (fun y wr => ∃ i : Nat, i ≤ n ∧ y = .int .i64 i ∧ Hid (Ld W1 wr B M G1 G2 s.cleared (lead1M m) v n i (la + 1))) (fun y _ => n - (intOf y).toNat)
    case atStart => exact ⟨0, Nat.zero_le _, rfl, HL2.out⟩
    case round =>
      obtain ⟨i, hi, rfl, HR2⟩ := hrel
      by_cases hlt : i < n
      · have hi1 : ((i : Nat) : Int) < (n : Nat) := by omega
        have hi2 : (0 : Int) ≤ (i : Nat) := by omega
        have z6 : wr.cell? ⟨M, 6, none⟩ = some (.int .i64 m.b) := HR2.out.c.c6
        have z7 : wr.cell? ⟨M, 7, none⟩ = some (.int .i64 m.bt) := HR2.out.c.c7
        have z8 : wr.cell? ⟨M, 8, none⟩ = some (.slice s.ea m.es.length s.ec) := HR2.out.c.c8
        have z12 : wr.cell? ⟨M, 12, none⟩ = some (.slice (some ⟨G1, 0, none⟩) n n) := by have := HR2.out.c.c12; rw [show (leadN (lead1M m) n i (la + 1)).next.length = n from nxL_len hi] at this; exact this
        have hMr : M < wr.heap.size := HR2.out.c.lt
        have hGM : G1 ≠ M := HG.out.2.1
        have hMG : M ≠ G1 := HG.out.2.1.symm
        have HSt : Hid (∀ w2, Below wr.heap.size wr w2 → (w2.cell? ⟨M, 6, none⟩ = some (.int .i64 m.b) ∧ w2.cell? ⟨M, 7, none⟩ = some (.int .i64 m.bt) ∧ w2.cell? ⟨M, 8, none⟩ = some (.slice s.ea m.es.length s.ec) ∧ w2.cell? ⟨M, 12, none⟩ = some (.slice (some ⟨G1, 0, none⟩) n n) ∧ (∃ u, w2.cell? ⟨G1, i, none⟩ = some u) ∧ (∀ j, w2.frozen? ⟨G1, j, none⟩ = false) ∧ G1 < w2.heap.size ∧ M < w2.heap.size) ∧ Ld W1 (w2.setCell ⟨G1, i, none⟩ (.int .i64 (la + 1))) B M G1 G2 s.cleared (lead1M m) v n (i + 1) (la + 1)) := fun w2 q => by
          have h2 := HR2.out.below HG.out.2.2 q
          have hl2 : i < ((nxL n i (la + 1)).map (Value.int .i64)).length := by rw [List.length_map, nxL_len hi]; exact hlt
          refine ⟨⟨h2.c.c6, h2.c.c7, h2.c.c8, ?_, ⟨_, (h2.x.cell hl2).trans (List.getElem?_eq_getElem hl2)⟩, h2.x.free, h2.x.lt, h2.c.lt⟩, h2.step hM1 HG.out.2.2 hlt⟩
          have := h2.c.c12; rw [show (leadN (lead1M m) n i (la + 1)).next.length = n from nxL_len hi] at this; exact this
        go_wp2
        go_region_held3 (fun w' => w'.cell? ⟨M, 6, none⟩ = some (.int .i64 m.b) ∧ w'.cell? ⟨M, 7, none⟩ = some (.int .i64 m.bt) ∧ w'.cell? ⟨M, 8, none⟩ = some (.slice s.ea m.es.length s.ec) ∧ w'.cell? ⟨M, 12, none⟩ = some (.slice (some ⟨G1, 0, none⟩) n n)) (go_keep) (first
          | (go_at_call 49; refine (HLa.out _).mono ?_; rintro e w2 ⟨rfl, HB⟩; have H2 : Hid (Below wr.heap.size wr w2) := (Below.refl _ _).drew.trans HB; obtain ⟨⟨x6, x7, x8, x12, ⟨u, xu⟩, xf, xl, xm⟩, _⟩ := HSt.out w2 H2.out; clear HB))
        have H3 : Hid (Ld W1 (w2.setCell ⟨G1, i, none⟩ (.int .i64 (la + 1))) B M G1 G2 s.cleared (lead1M m) v n (i + 1) (la + 1)) := (HSt.out w2 H2.out).2
        go_wp2
        go_roundw
        case rel => exact ⟨i + 1, by omega, by go_num, H3.out⟩
        case measure => simp [intOf]; omega
      · obtain rfl : i = n := by omega
        have HF := HR2.out.wk (Nat.le_refl _) HK1.out.1 HIn.out
        rw [HLe.out] at HF
        have HF2 : Hid (Wk wr B M (s.cleared.rows G1 G2 i) (lead0M m) v ts ∧ Dn B M v v w wr) := ⟨HF.1, HK1.out.2.trans HF.2⟩
        clear HF
        go_wp2_with (go_at_call 48; refine (HPu.out _ _ HF2.out.1).mono ?_; rintro e w5 ⟨rfl, s', v', q1, q2⟩; have H6 : Hid (∃ s' v', Wk w5 B M s' (leadM m).1 v' (ts ++ (leadM m).2) ∧ Dn B M v v' w w5) := ⟨s', v', q1, HF2.out.2.trans q2⟩; clear q1 q2)
        first | (refine bodyPost_end (results_none rfl _ _ _) rfl ?_) | (refine bodyPost_ret (results_none rfl _ _ _) rfl ?_)
        exact ⟨rfl, H6.out⟩)
end
section
open Go.RowKit
set_option linter.unusedVariables false


/-- What is to be known of a member that stands, or asks. -/
structure PreS (m : Mb) (n : Nat) : Prop where
  nn : m.n = n
  n2 : n ≤ 100
  i1 : 1 ≤ m.id
  i2 : m.id ≤ n
  b1 : 0 ≤ m.b
  b2 : m.b ≤ 1500000
  es : Small m.es
  el : m.es.length ≤ 900
  t1 : 0 ≤ m.term
  t2 : m.term ≤ 1500000
  sn : m.snap.length ≤ 1000
theorem stand_is (m : Mb) (T : Int) (h : m.term < T) : followM m T 0 = { m with term := T, vote := 0, role := 0, lead := 0, granted := [], next := [], mtch := [] } := by unfold followM; rw [if_pos h, if_pos h]
theorem follow_is (m : Mb) (who : Int) : followM m m.term who = { m with role := 0, lead := who, granted := [], next := [], mtch := [] } := by unfold followM; rw [if_neg (by omega), if_neg (by omega)]
theorem grant_one (m : Mb) (h : m.granted = []) : grantS m m.id = { m with granted := oneB m.n m.id } := by unfold grantS oneB; rw [h, sz_nil]
set_option maxRecDepth 100000 in
set_option maxHeartbeats 1600000 in
theorem stand_any {w : World} {B M : Nat} {s : Ad} {m : Mb} {v : Value} {ts : List Ms} (hW : Wk w B M s m v ts) (n : Nat) (hp : PreS m n) (hl : ts.length ≤ 600) : Calls Try.prog 65 #[.pointer (some ⟨M, 0, none⟩)] w fun e w' => e = .returned (.tuple #[]) ∧ ∃ s' v', Wk w' B M s' (standM m).1 v' (ts ++ (standM m).2) ∧ Dn B M v v' w w' := by
  have hM := hW.lt
  have hn2 := hp.n2
  have t1 := hp.t1
  have t2 := hp.t2
  have ht0 : (stand0M m).term = m.term + 1 := by show (followM m (m.term + 1) 0).term = _; rw [stand_is m _ (by omega)]
  have HFo : Hid (Calls Try.prog 60 #[.pointer (some ⟨M, 0, none⟩), .int .i64 (m.term + 1), .int .i64 0] w fun e w' => e = .returned (.tuple #[]) ∧ Wk w' B M s.cleared { m with term := m.term + 1, vote := 0, role := 0, lead := 0, granted := [], next := [], mtch := [] } v ts ∧ Dn B M v v w w') := by
    have := follow_any hW (m.term + 1) 0
    rw [stand_is m _ (by omega)] at this
    exact this
  have HGr : Hid (∀ wx s', Wk wx B M s' { m with term := m.term + 1, vote := m.id, role := 2, lead := 0, granted := [], next := [], mtch := [], clock := 0 } v ts → Calls Try.prog 64 #[.pointer (some ⟨M, 0, none⟩), .int .i64 m.id] wx fun e w' => e = .returned (.tuple #[]) ∧ ∃ s'', Wk w' B M s'' (stand0M m) v ts ∧ Dn B M v v wx w') := fun wx s' q => by
    refine (grant_any q n hp.nn hn2 m.id hp.i1 hp.i2).mono fun e w' ⟨z1, ga, z2, z3⟩ => ⟨z1, { s' with ga := ga, gc := n }, ?_, z3⟩
    have e1 := grant_one { m with term := m.term + 1, vote := m.id, role := 2, lead := 0, granted := [], next := [], mtch := [], clock := 0 } rfl
    rw [show (stand0M m) = { m with term := m.term + 1, vote := m.id, role := 2, lead := 0, granted := oneB m.n m.id, next := [], mtch := [], clock := 0 } by unfold stand0M; rw [stand_is m _ (by omega)]]
    have z2 : Wk w' B M { s' with ga := ga, gc := n } (grantS { m with term := m.term + 1, vote := m.id, role := 2, lead := 0, granted := [], next := [], mtch := [], clock := 0 } m.id) v ts := z2
    rw [show grantS { m with term := m.term + 1, vote := m.id, role := 2, lead := 0, granted := [], next := [], mtch := [], clock := 0 } m.id = _ from e1] at z2
    exact z2
  have HLe : Hid (m.n = 1 → ∀ wx s', Wk wx B M s' (stand0M m) v ts → Calls Try.prog 82 #[.pointer (some ⟨M, 0, none⟩)] wx fun e w' => e = .returned (.tuple #[]) ∧ ∃ s' v', Wk w' B M s' (standM m).1 v' (ts ++ (standM m).2) ∧ Dn B M v v' wx w') := fun h1 wx s' q => by
    have e1 : standM m = leadM (stand0M m) := by unfold standM; rw [if_pos h1]
    rw [e1]
    exact lead_any q n hp.nn hn2 hp.i1 hp.i2 hp.b1 hp.b2 hp.es hp.el (by rw [ht0]; exact ⟨by omega, by omega⟩) hp.sn (by omega)
  have HBi : Hid (∀ wx s', Wk wx B M s' (stand0M m) v ts → Calls Try.prog 67 #[.pointer (some ⟨M, 0, none⟩), .int .i64 3, .int .i64 (m.term + 1)] wx fun e w' => e = .returned (.agg #[.int .i64 3, .int .i64 0, .int .i64 0, .int .i64 0, .int .i64 (m.term + 1), .int .i64 (stand0M m).last, .int .i64 (stand0M m).lastT, .int .i64 0, .bool false, .slice none 0 0, .slice none 0 0]) ∧ Below wx.heap.size wx w') := fun wx s' q => bid_any q hp.b1 (by have := hp.b2; show m.b ≤ _; omega) hp.es 3 (m.term + 1)
  have HSe : Hid (¬ m.n = 1 → ∀ wx s', Wk wx B M s' (stand0M m) v ts → Calls Try.prog 66 #[.pointer (some ⟨M, 0, none⟩), .agg #[.int .i64 3, .int .i64 0, .int .i64 0, .int .i64 0, .int .i64 (m.term + 1), .int .i64 (stand0M m).last, .int .i64 (stand0M m).lastT, .int .i64 0, .bool false, .slice none 0 0, .slice none 0 0]] wx fun e w' => e = .returned (.tuple #[]) ∧ ∃ s' v', Wk w' B M s' (standM m).1 v' (ts ++ (standM m).2) ∧ Dn B M v v' wx w') := fun h1 wx s' q => by
    have e1 : standM m = (stand0M m, toM m.id (bidM (stand0M m) 3 (m.term + 1)) m.n.toNat) := by unfold standM; rw [if_neg h1]
    rw [e1, hp.nn, Int.toNat_natCast]
    exact (sendAll_any q n hp.nn hn2 { zMs with kind := 3, term := m.term + 1, at_ := (stand0M m).last, att := (stand0M m).lastT } rfl rfl (by omega)).mono fun e w' ⟨z1, v', z2, z3⟩ => ⟨z1, s', v', z2, z3⟩
  have HX : Hid (∀ wx s', Wk wx B M s' (stand0M m) v ts → wx.cell? ⟨M, 1, none⟩ = some (.int .i64 m.n) ∧ wx.cell? ⟨M, 2, none⟩ = some (.int .i64 (m.term + 1)) ∧ M < wx.heap.size) := fun wx s' q => ⟨q.c.c1, by rw [← ht0]; exact q.c.c2, q.lt⟩
  have hbm := hW.bm
  obtain ⟨c0, c1, c2, c3, c4, c5, c6, c7, c8, c9, c10, c11, c12, c13, c14, c15, c16, cf⟩ := hW.c
  clear hW hp ht0
  generalize (standM m).1 = mF at *
  generalize (standM m).2 = out at *
  generalize (stand0M m).last = la at *
  generalize (stand0M m).lastT = lt at *
  generalize stand0M m = m3 at *
  by_cases hn1 : m.n = 1
  · have HL2 := HLe.out hn1
    have HL3 : Hid (∀ wx s', Wk wx B M s' m3 v ts → Calls Try.prog 82 #[.pointer (some ⟨M, 0, none⟩)] wx fun e w' => e = .returned (.tuple #[]) ∧ ∃ s' v', Wk w' B M s' mF v' (ts ++ out) ∧ Dn B M v v' wx w') := HL2
    have hn1b : (m.n == 1) = true := by simp [hn1]
    clear HL2 HLe HSe HBi hn1
    go_enter Try.func65, Try.ntmps65
    go_wp2_with (first
      | (go_at_call 82; have := H3; refine (HL3.out _ _ H3.out.1).mono ?_; rintro e w4 ⟨rfl, s', v', q1, q2⟩; have H6 : Hid (∃ s' v', Wk w4 B M s' mF v' (ts ++ out) ∧ Dn B M v v' w w4) := ⟨s', v', q1, H3.out.2.trans q2⟩; clear q1 q2)
      | (go_at_call 64; have := H1; refine (HGr.out _ _ (H1.out.1.turn ((((((H1.out.1.c).put 3 _)).put 4 _)).put 14 _) (fun g hg => ((heap_other hg).trans ((heap_other hg).trans (heap_other (w := w1) (g := g) hg)))) ⟨H1.out.1.r.e, H1.out.1.r.sn, H1.out.1.r.sP, H1.out.1.r.g, H1.out.1.r.gP, H1.out.1.r.x, H1.out.1.r.xP, H1.out.1.r.t, H1.out.1.r.tP⟩)).mono ?_; rintro e w3 ⟨rfl, s3, q1, q2⟩; have H3 : Hid (Wk w3 B M s3 m3 v ts ∧ Dn B M v v w w3) := ⟨q1, (H1.out.2.trans (Dn.turn (fun g hg => ((heap_other hg).trans ((heap_other hg).trans (heap_other (w := w1) (g := g) hg)))) ((((((Below.refl B w1).setCell hbm _)).setCell hbm _)).setCell hbm _))).trans q2⟩; obtain ⟨g1, g2, g3⟩ := HX.out _ _ q1; clear q1 q2)
      | (go_at_call 60; refine HFo.out.mono ?_; rintro e w1 ⟨rfl, q1, q2⟩; have H1 : Hid (Wk w1 B M s.cleared { m with term := m.term + 1, vote := 0, role := 0, lead := 0, granted := [], next := [], mtch := [] } v ts ∧ Dn B M v v w w1) := ⟨q1, q2⟩; have hM1 := q1.lt; obtain ⟨d0, d1, d2, d3, d4, d5, d6, d7, d8, d9, d10, d11, d12, d13, d14, d15, d16, df⟩ := q1.c; clear q1 q2))
    first | (refine bodyPost_end (results_none rfl _ _ _) rfl ?_) | (refine bodyPost_ret (results_none rfl _ _ _) rfl ?_)
    exact ⟨rfl, H6.out⟩
  · have HS2 := HSe.out hn1
    have HS3 : Hid (∀ wx s', Wk wx B M s' m3 v ts → Calls Try.prog 66 #[.pointer (some ⟨M, 0, none⟩), .agg #[.int .i64 3, .int .i64 0, .int .i64 0, .int .i64 0, .int .i64 (m.term + 1), .int .i64 la, .int .i64 lt, .int .i64 0, .bool false, .slice none 0 0, .slice none 0 0]] wx fun e w' => e = .returned (.tuple #[]) ∧ ∃ s' v', Wk w' B M s' mF v' (ts ++ out) ∧ Dn B M v v' wx w') := HS2
    have hn1b : (m.n == 1) = false := beq_eq_false_iff_ne.2 hn1
    clear HS2 HLe HSe hn1
    go_enter Try.func65, Try.ntmps65
    go_wp2_with (first
      | (go_at_call 66; have := H4; refine (HS3.out _ _ H4.out.1).mono ?_; rintro e w5 ⟨rfl, s', v', q1, q2⟩; have H6 : Hid (∃ s' v', Wk w5 B M s' mF v' (ts ++ out) ∧ Dn B M v v' w w5) := ⟨s', v', q1, H4.out.2.trans q2⟩; clear q1 q2)
      | (go_at_call 67; have := H3; refine (HBi.out _ _ H3.out.1).mono ?_; rintro e w4 ⟨rfl, HB⟩; have H4 : Hid (Wk w4 B M s3 m3 v ts ∧ Dn B M v v w w4) := ⟨H3.out.1.below HB, H3.out.2.trans (Dn.below HB H3.out.1.le)⟩; clear HB)
      | (go_at_call 64; have := H1; refine (HGr.out _ _ (H1.out.1.turn ((((((H1.out.1.c).put 3 _)).put 4 _)).put 14 _) (fun g hg => ((heap_other hg).trans ((heap_other hg).trans (heap_other (w := w1) (g := g) hg)))) ⟨H1.out.1.r.e, H1.out.1.r.sn, H1.out.1.r.sP, H1.out.1.r.g, H1.out.1.r.gP, H1.out.1.r.x, H1.out.1.r.xP, H1.out.1.r.t, H1.out.1.r.tP⟩)).mono ?_; rintro e w3 ⟨rfl, s3, q1, q2⟩; have H3 : Hid (Wk w3 B M s3 m3 v ts ∧ Dn B M v v w w3) := ⟨q1, (H1.out.2.trans (Dn.turn (fun g hg => ((heap_other hg).trans ((heap_other hg).trans (heap_other (w := w1) (g := g) hg)))) ((((((Below.refl B w1).setCell hbm _)).setCell hbm _)).setCell hbm _))).trans q2⟩; obtain ⟨g1, g2, g3⟩ := HX.out _ _ q1; clear q1 q2)
      | (go_at_call 60; refine HFo.out.mono ?_; rintro e w1 ⟨rfl, q1, q2⟩; have H1 : Hid (Wk w1 B M s.cleared { m with term := m.term + 1, vote := 0, role := 0, lead := 0, granted := [], next := [], mtch := [] } v ts ∧ Dn B M v v w w1) := ⟨q1, q2⟩; have hM1 := q1.lt; obtain ⟨d0, d1, d2, d3, d4, d5, d6, d7, d8, d9, d10, d11, d12, d13, d14, d15, d16, df⟩ := q1.c; clear q1 q2))
    first | (refine bodyPost_end (results_none rfl _ _ _) rfl ?_) | (refine bodyPost_ret (results_none rfl _ _ _) rfl ?_)
    exact ⟨rfl, H6.out⟩
set_option maxRecDepth 100000 in
set_option maxHeartbeats 1600000 in
theorem ask_any {w : World} {B M : Nat} {s : Ad} {m : Mb} {v : Value} {ts : List Ms} (hW : Wk w B M s m v ts) (n : Nat) (hp : PreS m n) (draw : Int) (hdr : InR draw) (hl : ts.length ≤ 600) : Calls Try.prog 47 #[.pointer (some ⟨M, 0, none⟩), .int .i64 draw] w fun e w' => e = .returned (.tuple #[]) ∧ ∃ s' v', Wk w' B M s' (askM m draw).1 v' (ts ++ (askM m draw).2) ∧ Dn B M v v' w w' := by
  have hM := hW.lt
  have hn2 := hp.n2
  have t1 := hp.t1
  have t2 := hp.t2
  have ht0 : (ask0M m draw).term = m.term := by show (followM m m.term 0).term = _; rw [follow_is m]
  have HFo : Hid (Calls Try.prog 60 #[.pointer (some ⟨M, 0, none⟩), .int .i64 m.term, .int .i64 0] w fun e w' => e = .returned (.tuple #[]) ∧ Wk w' B M s.cleared { m with role := 0, lead := 0, granted := [], next := [], mtch := [] } v ts ∧ Dn B M v v w w') := by
    have := follow_any hW m.term 0
    rw [follow_is m] at this
    exact this
  have HGr : Hid (∀ wx s', Wk wx B M s' { m with role := 1, lead := 0, granted := [], next := [], mtch := [], clock := 0, wait := 10 + draw % 18446744073709551616 % 10 } v ts → Calls Try.prog 64 #[.pointer (some ⟨M, 0, none⟩), .int .i64 m.id] wx fun e w' => e = .returned (.tuple #[]) ∧ ∃ s'', Wk w' B M s'' (ask0M m draw) v ts ∧ Dn B M v v wx w') := fun wx s' q => by
    refine (grant_any q n hp.nn hn2 m.id hp.i1 hp.i2).mono fun e w' ⟨z1, ga, z2, z3⟩ => ⟨z1, { s' with ga := ga, gc := n }, ?_, z3⟩
    have e1 := grant_one { m with role := 1, lead := 0, granted := [], next := [], mtch := [], clock := 0, wait := 10 + draw % 18446744073709551616 % 10 } rfl
    rw [show (ask0M m draw) = { m with role := 1, lead := 0, granted := oneB m.n m.id, next := [], mtch := [], clock := 0, wait := 10 + draw % 18446744073709551616 % 10 } by unfold ask0M; rw [follow_is m]]
    have z2 : Wk w' B M { s' with ga := ga, gc := n } (grantS { m with role := 1, lead := 0, granted := [], next := [], mtch := [], clock := 0, wait := 10 + draw % 18446744073709551616 % 10 } m.id) v ts := z2
    rw [show grantS { m with role := 1, lead := 0, granted := [], next := [], mtch := [], clock := 0, wait := 10 + draw % 18446744073709551616 % 10 } m.id = _ from e1] at z2
    exact z2
  have HLe : Hid (m.n = 1 → ∀ wx s', Wk wx B M s' (ask0M m draw) v ts → Calls Try.prog 65 #[.pointer (some ⟨M, 0, none⟩)] wx fun e w' => e = .returned (.tuple #[]) ∧ ∃ s' v', Wk w' B M s' (askM m draw).1 v' (ts ++ (askM m draw).2) ∧ Dn B M v v' wx w') := fun h1 wx s' q => by
    have e1 : askM m draw = standM (ask0M m draw) := by unfold askM; rw [if_pos h1]
    rw [e1]
    exact stand_any q n ⟨hp.nn, hn2, hp.i1, hp.i2, hp.b1, hp.b2, hp.es, hp.el, by rw [ht0]; exact hp.t1, by rw [ht0]; exact hp.t2, hp.sn⟩ (by omega)
  have HBi : Hid (∀ wx s', Wk wx B M s' (ask0M m draw) v ts → Calls Try.prog 67 #[.pointer (some ⟨M, 0, none⟩), .int .i64 1, .int .i64 (m.term + 1)] wx fun e w' => e = .returned (.agg #[.int .i64 1, .int .i64 0, .int .i64 0, .int .i64 0, .int .i64 (m.term + 1), .int .i64 (ask0M m draw).last, .int .i64 (ask0M m draw).lastT, .int .i64 0, .bool false, .slice none 0 0, .slice none 0 0]) ∧ Below wx.heap.size wx w') := fun wx s' q => bid_any q hp.b1 (by have := hp.b2; show m.b ≤ _; omega) hp.es 1 (m.term + 1)
  have HSe : Hid (¬ m.n = 1 → ∀ wx s', Wk wx B M s' (ask0M m draw) v ts → Calls Try.prog 66 #[.pointer (some ⟨M, 0, none⟩), .agg #[.int .i64 1, .int .i64 0, .int .i64 0, .int .i64 0, .int .i64 (m.term + 1), .int .i64 (ask0M m draw).last, .int .i64 (ask0M m draw).lastT, .int .i64 0, .bool false, .slice none 0 0, .slice none 0 0]] wx fun e w' => e = .returned (.tuple #[]) ∧ ∃ s' v', Wk w' B M s' (askM m draw).1 v' (ts ++ (askM m draw).2) ∧ Dn B M v v' wx w') := fun h1 wx s' q => by
    have e1 : askM m draw = ((ask0M m draw), toM m.id (bidM (ask0M m draw) 1 (m.term + 1)) m.n.toNat) := by unfold askM; rw [if_neg h1]
    rw [e1, hp.nn, Int.toNat_natCast]
    exact (sendAll_any q n hp.nn hn2 { zMs with kind := 1, term := m.term + 1, at_ := (ask0M m draw).last, att := (ask0M m draw).lastT } rfl rfl (by omega)).mono fun e w' ⟨z1, v', z2, z3⟩ => ⟨z1, s', v', z2, z3⟩
  have HX : Hid (∀ wx s', Wk wx B M s' (ask0M m draw) v ts → wx.cell? ⟨M, 1, none⟩ = some (.int .i64 m.n) ∧ wx.cell? ⟨M, 2, none⟩ = some (.int .i64 m.term) ∧ M < wx.heap.size) := fun wx s' q => ⟨q.c.c1, by rw [← ht0]; exact q.c.c2, q.lt⟩
  have hbm := hW.bm
  have hdu1 : 0 ≤ draw % 18446744073709551616 := Int.emod_nonneg _ (by decide)
  have hdu2 : draw % 18446744073709551616 < 18446744073709551616 := Int.emod_lt_of_pos _ (by decide)
  have hdu : IntKind.u64.wrap draw = draw % 18446744073709551616 := by rw [IntKind.wrap_u64]
  obtain ⟨c0, c1, c2, c3, c4, c5, c6, c7, c8, c9, c10, c11, c12, c13, c14, c15, c16, cf⟩ := hW.c
  clear hW hp ht0
  generalize (askM m draw).1 = mF at *
  generalize (askM m draw).2 = out at *
  generalize (ask0M m draw).last = la at *
  generalize (ask0M m draw).lastT = lt at *
  generalize (ask0M m draw) = m3 at *
  generalize draw % 18446744073709551616 = du at *
  by_cases hn1 : m.n = 1
  · have HL2 := HLe.out hn1
    have HL3 : Hid (∀ wx s', Wk wx B M s' m3 v ts → Calls Try.prog 65 #[.pointer (some ⟨M, 0, none⟩)] wx fun e w' => e = .returned (.tuple #[]) ∧ ∃ s' v', Wk w' B M s' mF v' (ts ++ out) ∧ Dn B M v v' wx w') := HL2
    have hn1b : (m.n == 1) = true := by simp [hn1]
    clear HL2 HLe HSe HBi hn1
    go_enter Try.func47, Try.ntmps47
    go_wp2_with (first
      | (go_at_call 65; have := H3; refine (HL3.out _ _ H3.out.1).mono ?_; rintro e w4 ⟨rfl, s', v', q1, q2⟩; have H6 : Hid (∃ s' v', Wk w4 B M s' mF v' (ts ++ out) ∧ Dn B M v v' w w4) := ⟨s', v', q1, H3.out.2.trans q2⟩; clear q1 q2)
      | (go_at_call 64; have := H1; refine (HGr.out _ _ (H1.out.1.turn ((((((H1.out.1.c).put 4 _)).put 14 _)).put 15 _) (fun g hg => ((heap_other hg).trans ((heap_other hg).trans (heap_other (w := w1) (g := g) hg)))) ⟨H1.out.1.r.e, H1.out.1.r.sn, H1.out.1.r.sP, H1.out.1.r.g, H1.out.1.r.gP, H1.out.1.r.x, H1.out.1.r.xP, H1.out.1.r.t, H1.out.1.r.tP⟩)).mono ?_; rintro e w3 ⟨rfl, s3, q1, q2⟩; have H3 : Hid (Wk w3 B M s3 m3 v ts ∧ Dn B M v v w w3) := ⟨q1, (H1.out.2.trans (Dn.turn (fun g hg => ((heap_other hg).trans ((heap_other hg).trans (heap_other (w := w1) (g := g) hg)))) ((((((Below.refl B w1).setCell hbm _)).setCell hbm _)).setCell hbm _))).trans q2⟩; obtain ⟨g1, g2, g3⟩ := HX.out _ _ q1; clear q1 q2)
      | (go_at_call 60; refine HFo.out.mono ?_; rintro e w1 ⟨rfl, q1, q2⟩; have H1 : Hid (Wk w1 B M s.cleared { m with role := 0, lead := 0, granted := [], next := [], mtch := [] } v ts ∧ Dn B M v v w w1) := ⟨q1, q2⟩; have hM1 := q1.lt; obtain ⟨d0, d1, d2, d3, d4, d5, d6, d7, d8, d9, d10, d11, d12, d13, d14, d15, d16, df⟩ := q1.c; clear q1 q2))
    first | (refine bodyPost_end (results_none rfl _ _ _) rfl ?_) | (refine bodyPost_ret (results_none rfl _ _ _) rfl ?_)
    exact ⟨rfl, H6.out⟩
  · have HS2 := HSe.out hn1
    have HS3 : Hid (∀ wx s', Wk wx B M s' m3 v ts → Calls Try.prog 66 #[.pointer (some ⟨M, 0, none⟩), .agg #[.int .i64 1, .int .i64 0, .int .i64 0, .int .i64 0, .int .i64 (m.term + 1), .int .i64 la, .int .i64 lt, .int .i64 0, .bool false, .slice none 0 0, .slice none 0 0]] wx fun e w' => e = .returned (.tuple #[]) ∧ ∃ s' v', Wk w' B M s' mF v' (ts ++ out) ∧ Dn B M v v' wx w') := HS2
    have hn1b : (m.n == 1) = false := beq_eq_false_iff_ne.2 hn1
    clear HS2 HLe HSe hn1
    go_enter Try.func47, Try.ntmps47
    go_wp2_with (first
      | (go_at_call 66; have := H4; refine (HS3.out _ _ H4.out.1).mono ?_; rintro e w5 ⟨rfl, s', v', q1, q2⟩; have H6 : Hid (∃ s' v', Wk w5 B M s' mF v' (ts ++ out) ∧ Dn B M v v' w w5) := ⟨s', v', q1, H4.out.2.trans q2⟩; clear q1 q2)
      | (go_at_call 67; have := H3; refine (HBi.out _ _ H3.out.1).mono ?_; rintro e w4 ⟨rfl, HB⟩; have H4 : Hid (Wk w4 B M s3 m3 v ts ∧ Dn B M v v w w4) := ⟨H3.out.1.below HB, H3.out.2.trans (Dn.below HB H3.out.1.le)⟩; clear HB)
      | (go_at_call 64; have := H1; refine (HGr.out _ _ (H1.out.1.turn ((((((H1.out.1.c).put 4 _)).put 14 _)).put 15 _) (fun g hg => ((heap_other hg).trans ((heap_other hg).trans (heap_other (w := w1) (g := g) hg)))) ⟨H1.out.1.r.e, H1.out.1.r.sn, H1.out.1.r.sP, H1.out.1.r.g, H1.out.1.r.gP, H1.out.1.r.x, H1.out.1.r.xP, H1.out.1.r.t, H1.out.1.r.tP⟩)).mono ?_; rintro e w3 ⟨rfl, s3, q1, q2⟩; have H3 : Hid (Wk w3 B M s3 m3 v ts ∧ Dn B M v v w w3) := ⟨q1, (H1.out.2.trans (Dn.turn (fun g hg => ((heap_other hg).trans ((heap_other hg).trans (heap_other (w := w1) (g := g) hg)))) ((((((Below.refl B w1).setCell hbm _)).setCell hbm _)).setCell hbm _))).trans q2⟩; obtain ⟨g1, g2, g3⟩ := HX.out _ _ q1; clear q1 q2)
      | (go_at_call 60; refine HFo.out.mono ?_; rintro e w1 ⟨rfl, q1, q2⟩; have H1 : Hid (Wk w1 B M s.cleared { m with role := 0, lead := 0, granted := [], next := [], mtch := [] } v ts ∧ Dn B M v v w w1) := ⟨q1, q2⟩; have hM1 := q1.lt; obtain ⟨d0, d1, d2, d3, d4, d5, d6, d7, d8, d9, d10, d11, d12, d13, d14, d15, d16, df⟩ := q1.c; clear q1 q2))
    first | (refine bodyPost_end (results_none rfl _ _ _) rfl ?_) | (refine bodyPost_ret (results_none rfl _ _ _) rfl ?_)
    exact ⟨rfl, H6.out⟩
end
section
open Go.RowKit
set_option linter.unusedVariables false


/-- What a call of a member at work leaves, with what it is then, and sent. -/
def TkO (w : World) (B M : Nat) (v : Value) (ts : List Ms) (r : Mb × List Ms) (w' : World) : Prop := ∃ s' v', Wk w' B M s' r.1 v' (ts ++ r.2) ∧ Dn B M v v' w w'
/-- The numbers of a message lie where they may. -/
structure WfX (x : Ms) : Prop where
  f : InR x.frm
  t : InR x.term
  a : 0 ≤ x.at_
  a2 : x.at_ ≤ 1000000
  t1 : 0 ≤ x.att
  t2 : x.att ≤ 1000000
  c1 : 0 ≤ x.commit
  c2 : x.commit ≤ 1000000
  e : Small x.ents
  e2 : x.ents.length ≤ 100
  d : x.data.length ≤ 1000
end
section
open Go.RowKit
set_option linter.unusedVariables false
set_option linter.unusedSimpArgs false


/-- A snapshot is taken on. -/
theorem Wk.snap {w w1 : World} {B M : Nat} {s : Ad} {m : Mb} {v : Value} {ts : List Ms} (h : Wk w B M s m v ts) (hb : Below w.heap.size w w1) (b bt : Int) (es : List En) {ra sa : Option Addr} {rc sc : Nat} (d : BB) (hE : EnsV w1 (fun g => w.heap.size ≤ g) ra rc es) (hS : ReadsV w1 (.slice sa d.length sc) d) (hP : PV (fun g => w.heap.size ≤ g) sa d.length) : Wk (((((w1.setCell ⟨M, 6, none⟩ (.int .i64 b)).setCell ⟨M, 7, none⟩ (.int .i64 bt)).setCell ⟨M, 8, none⟩ (.slice ra es.length rc)).setCell ⟨M, 10, none⟩ (.slice sa d.length sc)).setCell ⟨M, 9, none⟩ (.int .i64 b)) B M { s with ea := ra, ec := rc, sa := sa, sc := sc } { m with b := b, bt := bt, es := es, commit := b, snap := d } v ts ∧ Dn B M v v w (((((w1.setCell ⟨M, 6, none⟩ (.int .i64 b)).setCell ⟨M, 7, none⟩ (.int .i64 bt)).setCell ⟨M, 8, none⟩ (.slice ra es.length rc)).setCell ⟨M, 10, none⟩ (.slice sa d.length sc)).setCell ⟨M, 9, none⟩ (.int .i64 b)) := by
  have hM := h.lt
  have hoth : ∀ g, g ≠ M → (((((w1.setCell ⟨M, 6, none⟩ (.int .i64 b)).setCell ⟨M, 7, none⟩ (.int .i64 bt)).setCell ⟨M, 8, none⟩ (.slice ra es.length rc)).setCell ⟨M, 10, none⟩ (.slice sa d.length sc)).setCell ⟨M, 9, none⟩ (.int .i64 b)).heap[g]? = w1.heap[g]? := fun g hg => ((heap_other hg).trans ((heap_other hg).trans ((heap_other hg).trans ((heap_other hg).trans (heap_other (w := w1) (g := g) hg)))))
  have hk : ∀ g, g < w.heap.size → g ≠ M → (((((w1.setCell ⟨M, 6, none⟩ (.int .i64 b)).setCell ⟨M, 7, none⟩ (.int .i64 bt)).setCell ⟨M, 8, none⟩ (.slice ra es.length rc)).setCell ⟨M, 10, none⟩ (.slice sa d.length sc)).setCell ⟨M, 9, none⟩ (.int .i64 b)).heap[g]? = w.heap[g]? := fun g hg hne => (hoth g hne).trans (hb.block g hg)
  have hr := h.rk hk
  have hS2 := bytes_kept (w' := ((((w1.setCell ⟨M, 6, none⟩ (.int .i64 b)).setCell ⟨M, 7, none⟩ (.int .i64 bt)).setCell ⟨M, 8, none⟩ (.slice ra es.length rc)).setCell ⟨M, 10, none⟩ (.slice sa d.length sc)).setCell ⟨M, 9, none⟩ (.int .i64 b)) (Q := Pw B M v) hS hP fun g hg _ => ⟨hoth g (by omega), pw_big h g hg⟩
  refine h.gen hk ((((((((((hb.mono h.le).setCell h.bm _)).setCell h.bm _)).setCell h.bm _)).setCell h.bm _)).setCell h.bm _) ((((((((((h.c.below hb).put 6 _)).put 7 _)).put 8 _)).put 10 _)).put 9 _) ⟨?_, hS2.1, hS2.2, hr.g, hr.gP, hr.x, hr.xP, hr.t, hr.tP⟩
  exact hE.kept fun g hg _ => ⟨hoth g (by omega), pw_big h g hg⟩
end
section
open Go.RowKit
set_option linter.unusedVariables false


/-- What stands of a message and its box while a member works. -/
def Hx (w : World) (B M : Nat) (v : Value) (ax : Ax) (x : Ms) (wx : World) : Prop := Dn B M v v w wx ∧ Xc wx w.heap.size ax x ∧ MsV wx (Pw B M v) ax x
theorem Hx.step {w wx wy : World} {B M : Nat} {v : Value} {ax : Ax} {x : Ms} (hP : Pv M v w.heap.size) (h : Hx w B M v ax x wx) (d : Dn B M v v wx wy) : Hx w B M v ax x wy :=
  ⟨h.1.trans d, h.2.1.kept (d.k _ h.2.1.lt hP), h.2.2.kept fun g hp hlt => ⟨d.k g hlt hp.1, hp⟩⟩
theorem Hx.new {w wx : World} {B M : Nat} {s : Ad} {m : Mb} {v : Value} {ts : List Ms} (hW : Wk w B M s m v ts) (ax : Ax) (x : Ms) (hX : MsV w (Pw B M v) ax x) (q : Below (w.alloc (Obj.cells #[.int .i64 x.kind, .int .i64 x.grp, .int .i64 x.frm, .int .i64 x.to, .int .i64 x.term, .int .i64 x.at_, .int .i64 x.att, .int .i64 x.commit, .bool x.ok, .slice ax.ea x.ents.length ax.ec, .slice ax.da x.data.length ax.dc] 79)).heap.size (w.alloc (Obj.cells #[.int .i64 x.kind, .int .i64 x.grp, .int .i64 x.frm, .int .i64 x.to, .int .i64 x.term, .int .i64 x.at_, .int .i64 x.att, .int .i64 x.commit, .bool x.ok, .slice ax.ea x.ents.length ax.ec, .slice ax.da x.data.length ax.dc] 79)) wx) : Hx w B M v ax x wx :=
  ⟨Dn.below (b1 q) hW.le, (Cl11.new w _ _ _ _ _ _ _ _ _ _ _ _).below q, hX.below (b1 q)⟩
end
end Go.Proofs.Ytfmfphfckaiejaa
