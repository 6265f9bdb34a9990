/-
  The program's sized, at truths and at numbers: contracts.
-/
import Derived.Test.YtfmfphfckaiejaaJao
import Derived.Laws.CopyOwn
namespace Go.Proofs.Ytfmfphfckaiejaa
section
open Go.RowKit
set_option linter.unusedVariables false


/-- So many of a list, what is missing filled up. -/
def szM {α : Type} (l : List α) (n : Nat) (z : α) : List α := l.take n ++ List.replicate (n - l.length) z
theorem sz_len {α : Type} (l : List α) (n : Nat) (z : α) : (szM l n z).length = n := by unfold szM; rw [List.length_append, List.length_take, List.length_replicate]; omega
theorem sz_nil {α : Type} (n : Nat) (z : α) : szM [] n z = List.replicate n z := by unfold szM; simp
theorem sz_self {α : Type} {l : List α} {n : Nat} (z : α) (h : l.length = n) : szM l n z = l := by unfold szM; rw [List.take_of_length_le (by omega), h, Nat.sub_self]; simp
theorem sz_map {α β : Type} (f : α → β) (l : List α) (n : Nat) (z : α) : (szM l n z).map f = szM (l.map f) n (f z) := by unfold szM; rw [List.map_append, List.map_take, List.map_replicate, List.length_map]
/-- A new row of single cells. -/
structure Nr (w : World) (G : Nat) (vs : List Value) : Prop where
  rd : RdL w (some ⟨G, 0, none⟩) vs.length vs
  free : ∀ i, w.frozen? ⟨G, i, none⟩ = false
  lt : G < w.heap.size
theorem RdL.set {w : World} {g cap : Nat} {vs : List Value} (h : RdL w (some ⟨g, 0, none⟩) cap vs) (K : Nat) (v : Value) : RdL (w.setCell ⟨g, K, none⟩ v) (some ⟨g, 0, none⟩) cap (vs.set K v) := by
  refine ⟨by rw [List.length_set]; exact h.cap1, h.cap2, h.nil, ?_⟩
  rcases h.cells with q | ⟨b, o, e, hc⟩
  · left; rw [List.length_set]; exact q
  · simp only [Option.some.injEq, Addr.mk.injEq, and_true] at e
    obtain ⟨rfl, rfl⟩ := e
    refine .inr ⟨g, 0, rfl, fun i hi => ?_⟩
    rw [List.length_set] at hi
    have h1 := hc i hi
    rw [Nat.zero_add] at h1 ⊢
    by_cases e : K = i
    · subst e
      rw [List.getElem?_set_self hi]
      exact World.cell?_setCell_same' _ _ _ (by rw [h1, List.getElem?_eq_getElem hi]; rfl)
    · rw [List.getElem?_set_ne e]
      have hne : (⟨g, K, none⟩ : Addr) ≠ ⟨g, i, none⟩ := by intro h; injection h with _ h _; exact e h
      exact (World.cell?_setCell_other w _ _ v hne).trans h1
theorem Nr.set {w : World} {G : Nat} {vs : List Value} (h : Nr w G vs) (K : Nat) (v : Value) : Nr (w.setCell ⟨G, K, none⟩ v) G (vs.set K v) :=
  ⟨by rw [List.length_set]; exact h.rd.set K v, fun i => by simp only [World.frozen?_setCell]; exact h.free i, by rw [size_set]; exact h.lt⟩
theorem Nr.kept {w w' : World} {G : Nat} {vs : List Value} (h : Nr w G vs) (e : w'.heap[G]? = w.heap[G]?) (hs : w.heap.size ≤ w'.heap.size) : Nr w' G vs := by
  refine ⟨?_, fun i => (frozen_kept e _).trans (h.free i), Nat.lt_of_lt_of_le h.lt hs⟩
  refine ⟨h.rd.cap1, h.rd.cap2, h.rd.nil, ?_⟩
  rcases h.rd.cells with q | ⟨b, o, e2, hc⟩
  · exact .inl q
  · refine .inr ⟨b, o, e2, fun i hi => ?_⟩
    cases e2
    exact (cell_kept e _).trans (hc i hi)
theorem Nr.below {w w' : World} {G : Nat} {vs : List Value} (h : Nr w G vs) (hb : Below w.heap.size w w') : Nr w' G vs := h.kept (hb.block G h.lt) hb.size
theorem Nr.cell {w : World} {G : Nat} {vs : List Value} (h : Nr w G vs) {i : Nat} (hi : i < vs.length) : w.cell? ⟨G, i, none⟩ = vs[i]? := by
  rcases h.rd.cells with q | ⟨b, o, e2, hc⟩
  · omega
  · cases e2
    have := hc i hi
    rwa [Nat.zero_add] at this
theorem Nr.of_heap {w : World} {G : Nat} {vs : List Value} {t : TypeId} (h : w.heap[G]? = some (.cells vs.toArray t (0, 0))) (hl : vs.length ≤ 1000) : Nr w G vs := by
  refine ⟨⟨Nat.le_refl _, by omega, fun e => (by cases e), .inr ⟨G, 0, rfl, fun i hi => ?_⟩⟩, fun i => by simp only [World.frozen?]; rw [h]; simp, (Array.getElem?_eq_some_iff.1 h).1⟩
  rw [Nat.zero_add, cell_of_row _ _ _ _ t (0, 0) h]
  simp
theorem madeCells_one (z : Value) (n : Nat) (h : z.cells = #[z]) : madeCells z.cells n = (List.replicate n z).toArray := by
  rw [h]
  unfold madeCells
  apply Array.ext
  · simp
  · intro i h1 h2
    simp [Nat.mod_one]
theorem info4 : (Try.prog.info? 4).map (fun i => (i.zero, i.size, i.bytes)) = some (some (.bool false), 1, 1) := by kernel_rfl
theorem info3 : (Try.prog.info? 3).map (fun i => (i.zero, i.size, i.bytes)) = some (some (.int .i64 0), 1, 8) := by kernel_rfl
theorem make_bools (w : World) (n : Nat) (hn : n ≤ 100) : ∀ kl kc : IntKind, (Instr.makeSlice 28 (.int kl (n : Int)) (.int kc (n : Int))).run Try.prog w = .ok (.slice (some ⟨w.heap.size, 0, none⟩) n n) (w.alloc (.cells (List.replicate n (.bool false)).toArray 4)) := by
  intro kl kc
  obtain ⟨i, hi, hz, hsize, hby⟩ := info_parts info4
  have := run_make (P := Try.prog) w 28 4 i _ Try.underlying28 hi hz kl kc n n (by omega) (Int.le_refl _) (by rw [hby]; omega) (by omega)
  rw [hsize, madeCells_one _ _ rfl, Int.toNat_natCast, Nat.mul_one] at this
  exact this
theorem make_ints (w : World) (n : Nat) (hn : n ≤ 100) : ∀ kl kc : IntKind, (Instr.makeSlice 29 (.int kl (n : Int)) (.int kc (n : Int))).run Try.prog w = .ok (.slice (some ⟨w.heap.size, 0, none⟩) n n) (w.alloc (.cells (List.replicate n (.int .i64 0)).toArray 3)) := by
  intro kl kc
  obtain ⟨i, hi, hz, hsize, hby⟩ := info_parts info3
  have := run_make (P := Try.prog) w 29 3 i _ Try.underlying29 hi hz kl kc n n (by omega) (Int.le_refl _) (by rw [hby]; omega) (by omega)
  rw [hsize, madeCells_one _ _ rfl, Int.toNat_natCast, Nat.mul_one] at this
  exact this
theorem splice_sz {vs : List Value} {n : Nat} {z : Value} : splice (List.replicate n z) 0 (vs.take n) = szM vs n z := by
  unfold splice szM
  rw [List.take_zero, List.nil_append, Nat.zero_add, List.drop_replicate, List.length_take]
  congr 2
  omega
/-- What sized leaves. -/
def SzP (vs : List Value) (n : Nat) (w : World) (e : Ending) (w' : World) : Prop := ∃ G, e = .returned (.slice (some ⟨G, 0, none⟩) n n) ∧ w.heap.size ≤ G ∧ Nr w' G vs ∧ Below w.heap.size w w'
set_option maxRecDepth 100000 in
set_option maxHeartbeats 400000 in
theorem sizedB_any {w : World} {a : Option Addr} {c : Nat} {l : List Bool} (h : BlV w a c l) (n : Nat) (hn : n ≤ 100) : Calls Try.prog 81 #[.slice a l.length c, .int .i64 (n : Int)] w (SzP ((szM l n false).map Value.bool) n w) := by
  have hmk := make_bools w n hn .i64 .i64
  have HS : Hid (∀ wx, Below w.heap.size w wx → 0 < ((l.map Value.bool).take n).length → ∃ ad, a = some ad ∧ ∀ j v, ((l.map Value.bool).take n)[j]? = some v → wx.cell? (ad.add j) = some v) := fun wx hb hp => by
    rcases (show RdL w a c _ from h).cells with q | ⟨b, o, e, hc⟩
    · rw [List.length_take, q] at hp; omega
    · refine ⟨_, e, fun j v hj => ?_⟩
      obtain ⟨hj1, hj2⟩ := List.getElem?_eq_some_iff.1 hj
      rw [List.length_take] at hj1
      have h1 := hc j (by omega)
      have h2 : (l.map Value.bool)[j]? = some v := by rw [List.getElem?_take, if_pos (by omega)] at hj; exact hj
      rw [h2] at h1
      rw [add_plain]
      exact (hb.cell (p := ⟨b, o + j, none⟩) (World.block_lt_of_cell? w _ h1)).trans h1
  have HL : Hid ((((l.map Value.bool).take n).length = Nat.min l.length n) ∧ ∀ v ∈ (l.map Value.bool).take n, v.oneCell' = true) := ⟨by rw [List.length_take, List.length_map]; exact Nat.min_comm .., fun v hv => by
    obtain ⟨x, _, rfl⟩ := List.mem_map.1 (List.mem_of_mem_take hv)
    rfl⟩
  have HZ : Hid (splice (List.replicate n (.bool false)) 0 ((l.map Value.bool).take n) = (szM l n false).map Value.bool) := by
    show _ = _
    rw [splice_sz, sz_map]
  have HN : Hid (((szM l n false).map Value.bool).length ≤ 1000) := by show _ ≤ _; rw [List.length_map, sz_len]; omega
  have HN2 : Hid (0 + ((l.map Value.bool).take n).length ≤ (List.replicate n ((.bool false) : Value)).length) := by show _ ≤ _; rw [List.length_take, List.length_replicate]; omega
  clear h
  generalize (szM l n false).map Value.bool = vs at *
  generalize (l.map Value.bool).take n = cs at *
  go_enter Try.func81, Try.ntmps81
  go_wp2_with (have := HZ; refine wpList_copy_splice rfl _ _ 28 28 rfl 4 Try.underlying28 (by kernel_rfl) _ _ _ _ _ _ rfl rfl w.heap.size 0 (List.replicate n (.bool false)) 4 (heap_alloc_new _ _) cs HL.out.1 (fun hp => ⟨rfl, HS.out _ ((Below.refl _ _).alloc (Nat.le_refl _) _) hp⟩) HN2.out HL.out.2 w.heap.size w ((Below.refl _ _).alloc (Nat.le_refl _) _) (Nat.le_refl _) ?_; intro w2 hg2 hb2; rw [HZ.out] at hg2; have HD : Hid (SzP vs n w (.returned (.slice (some ⟨w.heap.size, 0, none⟩) n n)) w2) := ⟨_, rfl, Nat.le_refl _, Nr.of_heap hg2.out HN.out, hb2⟩; clear HZ hg2 hb2)
  go_ret
  exact HD.out
set_option maxRecDepth 100000 in
set_option maxHeartbeats 400000 in
theorem sizedN_any {w : World} {a : Option Addr} {c : Nat} {l : List Int} (h : IlV w a c l) (n : Nat) (hn : n ≤ 100) : Calls Try.prog 69 #[.slice a l.length c, .int .i64 (n : Int)] w (SzP ((szM l n 0).map (Value.int .i64)) n w) := by
  have hmk := make_ints w n hn .i64 .i64
  have HS : Hid (∀ wx, Below w.heap.size w wx → 0 < ((l.map (Value.int .i64)).take n).length → ∃ ad, a = some ad ∧ ∀ j v, ((l.map (Value.int .i64)).take n)[j]? = some v → wx.cell? (ad.add j) = some v) := fun wx hb hp => by
    rcases h.rd.cells with q | ⟨b, o, e, hc⟩
    · rw [List.length_take, q] at hp; omega
    · refine ⟨_, e, fun j v hj => ?_⟩
      obtain ⟨hj1, hj2⟩ := List.getElem?_eq_some_iff.1 hj
      rw [List.length_take] at hj1
      have h1 := hc j (by omega)
      have h2 : (l.map (Value.int .i64))[j]? = some v := by rw [List.getElem?_take, if_pos (by omega)] at hj; exact hj
      rw [h2] at h1
      rw [add_plain]
      exact (hb.cell (p := ⟨b, o + j, none⟩) (World.block_lt_of_cell? w _ h1)).trans h1
  have HL : Hid ((((l.map (Value.int .i64)).take n).length = Nat.min l.length n) ∧ ∀ v ∈ (l.map (Value.int .i64)).take n, v.oneCell' = true) := ⟨by rw [List.length_take, List.length_map]; exact Nat.min_comm .., fun v hv => by
    obtain ⟨x, _, rfl⟩ := List.mem_map.1 (List.mem_of_mem_take hv)
    rfl⟩
  have HZ : Hid (splice (List.replicate n (.int .i64 0)) 0 ((l.map (Value.int .i64)).take n) = (szM l n 0).map (Value.int .i64)) := by
    show _ = _
    rw [splice_sz, sz_map]
  have HN : Hid (((szM l n 0).map (Value.int .i64)).length ≤ 1000) := by show _ ≤ _; rw [List.length_map, sz_len]; omega
  have HN2 : Hid (0 + ((l.map (Value.int .i64)).take n).length ≤ (List.replicate n ((.int .i64 0) : Value)).length) := by show _ ≤ _; rw [List.length_take, List.length_replicate]; omega
  clear h
  generalize (szM l n 0).map (Value.int .i64) = vs at *
  generalize (l.map (Value.int .i64)).take n = cs at *
  go_enter Try.func69, Try.ntmps69
  go_wp2_with (have := HZ; refine wpList_copy_splice rfl _ _ 29 29 rfl 3 Try.underlying29 (by kernel_rfl) _ _ _ _ _ _ rfl rfl w.heap.size 0 (List.replicate n (.int .i64 0)) 3 (heap_alloc_new _ _) cs HL.out.1 (fun hp => ⟨rfl, HS.out _ ((Below.refl _ _).alloc (Nat.le_refl _) _) hp⟩) HN2.out HL.out.2 w.heap.size w ((Below.refl _ _).alloc (Nat.le_refl _) _) (Nat.le_refl _) ?_; intro w2 hg2 hb2; rw [HZ.out] at hg2; have HD : Hid (SzP vs n w (.returned (.slice (some ⟨w.heap.size, 0, none⟩) n n)) w2) := ⟨_, rfl, Nat.le_refl _, Nr.of_heap hg2.out HN.out, hb2⟩; clear HZ hg2 hb2)
  go_ret
  exact HD.out
end
section
open Go.RowKit
set_option linter.unusedVariables false


set_option maxRecDepth 100000 in
set_option maxHeartbeats 400000 in
theorem next_any {w : World} {B M : Nat} {s : Ad} {m : Mb} {v : Value} {ts : List Ms} (hW : Wk w B M s m v ts) (who : Int) (h1 : 1 ≤ who) (h2 : who ≤ m.next.length) (h3 : m.next.length ≤ 100) : Calls Try.prog 78 #[.pointer (some ⟨M, 0, none⟩), .int .i64 who] w fun e w' => e = .returned (.int .i64 (m.next.getD (who - 1).toNat 0)) ∧ w' = w := by
  have hM := hW.lt
  have k1 := hW.r.x.cap1
  have k2 := hW.r.x.cap2
  obtain ⟨k, rfl⟩ : ∃ k : Nat, who = (k : Int) + 1 := ⟨(who - 1).toNat, by omega⟩
  rw [show ((k : Int) + 1 - 1).toNat = k by omega]
  obtain ⟨b, o, ha, hc, hb⟩ := hW.r.x.at_ (i := k) (by omega)
  obtain ⟨c0, c1, c2, c3, c4, c5, c6, c7, c8, c9, c10, c11, c12, c13, c14, c15, c16, cf⟩ := hW.c
  rw [ha] at c12
  clear hW ha
  generalize m.next.getD k 0 = nx at *
  generalize m.next.length = nl at *
  go_enter Try.func78, Try.ntmps78
  go_wp2
  go_ret
  exact ⟨rfl, rfl⟩
/-- Granted, with one more. -/
def grantS (m : Mb) (who : Int) : Mb := { m with granted := (szM m.granted m.n.toNat false).set (who - 1).toNat true }
theorem Wk.store {w w1 : World} {B M G : Nat} {s s' : Ad} {m m' : Mb} {v : Value} {ts : List Ms} (h : Wk w B M s m v ts) (hb : Below w.heap.size w w1) (hG : w.heap.size ≤ G) {i : Nat} {x y : Value} {j : Nat} (hc : Wc ((w1.setCell ⟨M, j, none⟩ y).setCell ⟨G, i, none⟩ x) M s' m' v) (hr : MbV ((w1.setCell ⟨M, j, none⟩ y).setCell ⟨G, i, none⟩ x) (Pw B M v) s' m') : Wk ((w1.setCell ⟨M, j, none⟩ y).setCell ⟨G, i, none⟩ x) B M s' m' v ts ∧ Dn B M v v w ((w1.setCell ⟨M, j, none⟩ y).setCell ⟨G, i, none⟩ x) := by
  have hM := h.lt
  have keep : ∀ g, g < w.heap.size → g ≠ M → ((w1.setCell ⟨M, j, none⟩ y).setCell ⟨G, i, none⟩ x).heap[g]? = w.heap[g]? := fun g hg hne => (heap_other (by omega)).trans ((heap_other hne).trans (hb.block g hg))
  have hbel : Below B w ((w1.setCell ⟨M, j, none⟩ y).setCell ⟨G, i, none⟩ x) := ((hb.mono h.le).setCell (p := ⟨M, j, none⟩) h.bm _).setCell (p := ⟨G, i, none⟩) (Nat.le_trans h.le hG) _
  exact ⟨⟨hc, hr, h.o.kept (fun g hg => keep g (h.o.own g hg).2 fun e => h.om (by rw [hg, e])) (fun g hg _ hlt => ⟨keep g hlt hg.1, hg⟩), h.bm, h.om⟩, hbel, fun g hg hp => keep g hg hp.1, fun _ _ e => e⟩
theorem pw_new {w : World} {B M G : Nat} {s : Ad} {m : Mb} {v : Value} {ts : List Ms} (h : Wk w B M s m v ts) (hG : w.heap.size ≤ G) : Pw B M v G := ⟨⟨by have := h.lt; omega, fun e => by have := (h.o.own _ e).2; omega⟩, by have := h.lt; have := h.bm; omega⟩
/-- What grant leaves. -/
theorem granted {w w1 : World} {B M G : Nat} {s : Ad} {m : Mb} {v : Value} {ts : List Ms} (h : Wk w B M s m v ts) (n : Nat) (hn : m.n = n) (who : Int) (hG : w.heap.size ≤ G) (hN : Nr w1 G ((szM m.granted n false).map .bool)) (hb : Below w.heap.size w w1) : Wk ((w1.setCell ⟨M, 11, none⟩ (.slice (some ⟨G, 0, none⟩) n n)).setCell ⟨G, (who - 1).toNat, none⟩ (.bool true)) B M { s with ga := some ⟨G, 0, none⟩, gc := n } (grantS m who) v ts ∧ Dn B M v v w ((w1.setCell ⟨M, 11, none⟩ (.slice (some ⟨G, 0, none⟩) n n)).setCell ⟨G, (who - 1).toNat, none⟩ (.bool true)) := by
  have hM := h.lt
  have hl : (grantS m who).granted.length = n := by show ((szM m.granted m.n.toNat false).set _ _).length = _; rw [List.length_set, sz_len]; omega
  have keep : ∀ g, g < w.heap.size → g ≠ M → ((w1.setCell ⟨M, 11, none⟩ (.slice (some ⟨G, 0, none⟩) n n)).setCell ⟨G, (who - 1).toNat, none⟩ (.bool true)).heap[g]? = w.heap[g]? := fun g hg hne => (heap_other (by omega)).trans ((heap_other hne).trans (hb.block g hg))
  refine h.store hb hG ?_ ?_
  · have c := ((h.c.below hb).put 11 (.slice (some ⟨G, 0, none⟩) n n)).kept (w' := (w1.setCell ⟨M, 11, none⟩ (.slice (some ⟨G, 0, none⟩) n n)).setCell ⟨G, (who - 1).toNat, none⟩ (.bool true)) (heap_other (by omega))
    unfold Wc
    rw [hl]
    exact c
  · have hr := h.r.kept (w' := (w1.setCell ⟨M, 11, none⟩ (.slice (some ⟨G, 0, none⟩) n n)).setCell ⟨G, (who - 1).toNat, none⟩ (.bool true)) (Q := Pw B M v) fun g hp hlt => ⟨keep g hlt hp.1.1, hp⟩
    have hN2 := (hN.kept (w' := w1.setCell ⟨M, 11, none⟩ (.slice (some ⟨G, 0, none⟩) n n)) (heap_other (by omega)) (Nat.le_of_eq (size_set _ _ _).symm)).set (who - 1).toNat (.bool true)
    refine ⟨hr.e, hr.sn, hr.sP, ?_, fun _ x hx => by cases hx; exact pw_new h hG, hr.x, hr.xP, hr.t, hr.tP⟩
    have e : ((szM m.granted n false).map Value.bool).set (who - 1).toNat (.bool true) = (grantS m who).granted.map .bool := by
      show _ = ((szM m.granted m.n.toNat false).set _ _).map _
      rw [List.map_set, show m.n.toNat = n by omega]
    have q := hN2.rd
    rw [e, List.length_map, hl] at q
    exact q
set_option maxRecDepth 100000 in
set_option maxHeartbeats 800000 in
theorem grant_any {w : World} {B M : Nat} {s : Ad} {m : Mb} {v : Value} {ts : List Ms} (hW : Wk w B M s m v ts) (n : Nat) (hn : m.n = n) (hn2 : n ≤ 100) (who : Int) (h1 : 1 ≤ who) (h2 : who ≤ n) : Calls Try.prog 64 #[.pointer (some ⟨M, 0, none⟩), .int .i64 who] w fun e w' => e = .returned (.tuple #[]) ∧ ∃ ga, Wk w' B M { s with ga := ga, gc := n } (grantS m who) v ts ∧ Dn B M v v w w' := by
  have HW : Hid (Wk w B M s m v ts) := hW
  have hM := hW.lt
  obtain ⟨k, rfl⟩ : ∃ k : Nat, who = (k : Int) + 1 := ⟨(who - 1).toNat, by omega⟩
  have HS : Hid (∀ wx, Below w.heap.size w wx → Calls Try.prog 81 #[.slice s.ga m.granted.length s.gc, .int .i64 (n : Int)] wx (SzP ((szM m.granted n false).map .bool) n wx)) := fun wx h => sizedB_any (hW.r.g.below h) n hn2
  have HD : Hid (∀ w1 G, w.heap.size ≤ G → Nr w1 G ((szM m.granted n false).map .bool) → Below w.heap.size w w1 → Wk ((w1.setCell ⟨M, 11, none⟩ (.slice (some ⟨G, 0, none⟩) n n)).setCell ⟨G, k, none⟩ (.bool true)) B M { s with ga := some ⟨G, 0, none⟩, gc := n } (grantS m ((k : Int) + 1)) v ts ∧ Dn B M v v w ((w1.setCell ⟨M, 11, none⟩ (.slice (some ⟨G, 0, none⟩) n n)).setCell ⟨G, k, none⟩ (.bool true))) := fun w1 G q1 q2 q3 => by have := granted hW n hn ((k : Int) + 1) q1 q2 q3; rw [show ((k : Int) + 1 - 1).toNat = k by omega] at this; exact this
  have HCl : Hid (∀ w1, Below w.heap.size w w1 → Wc w1 M s m v) := fun w1 q => hW.c.below q
  have HN : Hid (∀ w1 G, Nr w1 G ((szM m.granted n false).map .bool) → ∃ u, w1.cell? ⟨G, k, none⟩ = some u) := fun w1 G q => by
    have hi : k < ((szM m.granted n false).map Value.bool).length := by rw [List.length_map, sz_len]; omega
    exact ⟨_, (q.cell hi).trans (List.getElem?_eq_getElem hi)⟩
  obtain ⟨c0, c1, c2, c3, c4, c5, c6, c7, c8, c9, c10, c11, c12, c13, c14, c15, c16, cf⟩ := hW.c
  rw [hn] at c1
  clear hW
  generalize ((szM m.granted n false).map Value.bool) = vs at *
  generalize grantS m ((k : Int) + 1) = m' at *
  have hk1 : ((k : Nat) : Int) < n := by omega
  have hk2 : (0 : Int) ≤ (k : Nat) := by omega
  generalize m.granted.length = gl at *
  go_enter Try.func64, Try.ntmps64
  go_wp2
  go_region_with (go_at_call 81; refine (HS.out _ (Below.refl _ _).drew).mono ?_; rintro e w1 ⟨G, rfl, q1, q2, q3⟩; have HB : Hid (Below w.heap.size w w1) := (Below.refl _ _).drew.trans q3; have HF := HD.out w1 G q1 q2 HB.out; have HE : Hid (Wk ((w1.setCell ⟨M, 11, none⟩ (.slice (some ⟨G, 0, none⟩) n n)).setCell ⟨G, k, none⟩ (.bool true)) B M { s with ga := some ⟨G, 0, none⟩, gc := n } m' v ts ∧ Dn B M v v w ((w1.setCell ⟨M, 11, none⟩ (.slice (some ⟨G, 0, none⟩) n n)).setCell ⟨G, k, none⟩ (.bool true))) := HF; obtain ⟨u, hu⟩ := HN.out w1 G q2; have hfr := q2.free; have hGl : G < w1.heap.size := q2.lt; have hGM : G ≠ M := (by have : w.heap.size ≤ G := q1; omega); have hMG : M ≠ G := (by have : w.heap.size ≤ G := q1; omega); clear HF q2 q3; obtain ⟨d0, d1, d2, d3, d4, d5, d6, d7, d8, d9, d10, d11, d12, d13, d14, d15, d16, df⟩ := (HCl.out w1 HB.out))
  all_goals (
    go_wp2
    first | (refine bodyPost_end (results_none rfl _ _ _) rfl ?_) | (refine bodyPost_ret (results_none rfl _ _ _) rfl ?_)
    exact ⟨rfl, _, HE.out⟩)
end
end Go.Proofs.Ytfmfphfckaiejaa
