/-
  The program's tellAll, sendAll: contracts.
-/
import Derived.Test.YtfmfphfckaiejaaJar
import Derived.Test.YtfmfphfckaiejaaJaq
namespace Go.Proofs.Ytfmfphfckaiejaa
section
open Go.RowKit
set_option linter.unusedVariables false


/-- What a member at work is, some messages on. -/
def On (w : World) (B M : Nat) (s : Ad) (m : Mb) (v : Value) (ts : List Ms) (wr : World) : Prop := ∃ v', Wk wr B M s m v' ts ∧ Dn B M v v' w wr
/-- A list that lies beside, kept. -/
theorem Dn.list {B M : Nat} {v v' : Value} {w0 w w' : World} {a : Option Addr} {c : Nat} {l : List Int} (h : Dn B M v v' w w') (hl : IlV w a c l) (hp : PV (fun g => w0.heap.size ≤ g) a l.length) (hP : ∀ g, w0.heap.size ≤ g → Pw B M v g) : IlV w' a c l :=
  (hl.kept (P := fun g => w0.heap.size ≤ g) (Q := fun _ => True) hp fun g hg hlt => ⟨h.k g hlt (hP g hg).1, trivial⟩).1
theorem take_map_succ {l : List Int} {i : Nat} (f : Int → Ms) (h : i < l.length) : (l.take (i + 1)).map f = (l.take i).map f ++ [f (l.getD i 0)] := by
  rw [List.take_succ_eq_append_getElem h, List.map_append, List.getD_eq_getElem?_getD, List.getElem?_eq_getElem h]
  rfl
set_option maxRecDepth 100000 in
set_option maxHeartbeats 800000 in
theorem tellAll_any {w : World} {B M : Nat} {s : Ad} {m : Mb} {v : Value} {ts : List Ms} (hW : Wk w B M s m v ts) (n : Nat) (hn : m.n = n) (hn2 : n ≤ 100) (h2 : m.next.length = n) (hb1 : 0 ≤ m.b) (hb2 : m.b ≤ 2000000) (hes : Small m.es) (hs : m.snap.length ≤ 1000) (hx : ∀ i, i < n → m.next.getD i 0 ≤ 2000000) (hl : ts.length ≤ 700) : Calls Try.prog 46 #[.pointer (some ⟨M, 0, none⟩)] w fun e w' => e = .returned (.tuple #[]) ∧ ∃ v', Wk w' B M s m v' (ts ++ tellAllM m) ∧ Dn B M v v' w w' := by
  have hM := hW.lt
  have e0 : tellAllM m = (othM m.id n).map (tellM m) := by unfold tellAllM; rw [oth_to, hn, Int.toNat_natCast]
  rw [e0]
  have HO : Hid (Calls Try.prog 62 #[.pointer (some ⟨M, 0, none⟩)] w fun e w' => ∃ a c, e = .returned (.slice a (othM m.id n).length c) ∧ IlV w' a c (othM m.id n) ∧ PV (fun g => w.heap.size ≤ g) a (othM m.id n).length ∧ Below w.heap.size w w') := others_any hW n hn hn2
  have HB : Hid (∀ g, w.heap.size ≤ g → Pw B M v g) := pw_big hW
  have HSt : Hid (∀ w1, Below w.heap.size w w1 → On w1 B M s m v (ts ++ ((othM m.id n).take 0).map (tellM m)) w1 ∧ Dn B M v v w w1) := fun w1 q => ⟨⟨v, by rw [List.take_zero, List.map_nil, List.append_nil]; exact hW.below q, Dn.refl _ _ _ _⟩, Dn.below q hW.le⟩
  have hln := oth_len m.id n
  have HT : Hid (∀ w1 wr i, i < (othM m.id n).length → On w1 B M s m v (ts ++ ((othM m.id n).take i).map (tellM m)) wr → Calls Try.prog 63 #[.pointer (some ⟨M, 0, none⟩), .int .i64 ((othM m.id n).getD i 0)] wr fun e w' => e = .returned (.tuple #[]) ∧ On w1 B M s m v (ts ++ ((othM m.id n).take (i + 1)).map (tellM m)) w') := fun w1 wr i hi ⟨v1, q1, q2⟩ => by
    have hmem : (othM m.id n).getD i 0 ∈ othM m.id n := by rw [List.getD_eq_getElem?_getD, List.getElem?_eq_getElem hi]; exact List.getElem_mem hi
    obtain ⟨r1, r2, r3⟩ := oth_mem hmem
    refine (tell_any q1 _ r1 (by omega) (by omega) hb1 hb2 hes hs (hx _ (by omega)) ?_).mono fun e w' ⟨z1, v2, z2, z3⟩ => ⟨z1, v2, ?_, q2.trans z3⟩
    · rw [List.length_append, List.length_map, List.length_take]; omega
    · rw [take_map_succ _ hi, ← List.append_assoc]; exact z2
  have HE : Hid (∀ w1 wr i, i = (othM m.id n).length → On w1 B M s m v (ts ++ ((othM m.id n).take i).map (tellM m)) wr → Dn B M v v w w1 → ∃ v', Wk wr B M s m v' (ts ++ (othM m.id n).map (tellM m)) ∧ Dn B M v v' w wr) := fun w1 wr i hi ⟨v1, q1, q2⟩ q3 => ⟨v1, by rw [List.take_of_length_le (by omega)] at q1; exact q1, q3.trans q2⟩
  clear hW e0
  generalize hL : othM m.id n = L at *
  generalize (ts ++ L.map (tellM m)) = out at *
  generalize hll : L.length = ll at *
  go_enter Try.func46, Try.ntmps46
  go_wp2_with (go_at_call 62; refine HO.out.mono ?_; rintro e w1 ⟨a, c, rfl, q1, q2, q3⟩; have H1 : Hid (IlV w1 a c L ∧ PV (fun g => w.heap.size ≤ g) a L.length ∧ Below w.heap.size w w1) := ⟨q1, by rw [hll]; exact q2, q3⟩; have hc1 := q1.cap1; have hc2 := q1.cap2; clear q1 q2 q3)
  rw [hll] at hc1
  go_loopw [7] (fun y wr => ∃ i : Nat, i ≤ ll ∧ y = .int .i64 i ∧ Hid (On w1 B M s m v (ts ++ (L.take i).map (tellM m)) wr)) (fun y _ => ll - (intOf y).toNat)
  case atStart => exact ⟨0, Nat.zero_le _, rfl, (HSt.out w1 H1.out.2.2).1⟩
  case round =>
    obtain ⟨i, hi, rfl, HR⟩ := hrel
    by_cases hlt : i < ll
    · have HL : Hid (IlV wr a c L) := by
        obtain ⟨v1, q1, q2⟩ := HR.out
        exact q2.list H1.out.1 H1.out.2.1 HB.out
      obtain ⟨b, o, rfl, y1, y2⟩ := HL.out.at_ (i := i) (by omega)
      have HTi := HT.out w1 wr i hlt HR.out
      have HT2 : Hid (Calls Try.prog 63 #[.pointer (some ⟨M, 0, none⟩), .int .i64 (L.getD i 0)] wr fun e w' => e = .returned (.tuple #[]) ∧ On w1 B M s m v (ts ++ (L.take (i + 1)).map (tellM m)) w') := HTi
      clear HTi
      generalize L.getD i 0 = who at *
      go_wp2_with (go_at_call 63; refine HT2.out.mono ?_; rintro e w2 ⟨rfl, q⟩; have H2 : Hid (On w1 B M s m v (ts ++ (L.take (i + 1)).map (tellM m)) w2) := q; clear q)
      go_roundw
      case rel => exact ⟨i + 1, by omega, by go_num, H2.out⟩
      case measure => simp [intOf]; omega
    · have HF : Hid (∃ v', Wk wr B M s m v' out ∧ Dn B M v v' w wr) := HE.out w1 wr i (by omega) HR.out (HSt.out w1 H1.out.2.2).2
      go_wp2
      first | (refine bodyPost_end (results_none rfl _ _ _) rfl ?_) | (refine bodyPost_ret (results_none rfl _ _ _) rfl ?_)
      exact ⟨rfl, HF.out⟩
/-- A message without lists, from one to another. -/
def ftM (m : Mb) (x : Ms) (to : Int) : Ms := { x with frm := m.id, to := to }
set_option maxRecDepth 100000 in
set_option maxHeartbeats 800000 in
theorem sendAll_any {w : World} {B M : Nat} {s : Ad} {m : Mb} {v : Value} {ts : List Ms} (hW : Wk w B M s m v ts) (n : Nat) (hn : m.n = n) (hn2 : n ≤ 100) (x : Ms) (hx1 : x.ents = []) (hx2 : x.data = []) (hl : ts.length ≤ 700) : Calls Try.prog 66 #[.pointer (some ⟨M, 0, none⟩), msA zAx x] w fun e w' => e = .returned (.tuple #[]) ∧ ∃ v', Wk w' B M s m v' (ts ++ toM m.id (ftM m x) n) ∧ Dn B M v v' w w' := by
  have hM := hW.lt
  rw [oth_to]
  have hX : ∀ (wx : World) (P : Nat → Prop), MsV wx P zAx x := fun wx P => ⟨by rw [hx1]; exact EnsV.nil _ _, by rw [hx2]; exact ReadsV.nil _, by rw [hx2]; exact PV.none _ _⟩
  obtain ⟨bx, hbx⟩ : ∃ bx, Obj.cells (msCells zAx x).toArray 79 = bx := ⟨_, rfl⟩
  have hW1 : Wk (w.alloc bx) B M s m v ts := hW.alloc bx
  have HO : Hid (Calls Try.prog 62 #[.pointer (some ⟨M, 0, none⟩)] (w.alloc bx) fun e w' => ∃ a c, e = .returned (.slice a (othM m.id n).length c) ∧ IlV w' a c (othM m.id n) ∧ PV (fun g => (w.alloc bx).heap.size ≤ g) a (othM m.id n).length ∧ Below (w.alloc bx).heap.size (w.alloc bx) w') := others_any hW1 n hn hn2
  have HB : Hid (∀ g, (w.alloc bx).heap.size ≤ g → Pw B M v g) := pw_big hW1
  have HSt : Hid (∀ w1, Below (w.alloc bx).heap.size (w.alloc bx) w1 → On w1 B M s m v (ts ++ ((othM m.id n).take 0).map (ftM m x)) w1 ∧ Dn B M v v w w1) := fun w1 q => ⟨⟨v, by rw [List.take_zero, List.map_nil, List.append_nil]; exact hW1.below q, Dn.refl _ _ _ _⟩, Dn.below (b1 q) hW.le⟩
  have hln := oth_len m.id n
  have HT : Hid (∀ w1 wr i, i < (othM m.id n).length → On w1 B M s m v (ts ++ ((othM m.id n).take i).map (ftM m x)) wr → Calls Try.prog 79 #[.pointer (some ⟨M, 0, none⟩), .int .i64 ((othM m.id n).getD i 0), msA zAx x] wr fun e w' => e = .returned (.tuple #[]) ∧ On w1 B M s m v (ts ++ ((othM m.id n).take (i + 1)).map (ftM m x)) w') := fun w1 wr i hi ⟨v1, q1, q2⟩ => by
    refine (send_any q1 _ zAx x (hX _ _) ?_).mono fun e w' ⟨z1, v2, z2, z3⟩ => ⟨z1, v2, ?_, q2.trans z3⟩
    · rw [List.length_append, List.length_map, List.length_take]; omega
    · rw [take_map_succ _ hi, ← List.append_assoc]; exact z2
  have HE : Hid (∀ w1 wr i, i = (othM m.id n).length → On w1 B M s m v (ts ++ ((othM m.id n).take i).map (ftM m x)) wr → Dn B M v v w w1 → ∃ v', Wk wr B M s m v' (ts ++ (othM m.id n).map (ftM m x)) ∧ Dn B M v v' w wr) := fun w1 wr i hi ⟨v1, q1, q2⟩ q3 => ⟨v1, by rw [List.take_of_length_le (by omega)] at q1; exact q1, q3.trans q2⟩
  have HXb : Hid (∀ w1 wr v1, Below (w.alloc bx).heap.size (w.alloc bx) w1 → Dn B M v v1 w1 wr → Xc wr w.heap.size zAx x) := fun w1 wr v1 q1 q2 => by
    have h1 : Xc (w.alloc bx) w.heap.size zAx x := by rw [← hbx]; exact Cl11.new w _ _ _ _ _ _ _ _ _ _ _ _
    have h2 := h1.below q1
    exact h2.kept (q2.k _ h2.lt (pw_big hW _ (Nat.le_refl _)).1)
  unfold msA at HT ⊢
  clear hW hW1 hX hx1 hx2
  generalize hL : othM m.id n = L at *
  generalize (ts ++ L.map (ftM m x)) = out at *
  generalize hll : L.length = ll at *
  subst hbx
  go_enter Try.func66, Try.ntmps66
  go_wp2_with (go_at_call 62; (refine HO.out.mono ?_; rintro e w1 ⟨a, c, rfl, q1, q2, q3⟩; have H1 : Hid (IlV w1 a c L ∧ PV (fun g => (w.alloc (Obj.cells (msCells zAx x).toArray 79)).heap.size ≤ g) a L.length ∧ Below (w.alloc (Obj.cells (msCells zAx x).toArray 79)).heap.size (w.alloc (Obj.cells (msCells zAx x).toArray 79)) w1) := ⟨q1, by rw [hll]; exact q2, q3⟩; have hc1 := q1.cap1; have hc2 := q1.cap2; clear q1 q2 q3))
  rw [hll] at hc1
  go_loopw [9] (fun y wr => ∃ i : Nat, i ≤ ll ∧ y = .int .i64 i ∧ Hid (On w1 B M s m v (ts ++ (L.take i).map (ftM m x)) wr)) (fun y _ => ll - (intOf y).toNat)
  case atStart => exact ⟨0, Nat.zero_le _, rfl, (HSt.out w1 H1.out.2.2).1⟩
  case round =>
    obtain ⟨i, hi, rfl, HR⟩ := hrel
    by_cases hlt : i < ll
    · have HL : Hid (IlV wr a c L ∧ Xc wr w.heap.size zAx x) := by
        obtain ⟨v1, q1, q2⟩ := HR.out
        exact ⟨q2.list H1.out.1 H1.out.2.1 HB.out, HXb.out w1 wr v1 H1.out.2.2 q2⟩
      obtain ⟨b, o, rfl, y1, y2⟩ := HL.out.1.at_ (i := i) (by omega)
      obtain ⟨x0, x1, x2, x3, x4, x5, x6, x7, x8, x9, x10, xf⟩ := HL.out.2
      have HTi := HT.out w1 wr i hlt HR.out
      have HT2 : Hid (Calls Try.prog 79 #[.pointer (some ⟨M, 0, none⟩), .int .i64 (L.getD i 0), .agg #[.int .i64 x.kind, .int .i64 x.grp, .int .i64 x.frm, .int .i64 x.to, .int .i64 x.term, .int .i64 x.at_, .int .i64 x.att, .int .i64 x.commit, .bool x.ok, .slice zAx.ea x.ents.length zAx.ec, .slice zAx.da x.data.length zAx.dc]] wr fun e w' => e = .returned (.tuple #[]) ∧ On w1 B M s m v (ts ++ (L.take (i + 1)).map (ftM m x)) w') := HTi
      clear HTi
      generalize L.getD i 0 = who at *
      go_wp2_with (go_at_call 79; refine HT2.out.mono ?_; rintro e w2 ⟨rfl, q⟩; have H2 : Hid (On w1 B M s m v (ts ++ (L.take (i + 1)).map (ftM m x)) w2) := q; clear q)
      go_roundw
      case rel => exact ⟨i + 1, by omega, by go_num, H2.out⟩
      case measure => simp [intOf]; omega
    · have HF : Hid (∃ v', Wk wr B M s m v' out ∧ Dn B M v v' w wr) := HE.out w1 wr i (by omega) HR.out (HSt.out w1 H1.out.2.2).2
      go_wp2
      first | (refine bodyPost_end (results_none rfl _ _ _) rfl ?_) | (refine bodyPost_ret (results_none rfl _ _ _) rfl ?_)
      exact ⟨rfl, HF.out⟩
end
section
open Go.RowKit
set_option linter.unusedVariables false


theorem Wk.gen {w wz : World} {B M : Nat} {s s' : Ad} {m m' : Mb} {v : Value} {ts : List Ms} (h : Wk w B M s m v ts) (hk : ∀ g, g < w.heap.size → g ≠ M → wz.heap[g]? = w.heap[g]?) (hb : Below B w wz) (hc : Wc wz M s' m' v) (hr : MbV wz (Pw B M v) s' m') : Wk wz B M s' m' v ts ∧ Dn B M v v w wz :=
  ⟨⟨hc, hr, h.o.kept (fun g hg => hk g (h.o.own g hg).2 fun e => h.om (by rw [hg, e])) (fun g hg _ hlt => ⟨hk g hlt hg.1, hg⟩), h.bm, h.om⟩, hb, fun g hg hp => hk g hg hp.1, fun _ _ e => e⟩
theorem Wk.rk {w wz : World} {B M : Nat} {s : Ad} {m : Mb} {v : Value} {ts : List Ms} (h : Wk w B M s m v ts) (hk : ∀ g, g < w.heap.size → g ≠ M → wz.heap[g]? = w.heap[g]?) : MbV wz (Pw B M v) s m := h.r.kept fun g hp hlt => ⟨hk g hlt hp.1.1, hp⟩
/-- A log is put. -/
theorem Wk.log {w w1 : World} {B M : Nat} {s : Ad} {m : Mb} {v : Value} {ts : List Ms} (h : Wk w B M s m v ts) (hb : Below w.heap.size w w1) (b bt : Int) (es : List En) {ra : Option Addr} {rc : Nat} (hE : EnsV w1 (fun g => w.heap.size ≤ g) ra rc es) : Wk (((w1.setCell ⟨M, 6, none⟩ (.int .i64 b)).setCell ⟨M, 7, none⟩ (.int .i64 bt)).setCell ⟨M, 8, none⟩ (.slice ra es.length rc)) B M { s with ea := ra, ec := rc } { m with b := b, bt := bt, es := es } v ts ∧ Dn B M v v w (((w1.setCell ⟨M, 6, none⟩ (.int .i64 b)).setCell ⟨M, 7, none⟩ (.int .i64 bt)).setCell ⟨M, 8, none⟩ (.slice ra es.length rc)) := by
  have hM := h.lt
  have hk : ∀ g, g < w.heap.size → g ≠ M → (((w1.setCell ⟨M, 6, none⟩ (.int .i64 b)).setCell ⟨M, 7, none⟩ (.int .i64 bt)).setCell ⟨M, 8, none⟩ (.slice ra es.length rc)).heap[g]? = w.heap[g]? := fun g hg hne => (heap_other hne).trans ((heap_other hne).trans ((heap_other hne).trans (hb.block g hg)))
  have hr := h.rk hk
  refine h.gen hk ((((hb.mono h.le).setCell (p := ⟨M, 6, none⟩) h.bm _).setCell (p := ⟨M, 7, none⟩) h.bm _).setCell (p := ⟨M, 8, none⟩) h.bm _) ((((h.c.below hb).put 6 _).put 7 _).put 8 _) ⟨?_, hr.sn, hr.sP, hr.g, hr.gP, hr.x, hr.xP, hr.t, hr.tP⟩
  exact hE.kept fun g hg _ => ⟨(heap_other (by omega)).trans ((heap_other (by omega)).trans (heap_other (by omega))), pw_big h g hg⟩
theorem Nr.ints {w : World} {G n : Nat} {l : List Int} (h : Nr w G (l.map (.int .i64))) (hn : n = l.length) (hr : ∀ i, i < l.length → InR (l.getD i 0)) : IlV w (some ⟨G, 0, none⟩) n l := by
  have := h.rd
  rw [List.length_map, ← hn] at this
  exact ⟨this, hr⟩
/-- Match is made anew, and one of it put. -/
theorem Wk.matched {w w1 wb : World} {B M G : Nat} {s : Ad} {m : Mb} {v : Value} {ts : List Ms} (h : Wk w B M s m v ts) (n : Nat) (hn : m.mtch.length = n) (i : Nat) (x : Int) (hx : InR x) (hG : w.heap.size ≤ G) (hb : Below w.heap.size w w1) (hN : Nr w1 G (m.mtch.map (.int .i64))) (hb2 : Below (w1.setCell ⟨M, 13, none⟩ (.slice (some ⟨G, 0, none⟩) n n)).heap.size (w1.setCell ⟨M, 13, none⟩ (.slice (some ⟨G, 0, none⟩) n n)) wb) : Wk (wb.setCell ⟨G, i, none⟩ (.int .i64 x)) B M { s with ma := some ⟨G, 0, none⟩, mc := n } { m with mtch := m.mtch.set i x } v ts ∧ Dn B M v v w (wb.setCell ⟨G, i, none⟩ (.int .i64 x)) := by
  have hM := h.lt
  have hs1 := hb.size
  have hs2 := hb2.size
  rw [size_set] at hs2
  have e2 : ∀ g, g < w1.heap.size → wb.heap[g]? = (w1.setCell ⟨M, 13, none⟩ (.slice (some ⟨G, 0, none⟩) n n)).heap[g]? := fun g hg => hb2.block g (by rw [size_set]; exact hg)
  have hk : ∀ g, g < w.heap.size → g ≠ M → (wb.setCell ⟨G, i, none⟩ (.int .i64 x)).heap[g]? = w.heap[g]? := fun g hg hne => (heap_other (by omega)).trans ((e2 g (by omega)).trans ((heap_other hne).trans (hb.block g hg)))
  have hr := h.rk hk
  have hc : Wc (wb.setCell ⟨G, i, none⟩ (.int .i64 x)) M { s with ma := some ⟨G, 0, none⟩, mc := n } { m with mtch := m.mtch.set i x } v := by
    have c := (((h.c.below hb).put 13 (.slice (some ⟨G, 0, none⟩) n n)).kept (e2 M (by omega))).kept (w' := wb.setCell ⟨G, i, none⟩ (.int .i64 x)) (heap_other (by omega))
    show Cl17 _ _ _ _ _ _ _ _ _ _ _ _ _ _ _ (.slice (some ⟨G, 0, none⟩) (m.mtch.set i x).length n) _ _ _
    rw [List.length_set, hn]
    exact c
  have hN2 := ((hN.kept (w' := wb) ((e2 G hN.lt).trans (heap_other (by omega))) (by omega)).set i (.int .i64 x))
  rw [show (m.mtch.map (Value.int .i64)).set i (.int .i64 x) = (m.mtch.set i x).map (.int .i64) by rw [List.map_set]] at hN2
  refine h.gen hk (((hb.mono h.le).setCell (p := ⟨M, 13, none⟩) h.bm _).trans (hb2.mono (by rw [size_set]; have := h.le; omega)) |>.setCell (p := ⟨G, i, none⟩) (Nat.le_trans h.le hG) _) hc ⟨hr.e, hr.sn, hr.sP, hr.g, hr.gP, hr.x, hr.xP, ?_, fun _ y hy => by cases hy; exact pw_new h hG⟩
  refine hN2.ints (by show _ = (m.mtch.set i x).length; rw [List.length_set, hn]) fun j hj => ?_
  have hj : j < m.mtch.length := by have : j < (m.mtch.set i x).length := hj; rwa [List.length_set] at this
  rw [List.getD_eq_getElem?_getD, List.getElem?_set]
  split
  · rw [if_pos (by omega)]; exact hx
  · rw [← List.getD_eq_getElem?_getD]; exact h.r.t.inr j hj
theorem Wk.mtchOnly {w w1 : World} {B M G : Nat} {s : Ad} {m : Mb} {v : Value} {ts : List Ms} (h : Wk w B M s m v ts) (n : Nat) (hn : m.mtch.length = n) (hG : w.heap.size ≤ G) (hb : Below w.heap.size w w1) (hN : Nr w1 G (m.mtch.map (.int .i64))) : Wc (w1.setCell ⟨M, 13, none⟩ (.slice (some ⟨G, 0, none⟩) n n)) M { s with ma := some ⟨G, 0, none⟩, mc := n } m v ∧ EnsV (w1.setCell ⟨M, 13, none⟩ (.slice (some ⟨G, 0, none⟩) n n)) (Pw B M v) s.ea s.ec m.es ∧ Nr (w1.setCell ⟨M, 13, none⟩ (.slice (some ⟨G, 0, none⟩) n n)) G (m.mtch.map (.int .i64)) := by
  have hM := h.lt
  refine ⟨?_, h.r.e.kept fun g hp hlt => ⟨(heap_other hp.1.1).trans (hb.block g hlt), hp⟩, hN.kept (heap_other (by omega)) (Nat.le_of_eq (size_set _ _ _).symm)⟩
  have c := (h.c.below hb).put 13 (.slice (some ⟨G, 0, none⟩) n n)
  show Cl17 _ _ _ _ _ _ _ _ _ _ _ _ _ _ _ (.slice (some ⟨G, 0, none⟩) m.mtch.length n) _ _ _
  rw [hn]
  exact c
end
section
open Go.RowKit
set_option linter.unusedVariables false


/-- What is to be known of a member that puts an entry behind. -/
structure Pre (m : Mb) (n : Nat) : Prop where
  nn : m.n = n
  n2 : n ≤ 100
  i1 : 1 ≤ m.id
  i2 : m.id ≤ n
  xl : m.next.length = n
  ml : m.mtch.length = n
  b1 : 0 ≤ m.b
  b2 : m.b ≤ 1500000
  es : Small m.es
  el : m.es.length ≤ 900
  t : InR m.term
  sn : m.snap.length ≤ 1000
  x : ∀ i, i < n → m.next.getD i 0 ≤ 2000000
theorem small_add {es : List En} {e : En} (h : Small es) (h1 : es.length ≤ 900) (h2 : e.2.length ≤ 1000) : Small (es ++ [e]) := by
  refine ⟨by rw [List.length_append]; simp; omega, fun j hj => ?_⟩
  rw [List.length_append, List.length_singleton] at hj
  by_cases q : j < es.length
  · rw [getD_leftA q]; exact h.2 j q
  · obtain rfl : j = es.length + 0 := by omega
    rw [getD_rightA]; exact Nat.le_trans h2 (by decide)
set_option maxRecDepth 100000 in
set_option maxHeartbeats 1600000 in
theorem putBehind_any {w : World} {B M : Nat} {s : Ad} {m : Mb} {v : Value} {ts : List Ms} (hW : Wk w B M s m v ts) (n : Nat) (hp : Pre m n) (da : Option Addr) (dc : Nat) (data : BB) (hd : ReadsV w (.slice da data.length dc) data) (hdl : data.length ≤ 1000) (hl : ts.length ≤ 700) : Calls Try.prog 48 #[.pointer (some ⟨M, 0, none⟩), .slice da data.length dc] w fun e w' => e = .returned (.tuple #[]) ∧ ∃ s' v', Wk w' B M s' (behindM m data).1 v' (ts ++ (behindM m data).2) ∧ Dn B M v v' w w' := by
  have hM := hW.lt
  obtain ⟨k, hk⟩ : ∃ k : Nat, m.id = (k : Int) + 1 := ⟨(m.id - 1).toNat, by have := hp.i1; omega⟩
  have hkn : k < n := by have := hp.i2; omega
  have hn2 := hp.n2
  have hb1 := hp.b1
  have hb2 := hp.b2
  have hel := hp.el
  have HBe : Hid (∀ wx, Below w.heap.size w wx → Calls Try.prog 68 #[.agg #[.int .i64 m.b, .int .i64 m.bt, .slice s.ea m.es.length s.ec], .agg #[.int .i64 m.term, .slice da data.length dc]] wx (LogP m.b m.bt (m.es ++ [(m.term, data)]) wx)) := fun wx h => Behind_any _ m.b m.bt s.ea s.ec m.es (m.term, data) da dc wx (hW.r.e.below h) hp.es hp.t (hd.below h) (Nat.le_trans hdl (by decide))
  have HCl : Hid (∀ w1, Below w.heap.size w w1 → Wc w1 M s m v) := fun w1 q => hW.c.below q
  have HS1 : Hid (∀ w1 ra rc, EnsV w1 (fun g => w.heap.size ≤ g) ra rc (m.es ++ [(m.term, data)]) → Below w.heap.size w w1 → Wk (((w1.setCell ⟨M, 6, none⟩ (.int .i64 m.b)).setCell ⟨M, 7, none⟩ (.int .i64 m.bt)).setCell ⟨M, 8, none⟩ (.slice ra (m.es ++ [(m.term, data)]).length rc)) B M { s with ea := ra, ec := rc } { m with es := m.es ++ [(m.term, data)] } v ts ∧ Dn B M v v w (((w1.setCell ⟨M, 6, none⟩ (.int .i64 m.b)).setCell ⟨M, 7, none⟩ (.int .i64 m.bt)).setCell ⟨M, 8, none⟩ (.slice ra (m.es ++ [(m.term, data)]).length rc))) := fun w1 ra rc q1 q2 => hW.log q2 m.b m.bt _ q1
  have hlen : (m.es ++ [(m.term, data)]).length = m.es.length + 1 := by simp
  have HAd : Hid ({ m with es := m.es ++ [(m.term, data)], mtch := m.mtch.set k (m.b + ((m.es ++ [(m.term, data)]).length : Nat)) } = addM m data) := by
    show _ = _
    unfold addM Mb.last
    rw [hlen, hk, show ((k : Int) + 1 - 1).toNat = k by omega, show m.b + ((m.es.length + 1 : Nat) : Int) = m.b + m.es.length + 1 by omega]
  have hsm : Small (m.es ++ [(m.term, data)]) := small_add hp.es hp.el hdl
  have HLo : Hid (∀ W4 s4, Wk W4 B M s4 (addM m data) v ts → Calls Try.prog 70 #[.pointer (some ⟨M, 0, none⟩)] W4 fun e w' => e = .returned (.tuple #[]) ∧ Wk w' B M s4 (lookM (addM m data)) v ts ∧ Dn B M v v W4 w') := fun W4 s4 q => look_any q hb1 (by show m.b ≤ _; omega) (by show (m.es ++ [(m.term, data)]).length ≤ _; omega) (by show (m.mtch.set _ _).length ≤ _; rw [List.length_set]; have := hp.ml; omega)
  have HTa : Hid (∀ W5 s5, Wk W5 B M s5 (lookM (addM m data)) v ts → Calls Try.prog 46 #[.pointer (some ⟨M, 0, none⟩)] W5 fun e w' => e = .returned (.tuple #[]) ∧ ∃ v', Wk w' B M s5 (lookM (addM m data)) v' (ts ++ tellAllM (lookM (addM m data))) ∧ Dn B M v v' W5 w') := fun W5 s5 q => tellAll_any q n hp.nn hn2 hp.xl hb1 (by show m.b ≤ _; omega) hsm hp.sn hp.x hl
  have HEn : Hid (∀ w', (∃ s' v', Wk w' B M s' (lookM (addM m data)) v' (ts ++ tellAllM (lookM (addM m data))) ∧ Dn B M v v' w w') → ∃ s' v', Wk w' B M s' (behindM m data).1 v' (ts ++ (behindM m data).2) ∧ Dn B M v v' w w') := fun w' q => q
  have HSz : Hid (∀ wx, IlV wx s.ma s.mc m.mtch → Calls Try.prog 69 #[.slice s.ma m.mtch.length s.mc, .int .i64 (n : Int)] wx (SzP (m.mtch.map (.int .i64)) n wx)) := fun wx h => by
    have := sizedN_any h n hn2
    rw [sz_self _ hp.ml] at this
    exact this
  have HLa : Hid (∀ wx ra rc, Calls Try.prog 49 #[.agg #[.int .i64 m.b, .int .i64 m.bt, .slice ra (m.es ++ [(m.term, data)]).length rc]] wx fun e w' => e = .returned (.int .i64 (m.b + ((m.es ++ [(m.term, data)]).length : Nat))) ∧ Below wx.heap.size wx w') := fun wx ra rc => Last_any m.b m.bt ra _ rc wx hb1 (by omega) (by omega)
  have HIx : Hid (InR (m.b + ((m.es ++ [(m.term, data)]).length : Nat))) := ⟨by omega, by omega⟩
  have HML : Hid (m.mtch.length = n) := hp.ml
  have hpn := hp.nn
  obtain ⟨c0, c1, c2, c3, c4, c5, c6, c7, c8, c9, c10, c11, c12, c13, c14, c15, c16, cf⟩ := hW.c
  clear hW hp hd hsm hlen
  have hk1 : ((k : Nat) : Int) < (n : Nat) := by omega
  have hk2 : (0 : Int) ≤ (k : Nat) := by omega
  have hk3 : IntKind.i64.wrap (k : Int) = k := by rw [IntKind.wrap_i64]; omega
  generalize m.es ++ [(m.term, data)] = es' at *
  generalize lookM (addM m data) = m2 at *
  generalize addM m data = m1 at *
  generalize (behindM m data).1 = mF at *
  generalize (behindM m data).2 = out at *
  go_enter Try.func48, Try.ntmps48
  go_wp2
  go_region_with (go_at_call 68; refine (HBe.out _ (Below.refl _ _).drew).mono ?_; rintro e w1 ⟨ra, rc, rfl, HE, HB⟩; have H1 : Hid (EnsV w1 (fun g => w.heap.size ≤ g) ra rc es' ∧ Below w.heap.size w w1) := ⟨HE, (Below.refl _ _).drew.trans HB⟩; obtain ⟨d0, d1, d2, d3, d4, d5, d6, d7, d8, d9, d10, d11, d12, d13, d14, d15, d16, df⟩ := (HCl.out w1 H1.out.2); clear HE HB)
  all_goals (
    have HK := HS1.out w1 ra rc H1.out.1 H1.out.2
    obtain ⟨W1, hW1⟩ : ∃ W1, (((w1.setCell ⟨M, 6, none⟩ (.int .i64 m.b)).setCell ⟨M, 7, none⟩ (.int .i64 m.bt)).setCell ⟨M, 8, none⟩ (.slice ra es'.length rc)) = W1 := ⟨_, rfl⟩
    rw [hW1] at HK ⊢
    have HK1 : Hid (Wk W1 B M { s with ea := ra, ec := rc } { m with es := es' } v ts ∧ Dn B M v v w W1) := HK
    clear HK hW1 H1 c0 c1 c2 c3 c4 c5 c6 c7 c8 c9 c10 c11 c12 c13 c14 c15 c16 cf d0 d1 d2 d3 d4 d5 d6 d7 d8 d9 d10 d11 d12 d13 d14 d15 d16 df
    have hM1 := HK1.out.1.lt
    have HC1 : Hid (∀ w1, Below W1.heap.size W1 w1 → Wc w1 M { s with ea := ra, ec := rc } { m with es := es' } v) := fun w1 q => HK1.out.1.c.below q
    have HSz1 : Hid (∀ wx, Below W1.heap.size W1 wx → Calls Try.prog 69 #[.slice s.ma m.mtch.length s.mc, .int .i64 (n : Int)] wx (SzP (m.mtch.map (.int .i64)) n wx)) := fun wx h => HSz.out wx (HK1.out.1.r.t.below h)
    obtain ⟨c0, c1, c2, c3, c4, c5, c6, c7, c8, c9, c10, c11, c12, c13, c14, c15, c16, cf⟩ := HK1.out.1.c
    rw [hpn] at c1
    go_wp2
    go_region_with (go_at_call 69; refine (HSz1.out _ (Below.refl _ _).drew).mono ?_; rintro e w2 ⟨G, rfl, q1, q2, q3⟩; have H2 : Hid (W1.heap.size ≤ G ∧ Nr w2 G (m.mtch.map (.int .i64)) ∧ Below W1.heap.size W1 w2) := ⟨q1, q2, (Below.refl _ _).drew.trans q3⟩; obtain ⟨d0, d1, d2, d3, d4, d5, d6, d7, d8, d9, d10, d11, d12, d13, d14, d15, d16, df⟩ := (HC1.out w2 H2.out.2.2); clear q1 q2 q3)
    all_goals (
      obtain ⟨HC2, HE2, HN2⟩ := HK1.out.1.mtchOnly n HML.out H2.out.1 H2.out.2.2 H2.out.2.1
      have HMt := fun (wb : World) (q : Below (w2.setCell ⟨M, 13, none⟩ (.slice (some ⟨G, 0, none⟩) n n)).heap.size (w2.setCell ⟨M, 13, none⟩ (.slice (some ⟨G, 0, none⟩) n n)) wb) => HK1.out.1.matched n HML.out k (m.b + (es'.length : Nat)) HIx.out H2.out.1 H2.out.2.2 H2.out.2.1 q
      obtain ⟨W2, hW2⟩ : ∃ W2, w2.setCell ⟨M, 13, none⟩ (.slice (some ⟨G, 0, none⟩) n n) = W2 := ⟨_, rfl⟩
      rw [hW2] at HC2 HE2 HN2 HMt ⊢
      have HMt2 : Hid (∀ wb, Below W2.heap.size W2 wb → Wk (wb.setCell ⟨G, k, none⟩ (.int .i64 (m.b + (es'.length : Nat)))) B M { s with ea := ra, ec := rc, ma := some ⟨G, 0, none⟩, mc := n } m1 v ts ∧ Dn B M v v W1 (wb.setCell ⟨G, k, none⟩ (.int .i64 (m.b + (es'.length : Nat))))) := fun wb q => by have := HMt wb q; rw [← HAd.out]; exact this
      have HC3 : Hid (∀ wb, Below W2.heap.size W2 wb → Wc wb M { s with ea := ra, ec := rc, ma := some ⟨G, 0, none⟩, mc := n } { m with es := es' } v ∧ Nr wb G (m.mtch.map (.int .i64))) := fun wb q => ⟨HC2.below q, HN2.below q⟩
      have hGM : G ≠ M := by have := H2.out.1; omega
      have hMG : M ≠ G := by have := H2.out.1; omega
      have hGl : G < W2.heap.size := HN2.lt
      have hM2 : M < W2.heap.size := HC2.lt
      clear HMt HE2 HN2 hW2 c0 c1 c2 c3 c4 c5 c6 c7 c8 c9 c10 c11 c12 c13 c14 c15 c16 cf d0 d1 d2 d3 d4 d5 d6 d7 d8 d9 d10 d11 d12 d13 d14 d15 d16 df
      obtain ⟨c0, c1, c2, c3, c4, c5, c6, c7, c8, c9, c10, c11, c12, c13, c14, c15, c16, cf⟩ := HC2
      rw [hk] at c0
      rw [HML.out] at c13
      go_wp2
      go_region_held3 (fun w' => w'.cell? ⟨M, 0, none⟩ = some (.int .i64 ((k : Int) + 1)) ∧ w'.cell? ⟨M, 6, none⟩ = some (.int .i64 m.b) ∧ w'.cell? ⟨M, 7, none⟩ = some (.int .i64 m.bt) ∧ w'.cell? ⟨M, 8, none⟩ = some (.slice ra es'.length rc) ∧ w'.cell? ⟨M, 13, none⟩ = some (.slice (some ⟨G, 0, none⟩) n n)) (go_keep) (first
        | (go_at_call 49; refine (HLa.out _ _ _).mono ?_; rintro e w3 ⟨rfl, HB⟩; have H3 : Hid (Below W2.heap.size W2 w3) := (Below.refl _ _).drew.trans HB; obtain ⟨HC4, HN4⟩ := HC3.out w3 H3.out; have hfr := HN4.free; have hcl := HN4.cell (i := k) (by rw [List.length_map, HML.out]; exact hkn); rw [List.getElem?_eq_getElem (by rw [List.length_map, HML.out]; exact hkn)] at hcl; have hGl3 := HN4.lt; have hM3 := HC4.lt; obtain ⟨f0, f1, f2, f3, f4, f5, f6, f7, f8, f9, f10, f11, f12, f13, f14, f15, f16, ff⟩ := HC4; rw [hk] at f0; rw [HML.out] at f13; clear HB HN4))
      have HK3 := HMt2.out w3 H3.out
      obtain ⟨W3, hW3⟩ : ∃ W3, w3.setCell ⟨G, k, none⟩ (.int .i64 (m.b + (es'.length : Nat))) = W3 := ⟨_, rfl⟩
      rw [hW3] at HK3 ⊢
      have HK4 : Hid (Wk W3 B M { s with ea := ra, ec := rc, ma := some ⟨G, 0, none⟩, mc := n } m1 v ts ∧ Dn B M v v w W3) := ⟨HK3.1, HK1.out.2.trans HK3.2⟩
      clear HK3 hW3 hcl hfr
      go_wp2_with (first
        | (go_at_call 46; have := H5; refine (HTa.out _ _ H5.out.1).mono ?_; rintro e w5 ⟨rfl, v', q1, q2⟩; have H6 : Hid (∃ s' v', Wk w5 B M s' mF v' (ts ++ out) ∧ Dn B M v v' w w5) := HEn.out _ ⟨_, v', q1, H5.out.2.trans q2⟩; clear q1 q2)
        | (go_at_call 70; refine (HLo.out _ _ HK4.out.1).mono ?_; rintro e w4 ⟨rfl, q1, q2⟩; have H5 : Hid (Wk w4 B M { s with ea := ra, ec := rc, ma := some ⟨G, 0, none⟩, mc := n } m2 v ts ∧ Dn B M v v w w4) := ⟨q1, HK4.out.2.trans q2⟩; clear q1 q2))
      first | (refine bodyPost_end (results_none rfl _ _ _) rfl ?_) | (refine bodyPost_ret (results_none rfl _ _ _) rfl ?_)
      exact ⟨rfl, H6.out⟩))
end
end Go.Proofs.Ytfmfphfckaiejaa
