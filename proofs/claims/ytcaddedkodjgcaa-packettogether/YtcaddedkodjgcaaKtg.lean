/-
  Packets in memory; the document's Same, SameAll, Together: contracts.
-/
import Derived.Test.YtcaddedkodjgcaaKrr
namespace Go.Proofs.Ytcaddedkodjgcaa
open Go.RowKit Pack
set_option linter.unusedVariables false
set_option linter.unusedSimpArgs false

def pkCells (a : Option Addr) (c : Nat) (p : Pk) : List Value := [.int .i64 p.1, .int .i64 p.2.1, .slice a p.2.2.length c]
def pkR : Rdr Pk where
  k := 3
  z := zPk
  R w P us p := ∃ a c, us = pkCells a c p ∧ RwV msR w P a c p.2.2
  kpos := by decide
  kept := fun ⟨a, c, h1, h2⟩ hk => ⟨a, c, h1, h2.kept hk⟩
  len := fun ⟨a, c, h1, _⟩ => by rw [h1]; rfl
  one := fun ⟨a, c, h1, _⟩ => by
    rw [h1]
    intro u hu
    simp only [pkCells, List.mem_cons, List.not_mem_nil, or_false] at hu
    rcases hu with rfl | rfl | rfl <;> rfl
theorem infoPk : (Try.prog.info? 24).map (fun i => (i.zero, i.size, i.bytes)) = some (some (.agg #[.int .i64 0, .int .i64 0, .slice none 0 0]), 3, 40) := by kernel_rfl
theorem tyPk : TyOk pkR 42 24 40 := ⟨Try.underlying42, by
  obtain ⟨i, h1, h2, h3, h4⟩ := info_parts infoPk
  exact ⟨i, _, h1, h2, h3, h4, rfl⟩⟩
/-- One of them: its cells. -/
theorem RwV.pk {w : World} {P : Nat → Prop} {a : Option Addr} {c : Nat} {l : List Pk} (h : RwV pkR w P a c l) {i : Nat} (hi : i < l.length) : ∃ (b o : Nat) (ma : Option Addr) (mc : Nat), a = some ⟨b, o, none⟩ ∧ b < w.heap.size ∧ RwV msR w P ma mc (l.getD i zPk).2.2 ∧ w.cell? ⟨b, o + i * 3, none⟩ = some (.int .i64 (l.getD i zPk).1) ∧ w.cell? ⟨b, o + i * 3 + 1, none⟩ = some (.int .i64 (l.getD i zPk).2.1) ∧ w.cell? ⟨b, o + i * 3 + 2, none⟩ = some (.slice ma (l.getD i zPk).2.2.length mc) := by
  obtain ⟨b, o, us, ⟨q1, q2⟩, q3, ma, mc, rfl, q5⟩ := h.2.2.2 i hi
  have hc : ∀ j u, (pkCells ma mc (l.getD i zPk))[j]? = some u → w.cell? ⟨b, o + i * 3 + j, none⟩ = some u := fun j u hu => by
    have hj : j < 3 := by
      obtain ⟨z, _⟩ := List.getElem?_eq_some_iff.1 hu
      exact z
    exact (q3 j hj).trans hu
  exact ⟨b, o, ma, mc, q1, World.block_lt_of_cell? _ _ (hc 0 _ rfl), q5, hc 0 _ rfl, hc 1 _ rfl, hc 2 _ rfl⟩
def eqPk (p q : Pk) : Bool := decide (p.1 = q.1) && decide (p.2.1 = q.2.1) && eqMss p.2.2 q.2.2
theorem eqPk_iff {p q : Pk} : eqPk p q = true ↔ p = q := by
  unfold eqPk
  obtain ⟨a, b, l⟩ := p
  obtain ⟨c, d, m⟩ := q
  simp only [Bool.and_eq_true, decide_eq_true_eq, eqMss_iff, Prod.mk.injEq, and_assoc]
theorem two_packs (w : World) (a a2 : Option Addr) (c c2 : Nat) (p q : Pk) : Cell3 ((w.alloc (Obj.cells #[.int .i64 p.1, .int .i64 p.2.1, .slice a p.2.2.length c] 24)).alloc (Obj.cells #[.int .i64 q.1, .int .i64 q.2.1, .slice a2 q.2.2.length c2] 24)) w.heap.size (.int .i64 p.1) (.int .i64 p.2.1) (.slice a p.2.2.length c) ∧ Cell3 ((w.alloc (Obj.cells #[.int .i64 p.1, .int .i64 p.2.1, .slice a p.2.2.length c] 24)).alloc (Obj.cells #[.int .i64 q.1, .int .i64 q.2.1, .slice a2 q.2.2.length c2] 24)) (w.heap.size + 1) (.int .i64 q.1) (.int .i64 q.2.1) (.slice a2 q.2.2.length c2) ∧ Below w.heap.size w ((w.alloc (Obj.cells #[.int .i64 p.1, .int .i64 p.2.1, .slice a p.2.2.length c] 24)).alloc (Obj.cells #[.int .i64 q.1, .int .i64 q.2.1, .slice a2 q.2.2.length c2] 24)) := by
  refine ⟨?_, ?_, ?_⟩
  · exact (Cell3.new w _ _ _ _).kept (Below.heap_alloc _ _ _ (by rw [size_alloc]; omega))
  · have := Cell3.new (w.alloc (Obj.cells #[.int .i64 p.1, .int .i64 p.2.1, .slice a p.2.2.length c] 24)) (.int .i64 q.1) (.int .i64 q.2.1) (.slice a2 q.2.2.length c2) 24
    rw [size_alloc] at this
    exact this
  · exact ((Below.refl _ _).alloc (Nat.le_refl _) _).alloc (le_alloc _ _) _
set_option maxRecDepth 100000 in
set_option maxHeartbeats 800000 in
theorem RPSame_any {w : World} {P Q : Nat → Prop} {a a2 : Option Addr} {c c2 : Nat} {p q : Pk} (hp : RwV msR w P a c p.2.2) (hq : RwV msR w Q a2 c2 q.2.2) : Calls Try.prog 18 #[.agg #[.int .i64 p.1, .int .i64 p.2.1, .slice a p.2.2.length c], .agg #[.int .i64 q.1, .int .i64 q.2.1, .slice a2 q.2.2.length c2]] w fun e w' => e = .returned (.bool (eqPk p q)) ∧ Below w.heap.size w w' := by
  have HS := two_packs w a a2 c c2 p q
  have HB : Hid (Below w.heap.size w ((w.alloc (Obj.cells #[.int .i64 p.1, .int .i64 p.2.1, .slice a p.2.2.length c] 24)).alloc (Obj.cells #[.int .i64 q.1, .int .i64 q.2.1, .slice a2 q.2.2.length c2] 24))) := HS.2.2
  have HM : Hid (∀ wr, Below w.heap.size w wr → Calls Try.prog 37 #[.slice a p.2.2.length c, .slice a2 q.2.2.length c2] wr fun e w' => e = .returned (.bool (eqMss p.2.2 q.2.2)) ∧ Below wr.heap.size wr w') := fun wr z => SameMsgs_any _ _ _ _ _ _ _ _ wr (hp.below z) (hq.below z)
  have hE : eqPk p q = (decide (p.1 = q.1) && decide (p.2.1 = q.2.1) && eqMss p.2.2 q.2.2) := rfl
  have HE : Hid (eqPk p q = (decide (p.1 = q.1) && decide (p.2.1 = q.2.1) && eqMss p.2.2 q.2.2)) := hE
  obtain ⟨⟨p0, p1, p2, pf⟩, ⟨q0, q1, q2, qf⟩, _⟩ := id HS
  have h1 := HS.1.lt
  have h2 := HS.2.1.lt
  clear hE HS hp hq
  generalize eqPk p q = r at *
  generalize eqMss p.2.2 q.2.2 = r2 at *
  by_cases e1 : p.1 = q.1
  · by_cases e2 : p.2.1 = q.2.1
    · have HR : Hid (r = r2) := by show _ = _; rw [HE.out, decide_eq_true e1, decide_eq_true e2]; simp
      have y1 : (p.1 == q.1) = true := beq_iff_eq.2 e1
      have y2 : (p.2.1 == q.2.1) = true := beq_iff_eq.2 e2
      clear HE e1 e2
      cases r2
      all_goals (
        go_enter Try.func18, Try.ntmps18
        go_wp2_with (go_at_call 37; refine (HM.out _ HB.out).mono ?_; rintro e w1 ⟨rfl, qB⟩; have HB1 : Hid (Below w.heap.size w w1) := HB.out.trans (qB.mono HB.out.size); clear qB)
        go_ret
        exact ⟨by rw [HR.out]; rfl, HB1.out⟩)
    · have HR : Hid (r = false) := by show _ = _; rw [HE.out, decide_eq_true e1, decide_eq_false e2]; rfl
      have y1 : (p.1 == q.1) = true := beq_iff_eq.2 e1
      have y2 : (p.2.1 == q.2.1) = false := beq_eq_false_iff_ne.2 e2
      clear HE e1 e2
      go_enter Try.func18, Try.ntmps18
      go_wp2
      go_ret
      exact ⟨by rw [HR.out]; rfl, HB.out⟩
  · have HR : Hid (r = false) := by show _ = _; rw [HE.out, decide_eq_false e1]; rfl
    have y1 : (p.1 == q.1) = false := beq_eq_false_iff_ne.2 e1
    clear HE e1
    go_enter Try.func18, Try.ntmps18
    go_wp2
    go_ret
    exact ⟨by rw [HR.out]; rfl, HB.out⟩
def eqPks : List Pk → List Pk → Bool
  | [], [] => true
  | x :: l, y :: m => eqPk x y && eqPks l m
  | _, _ => false
theorem eqPks_iff : ∀ {l m : List Pk}, eqPks l m = true ↔ l = m
  | [], [] => by simp [eqPks]
  | [], _ :: _ => by simp [eqPks]
  | _ :: _, [] => by simp [eqPks]
  | x :: l, y :: m => by simp only [eqPks, Bool.and_eq_true, eqPk_iff, eqPks_iff, List.cons.injEq]
theorem eqPks_no {l m : List Pk} (h : ¬ l = m) : eqPks l m = false := by
  cases e : eqPks l m with
  | false => rfl
  | true => exact absurd (eqPks_iff.1 e) h
theorem packs_no {l m : List Pk} {i : Nat} (h : eqPk (l.getD i zPk) (m.getD i zPk) = false) : eqPks l m = false := eqPks_no fun e => by subst e; rw [eqPk_iff.2 rfl] at h; cases h
theorem packs_yes {l m : List Pk} (hl : l.length = m.length) (h : ∀ j, j < l.length → eqPk (l.getD j zPk) (m.getD j zPk) = true) : eqPks l m = true := eqPks_iff.2 (List.ext_getElem hl fun j h1 h2 => by
  have := eqPk_iff.1 (h j h1)
  rw [List.getD_eq_getElem?_getD, List.getD_eq_getElem?_getD, List.getElem?_eq_getElem h1, List.getElem?_eq_getElem h2] at this
  exact this)
set_option maxRecDepth 100000 in
set_option maxHeartbeats 2000000 in
theorem RSameAll_any (P Q : Nat → Prop) (a a2 : Option Addr) (c c2 : Nat) (l m : List Pk) (w : World) (hv : RwV pkR w P a c l) (hu : RwV pkR w Q a2 c2 m) : Calls Try.prog 21 #[.slice a l.length c, .slice a2 m.length c2] w fun e w' => e = .returned (.bool (eqPks l m)) ∧ Below w.heap.size w w' := by
  have h1 := hv.cap1
  have h2 := hv.cap2
  have h3 := hu.cap1
  have h4 := hu.cap2
  by_cases hl : l.length = m.length
  · have HY : Hid ((∀ j, j < l.length → eqPk (l.getD j zPk) (m.getD j zPk) = true) → eqPks l m = true) := fun q => packs_yes hl q
    have HN : Hid (∀ i, eqPk (l.getD i zPk) (m.getD i zPk) = false → eqPks l m = false) := fun i q => packs_no q
    have HC : Hid (∀ wr i, Below w.heap.size w wr → i < l.length → ∃ (g o g2 o2 : Nat) (ma ma2 : Option Addr) (mc mc2 : Nat), a = some ⟨g, o, none⟩ ∧ a2 = some ⟨g2, o2, none⟩ ∧ g < wr.heap.size ∧ g2 < wr.heap.size ∧ Hid (∀ we, Below wr.heap.size wr we → Calls Try.prog 18 #[.agg #[.int .i64 (l.getD i zPk).1, .int .i64 (l.getD i zPk).2.1, .slice ma (l.getD i zPk).2.2.length mc], .agg #[.int .i64 (m.getD i zPk).1, .int .i64 (m.getD i zPk).2.1, .slice ma2 (m.getD i zPk).2.2.length mc2]] we fun e w' => e = .returned (.bool (eqPk (l.getD i zPk) (m.getD i zPk))) ∧ Below we.heap.size we w') ∧ (wr.cell? ⟨g, o + i * 3, none⟩ = some (.int .i64 (l.getD i zPk).1) ∧ wr.cell? ⟨g, o + i * 3 + 1, none⟩ = some (.int .i64 (l.getD i zPk).2.1) ∧ wr.cell? ⟨g, o + i * 3 + 2, none⟩ = some (.slice ma (l.getD i zPk).2.2.length mc)) ∧ (wr.cell? ⟨g2, o2 + i * 3, none⟩ = some (.int .i64 (m.getD i zPk).1) ∧ wr.cell? ⟨g2, o2 + i * 3 + 1, none⟩ = some (.int .i64 (m.getD i zPk).2.1) ∧ wr.cell? ⟨g2, o2 + i * 3 + 2, none⟩ = some (.slice ma2 (m.getD i zPk).2.2.length mc2))) := fun wr i q hi => by
      obtain ⟨g, o, ma, mc, q1, q2, q3, q4⟩ := (hv.below q).pk hi
      obtain ⟨g2, o2, ma2, mc2, r1, r2, r3, r4⟩ := (hu.below q).pk (show i < m.length by omega)
      exact ⟨g, o, g2, o2, ma, ma2, mc, mc2, q1, r1, q2, r2, fun we qe => RPSame_any (q3.below qe) (r3.below qe), q4, r4⟩
    rw [← hl] at h3 ⊢
    generalize eqPks l m = r at *
    generalize l.length = n at *
    clear hl hv hu
    go_enter Try.func21, Try.ntmps21
    go_wp2
    go_loopw [5] (fun x wr => ∃ (i : Nat), i ≤ n ∧ x = .int .i64 i ∧ Hid (Below w.heap.size w wr ∧ ∀ j, j < i → eqPk (l.getD j zPk) (m.getD j zPk) = true)) (fun x _ => n - (intOf x).toNat)
    case atStart => exact ⟨0, Nat.zero_le _, rfl, Below.refl _ _, fun j hj => absurd hj (Nat.not_lt_zero _)⟩
    case round =>
      obtain ⟨i, hi, rfl, HR⟩ := hrel
      by_cases hlt : i < n
      · obtain ⟨g, o, g2, o2, ma, ma2, mc, mc2, rfl, rfl, hg, hg2, HS, ⟨p0, p1, p2⟩, ⟨q0, q1, q2⟩⟩ := HC.out wr i HR.out.1 hlt
        have HF : Hid (eqPk (l.getD i zPk) (m.getD i zPk) = false → r = false) := fun q => HN.out i q
        have HG : Hid (eqPk (l.getD i zPk) (m.getD i zPk) = true → ∀ j, j < i + 1 → eqPk (l.getD j zPk) (m.getD j zPk) = true) := fun q j hj => by
          by_cases e : j = i
          · subst e; exact q
          · exact HR.out.2 j (by omega)
        have HB : Hid (Below w.heap.size w wr) := HR.out.1
        clear HC HN HR HY
        generalize eqPk (l.getD i zPk) (m.getD i zPk) = r1 at *
        generalize l.getD i zPk = x at *
        generalize m.getD i zPk = y at *
        have HW : Hid (∀ we, Below wr.heap.size wr we → (we.cell? ⟨g, o + i * 3, none⟩ = some (.int .i64 x.1) ∧ we.cell? ⟨g, o + i * 3 + 1, none⟩ = some (.int .i64 x.2.1) ∧ we.cell? ⟨g, o + i * 3 + 2, none⟩ = some (.slice ma x.2.2.length mc)) ∧ (we.cell? ⟨g2, o2 + i * 3, none⟩ = some (.int .i64 y.1) ∧ we.cell? ⟨g2, o2 + i * 3 + 1, none⟩ = some (.int .i64 y.2.1) ∧ we.cell? ⟨g2, o2 + i * 3 + 2, none⟩ = some (.slice ma2 y.2.2.length mc2))) := fun we q => ⟨⟨(cell_kept (q.block g hg) _).trans p0, (cell_kept (q.block g hg) _).trans p1, (cell_kept (q.block g hg) _).trans p2⟩, ⟨(cell_kept (q.block g2 hg2) _).trans q0, (cell_kept (q.block g2 hg2) _).trans q1, (cell_kept (q.block g2 hg2) _).trans q2⟩⟩
        go_wp2
        go_region_held3 (fun w' => (w'.cell? ⟨g, o + i * 3, none⟩ = some (.int .i64 x.1) ∧ w'.cell? ⟨g, o + i * 3 + 1, none⟩ = some (.int .i64 x.2.1) ∧ w'.cell? ⟨g, o + i * 3 + 2, none⟩ = some (.slice ma x.2.2.length mc)) ∧ (w'.cell? ⟨g2, o2 + i * 3, none⟩ = some (.int .i64 y.1) ∧ w'.cell? ⟨g2, o2 + i * 3 + 1, none⟩ = some (.int .i64 y.2.1) ∧ w'.cell? ⟨g2, o2 + i * 3 + 2, none⟩ = some (.slice ma2 y.2.2.length mc2))) (go_keep) (first
          | (go_at_call 18; refine (HS.out _ (by first | exact (Below.refl _ _).drew | exact Below.refl _ _)).mono ?_; rintro e w1 ⟨rfl, qB⟩; have HV : Hid (Below wr.heap.size wr w1) := (Below.refl _ _).drew.trans qB; obtain ⟨⟨k0, k1, k2⟩, ⟨j0, j1, j2⟩⟩ := HW.out _ HV.out; clear qB))
        clear p0 p1 p2 q0 q1 q2 k0 k1 k2 j0 j1 j2 HW HS
        cases r1
        · go_wp2
          go_ret
          exact ⟨by rw [HF.out (by trivial)]; rfl, HB.out.trans (HV.out.mono HB.out.size)⟩
        · go_wp2
          go_roundw
          case rel => exact ⟨i + 1, by omega, by go_num, HB.out.trans (HV.out.mono HB.out.size), HG.out (by trivial)⟩
          case measure => simp [intOf]; omega
      · have HT : Hid (r = true) := HY.out fun j hj => HR.out.2 j (by omega)
        have HB : Hid (Below w.heap.size w wr) := HR.out.1
        clear HC HN HR HY
        go_wp2
        go_ret
        exact ⟨by rw [HT.out]; rfl, HB.out⟩
  · rw [eqPks_no fun e => hl (by rw [e])]
    have hl1 : ((l.length : Int) == m.length) = false := beq_eq_false_iff_ne.2 (by omega)
    have hl2 : ((l.length : Int) != m.length) = true := by rw [bne, hl1]; rfl
    generalize l.length = n at *
    generalize m.length = n2 at *
    clear hv hu
    go_enter Try.func21, Try.ntmps21
    go_wp2
    go_ret
    exact ⟨rfl, Below.refl _ _⟩
theorem mine_take {f t : Int} {l : List Ms} {i : Nat} (h : i < l.length) : mine f t (l.take (i + 1)) = mine f t (l.take i) ++ (if (l.getD i zMs).frm = f ∧ (l.getD i zMs).to = t then [l.getD i zMs] else []) := by
  unfold mine
  rw [take_snoc h, List.filter_append, List.getD_eq_getElem?_getD, List.getElem?_eq_getElem h]
  simp only [List.filter_cons, List.filter_nil, Option.getD_some]
  by_cases h1 : l[i].frm = f
  · by_cases h2 : l[i].to = t
    · simp [h1, h2]
    · simp [h1, h2]
  · simp [h1]
theorem mine_len (f t : Int) (l : List Ms) : (mine f t l).length ≤ l.length := List.length_filter_le _ _
theorem tog_len (f : Int) (l : List Ms) : ∀ n, (togS f l n).length ≤ n
  | 0 => Nat.le_refl _
  | n + 1 => by
    have := tog_len f l n
    rw [togS]
    split
    · omega
    · split
      · omega
      · rw [List.length_append]; simp; omega
set_option maxRecDepth 100000 in
set_option maxHeartbeats 4000000 in
theorem RTog_any {w : World} {P : Nat → Prop} {a : Option Addr} {c : Nat} {l : List Ms} (f : Int) (hl : RwV msR w P a c l) (hn : l.length ≤ 1000) : Calls Try.prog 22 #[.int .i64 f, .slice a l.length c] w fun e w' => ∃ a' c', e = .returned (.slice a' (togS f l 7).length c') ∧ RwV pkR w' (fun _ => True) a' c' (togS f l 7) ∧ Below w.heap.size w w' := by
  have h1 := hl.cap1
  have h2 := hl.cap2
  have HC : Hid (∀ wr i, Below w.heap.size w wr → i < l.length → ∃ (g o : Nat) (ax : Ax), a = some ⟨g, o, none⟩ ∧ g < wr.heap.size ∧ MsV wr (fun g => g < w.heap.size) ax (l.getD i zMs) ∧ (wr.cell? ⟨g, o + i * 11, none⟩ = some (.int .i64 (l.getD i zMs).kind) ∧ wr.cell? ⟨g, o + i * 11 + 1, none⟩ = some (.int .i64 (l.getD i zMs).grp) ∧ wr.cell? ⟨g, o + i * 11 + 2, none⟩ = some (.int .i64 (l.getD i zMs).frm) ∧ wr.cell? ⟨g, o + i * 11 + 3, none⟩ = some (.int .i64 (l.getD i zMs).to) ∧ wr.cell? ⟨g, o + i * 11 + 4, none⟩ = some (.int .i64 (l.getD i zMs).term) ∧ wr.cell? ⟨g, o + i * 11 + 5, none⟩ = some (.int .i64 (l.getD i zMs).at_) ∧ wr.cell? ⟨g, o + i * 11 + 6, none⟩ = some (.int .i64 (l.getD i zMs).att) ∧ wr.cell? ⟨g, o + i * 11 + 7, none⟩ = some (.int .i64 (l.getD i zMs).commit) ∧ wr.cell? ⟨g, o + i * 11 + 8, none⟩ = some (.bool (l.getD i zMs).ok) ∧ wr.cell? ⟨g, o + i * 11 + 9, none⟩ = some (.slice ax.ea (l.getD i zMs).ents.length ax.ec) ∧ wr.cell? ⟨g, o + i * 11 + 10, none⟩ = some (.slice ax.da (l.getD i zMs).data.length ax.dc))) := fun wr i q hi => by
    obtain ⟨g, o, ax, q1, q2, q3, q4⟩ := (hl.low.below q).msg hi
    exact ⟨g, o, ax, q1, q2, q3, q4⟩
  have HK : Hid (∀ t i, i < l.length → mine f t (l.take (i + 1)) = mine f t (l.take i) ++ (if (l.getD i zMs).frm = f ∧ (l.getD i zMs).to = t then [l.getD i zMs] else [])) := fun t i hi => mine_take hi
  have HT : Hid (∀ t, mine f t (l.take l.length) = mine f t l) := fun t => by rw [List.take_length]
  have HLn : Hid (∀ t i, (mine f t (l.take i)).length ≤ 1000) := fun t i => Nat.le_trans (mine_len _ _ _) (by rw [List.length_take]; omega)
  clear hl
  generalize hln : l.length = n at *
  go_enter Try.func22, Try.ntmps22
  go_wp2
  go_loopw [5, 6] (fun v y wr => ∃ (k : Nat), k ≤ 7 ∧ y = .int .i64 ((k : Int) + 1) ∧ Hid (Gr pkR 24 wr w.heap.size (fun _ => True) v (togS f l k) ∧ Below w.heap.size w wr)) (fun _ y _ => 9 - (intOf y).toNat)
  case atStart => exact ⟨0, by omega, rfl, Gr.nil _ _ _ _ _, Below.refl _ _⟩
  case round =>
    obtain ⟨k, hk, rfl, HR⟩ := hrel
    have HO : Hid (Gr pkR 24 wr w.heap.size (fun _ => True) u5 (togS f l k)) := HR.out.1
    have HB : Hid (Below w.heap.size w wr) := HR.out.2
    clear HR
    by_cases hk7 : k < 7
    · have HN : Hid (togS f l (k + 1) = if (k : Int) + 1 = f then togS f l k else if mine f ((k : Int) + 1) l = [] then togS f l k else togS f l k ++ [(f, (k : Int) + 1, mine f ((k : Int) + 1) l)]) := by show _ = _; rw [togS]
      by_cases hkf : (k : Int) + 1 = f
      · have y1 : ((k : Int) + 1 == f) = true := beq_iff_eq.2 hkf
        have HN2 : Hid (togS f l (k + 1) = togS f l k) := by show _ = _; rw [HN.out, if_pos hkf]
        clear HC HK HT HN
        go_wp2
        go_roundw
        case rel => exact ⟨k + 1, by omega, by go_num, by rw [HN2.out]; exact ⟨HO.out, HB.out⟩⟩
        case measure => simp [intOf]; omega
      · have y1 : ((k : Int) + 1 == f) = false := beq_eq_false_iff_ne.2 hkf
        have HN2 : Hid (togS f l (k + 1) = if mine f ((k : Int) + 1) l = [] then togS f l k else togS f l k ++ [(f, (k : Int) + 1, mine f ((k : Int) + 1) l)]) := by show _ = _; rw [HN.out, if_neg hkf]
        clear HN
        generalize wr = wo at *
        have y0 : decide ((k : Int) + 1 ≤ 7) = true := decide_eq_true (by omega)
        go_wp2
        go_loopw [7, 8] (fun v y ws => ∃ (i : Nat), i ≤ n ∧ y = .int .i64 i ∧ Hid (Gr msR 51 ws wo.heap.size (fun g => g < w.heap.size ∨ wo.heap.size ≤ g) v (mine f ((k : Int) + 1) (l.take i)) ∧ Below wo.heap.size wo ws)) (fun _ y _ => n - (intOf y).toNat)
        case atStart => exact ⟨0, Nat.zero_le _, rfl, by rw [List.take_zero]; exact Gr.nil _ _ _ _ _, Below.refl _ _⟩
        case round =>
          obtain ⟨i, hi, rfl, HR⟩ := hrel
          have HM : Hid (Gr msR 51 wr wo.heap.size (fun g => g < w.heap.size ∨ wo.heap.size ≤ g) u7 (mine f ((k : Int) + 1) (l.take i))) := HR.out.1
          have HB2 : Hid (Below wo.heap.size wo wr) := HR.out.2
          have HBw : Hid (Below w.heap.size w wr) := HB.out.trans (HR.out.2.mono HB.out.size)
          have hso : wo.heap.size ≤ wr.heap.size := HB2.out.size
          have hsw : w.heap.size ≤ wo.heap.size := HB.out.size
          clear HR
          by_cases hlt : i < n
          · obtain ⟨g, o, ax, rfl, hg, hms, ⟨q0, q1, q2, q3, q4, q5, q6, q7, q8, q9, q10⟩⟩ := HC.out wr i HBw.out hlt
            have HK2 : Hid (mine f ((k : Int) + 1) (l.take (i + 1)) = mine f ((k : Int) + 1) (l.take i) ++ (if (l.getD i zMs).frm = f ∧ (l.getD i zMs).to = (k : Int) + 1 then [l.getD i zMs] else [])) := HK.out _ i hlt
            have HMs : Hid (MsV wr (fun g => g < w.heap.size) ax (l.getD i zMs)) := hms
            have HL2 : Hid ((mine f ((k : Int) + 1) (l.take i)).length + [l.getD i zMs].length ≤ 1048576) := by show _ ≤ _; have := HLn.out ((k : Int) + 1) i; simp only [List.length_cons, List.length_nil]; omega
            clear hms HC HK HT HLn
            generalize l.getD i zMs = x at *
            generalize mine f ((k : Int) + 1) (l.take i) = acc at *
            by_cases e1 : x.frm = f
            · by_cases e2 : x.to = (k : Int) + 1
              · have y2 : (x.frm == f) = true := beq_iff_eq.2 e1
                have y3 : (x.to == (k : Int) + 1) = true := beq_iff_eq.2 e2
                have HK3 : Hid (mine f ((k : Int) + 1) (l.take (i + 1)) = acc ++ [x]) := by show _ = _; rw [HK2.out, if_pos ⟨e1, e2⟩]
                have HRw : Hid (RwV msR (wr.alloc (Obj.cells #[.int .i64 x.kind, .int .i64 x.grp, .int .i64 x.frm, .int .i64 x.to, .int .i64 x.term, .int .i64 x.at_, .int .i64 x.att, .int .i64 x.commit, .bool x.ok, .slice ax.ea x.ents.length ax.ec, .slice ax.da x.data.length ax.dc] 51)) (fun g => g < w.heap.size ∨ g = wr.heap.size) (some ⟨wr.heap.size, 0, none⟩) 1 [x]) := RwV.one (r := msR) (us := msCells ax x) rfl (Or.inr rfl) ⟨ax, rfl, HMs.out.sub fun g hg _ => .inl hg⟩
                have HPp : Hid (∀ g, (g < w.heap.size ∨ g = wr.heap.size) → (g < w.heap.size ∨ wo.heap.size ≤ g) ∧ u7.ownBlock ≠ some g) := fun g hg => ⟨by omega, fun e => by have := HM.out.own g e; omega⟩
                clear HK2 e1 e2
                go_wp2_with (at_builtin; refine list_appR tyMs (by decide) (B := wo.heap.size) (S := fun g => g < w.heap.size ∨ wo.heap.size ≤ g) (P := fun g => g < w.heap.size ∨ g = wr.heap.size) (ts := acc) (l := [x]) rfl (.tmp 38) (.tmp 43) rfl (HM.out.below ((Below.refl _ _).alloc (Nat.le_refl _) _)) HRw.out rfl (fun g hg _ => HPp.out g hg) (Nat.le_trans hso (le_alloc _ _)) rfl rfl HL2.out ?_; intro v9 w9 g1 g2 g3; have HG9 : Hid (Gr msR 51 w9 wo.heap.size (fun g => g < w.heap.size ∨ wo.heap.size ≤ g) v9 (acc ++ [x])) := g1; have HB9 : Hid (Below wo.heap.size wo w9) := (HB2.out.alloc hso _).grown g2 (Nat.le_trans hso (le_alloc _ _)) (fun k hk => (HM.out.own k hk).1); clear g1 g2 g3)
                go_roundw
                case rel => exact ⟨i + 1, by omega, by go_num, by rw [HK3.out]; exact ⟨HG9.out, HB9.out⟩⟩
                case measure => simp [intOf]; omega
              · have y2 : (x.frm == f) = true := beq_iff_eq.2 e1
                have y3 : (x.to == (k : Int) + 1) = false := beq_eq_false_iff_ne.2 e2
                have HK3 : Hid (mine f ((k : Int) + 1) (l.take (i + 1)) = acc) := by show _ = _; rw [HK2.out, if_neg (fun e => e2 e.2), List.append_nil]
                clear HK2 e1 e2
                go_wp2
                go_roundw
                case rel => exact ⟨i + 1, by omega, by go_num, by rw [HK3.out]; exact ⟨HM.out, HB2.out⟩⟩
                case measure => simp [intOf]; omega
            · have y2 : (x.frm == f) = false := beq_eq_false_iff_ne.2 e1
              have HK3 : Hid (mine f ((k : Int) + 1) (l.take (i + 1)) = acc) := by show _ = _; rw [HK2.out, if_neg (fun e => e1 e.1), List.append_nil]
              clear HK2 e1
              go_wp2
              go_roundw
              case rel => exact ⟨i + 1, by omega, by go_num, by rw [HK3.out]; exact ⟨HM.out, HB2.out⟩⟩
              case measure => simp [intOf]; omega
          · obtain rfl : i = n := by omega
            obtain ⟨a7, c7, hu7⟩ := HM.out.form
            subst hu7
            have hMt := HT.out ((k : Int) + 1)
            have HM2 : Hid (Gr msR 51 wr wo.heap.size (fun g => g < w.heap.size ∨ wo.heap.size ≤ g) (.slice a7 (mine f ((k : Int) + 1) l).length c7) (mine f ((k : Int) + 1) l)) := by have := HM.out; rw [hMt] at this; exact this
            rw [hMt] at HM ⊢
            clear hMt HM HT HK HC HLn
            generalize mine f ((k : Int) + 1) l = ms at *
            by_cases hms : ms = []
            · have HK3 : Hid (togS f l (k + 1) = togS f l k) := by show _ = _; rw [HN2.out, if_pos hms]
              have HO2 : Hid (Gr pkR 24 wr w.heap.size (fun _ => True) u5 (togS f l k)) := HO.out.below HB2.out
              subst hms
              clear HN2 HM2
              go_wp2
              go_roundw
              case rel => exact ⟨k + 1, by omega, by go_num, by rw [HK3.out]; exact ⟨HO2.out, HBw.out⟩⟩
              case measure => simp [intOf]; omega
            · have HK3 : Hid (togS f l (k + 1) = togS f l k ++ [(f, (k : Int) + 1, ms)]) := by show _ = _; rw [HN2.out, if_neg hms]
              have hml : 0 < ms.length := List.length_pos_iff.2 hms
              have HO2 : Hid (Gr pkR 24 wr w.heap.size (fun _ => True) u5 (togS f l k)) := HO.out.below HB2.out
              have HRw : Hid (RwV pkR (wr.alloc (Obj.cells #[.int .i64 f, .int .i64 ((k : Int) + 1), .slice a7 ms.length c7] 24)) (fun g => g < w.heap.size ∨ wo.heap.size ≤ g) (some ⟨wr.heap.size, 0, none⟩) 1 [(f, (k : Int) + 1, ms)]) := RwV.one (r := pkR) (us := pkCells a7 c7 (f, (k : Int) + 1, ms)) rfl (Or.inr hso) ⟨a7, c7, rfl, HM2.out.reads.2.sub fun g hg _ => by rcases hg with hg | hg; exact hg; exact .inr hg⟩
              have HPp : Hid (∀ g, (g < w.heap.size ∨ wo.heap.size ≤ g) → True ∧ u5.ownBlock ≠ some g) := fun g hg => ⟨trivial, fun e => by have := HO.out.own g e; omega⟩
              have HL2 : Hid ((togS f l k).length + [(f, (k : Int) + 1, ms)].length ≤ 1048576) := by show _ ≤ _; have := tog_len f l k; simp only [List.length_cons, List.length_nil]; omega
              have y4 : decide ((0 : Int) < (ms.length : Int)) = true := decide_eq_true (by omega)
              clear HN2 HM2 HO hms
              generalize ms.length = nm at *
              go_wp2_with (at_builtin; refine list_appR tyPk (by decide) (B := w.heap.size) (S := fun _ => True) (P := fun g => g < w.heap.size ∨ wo.heap.size ≤ g) (ts := togS f l k) (l := [(f, (k : Int) + 1, ms)]) rfl (.tmp 48) (.tmp 53) rfl (HO2.out.below ((Below.refl _ _).alloc (Nat.le_refl _) _)) HRw.out rfl (fun g hg _ => HPp.out g hg) (Nat.le_trans HBw.out.size (le_alloc _ _)) rfl rfl HL2.out ?_; intro v9 w9 g1 g2 g3; have HG9 : Hid (Gr pkR 24 w9 w.heap.size (fun _ => True) v9 (togS f l k ++ [(f, (k : Int) + 1, ms)])) := g1; have HB9 : Hid (Below w.heap.size w w9) := (HBw.out.alloc HBw.out.size _).grown g2 (Nat.le_trans HBw.out.size (le_alloc _ _)) (fun k hk => (HO2.out.own k hk).1); clear g1 g2 g3)
              go_roundw
              case rel => exact ⟨k + 1, by omega, by go_num, by rw [HK3.out]; exact ⟨HG9.out, HB9.out⟩⟩
              case measure => simp [intOf]; omega
    · obtain rfl : k = 7 := by omega
      obtain ⟨a5, c5, hu5⟩ := HO.out.form
      subst hu5
      have HR : Hid (RwV pkR wr (fun _ => True) a5 c5 (togS f l 7)) := HO.out.reads.2.all
      clear HC HK HT HO
      go_wp2
      go_ret
      exact ⟨a5, c5, rfl, HR.out, HB.out⟩
end Go.Proofs.Ytcaddedkodjgcaa
