/-
  The document's Check of packets: its contract.
-/
import Derived.Test.YtcaddedkodjgcaaKmg
namespace Go.Proofs.Ytcaddedkodjgcaa
open Go.RowKit Pack
set_option linter.unusedVariables false
set_option linter.unusedSimpArgs false

theorem fits_no {f t : Int} {l : List Ms} {i : Nat} (hi : i < l.length) (h : msFit f t (l.getD i zMs) = false) : l.all (msFit f t) = false := by
  cases e : l.all (msFit f t) with
  | false => rfl
  | true =>
    have := List.all_eq_true.1 e _ (List.getElem_mem hi)
    rw [List.getD_eq_getElem?_getD, List.getElem?_eq_getElem hi] at h
    exact absurd (h.symm.trans this) (by simp)
theorem fits_yes {f t : Int} {l : List Ms} (h : ∀ i, i < l.length → msFit f t (l.getD i zMs) = true) : l.all (msFit f t) = true := List.all_eq_true.2 fun x hx => by
  obtain ⟨i, hi, rfl⟩ := List.getElem_of_mem hx
  have := h i hi
  rw [List.getD_eq_getElem?_getD, List.getElem?_eq_getElem hi] at this
  exact this
theorem pchk_head {f t : Int} {l : List Ms} (h : inI f 1 7 = false ∨ inI t 1 7 = false ∨ f = t) : pchk f t l = 1 := if_pos h
theorem pchk_many {f t : Int} {l : List Ms} (h : ¬ (inI f 1 7 = false ∨ inI t 1 7 = false ∨ f = t)) (hl : 256 < l.length) : pchk f t l = 6 := by unfold pchk; rw [if_neg h, if_pos hl]
theorem pchk_rest {f t : Int} {l : List Ms} (h : ¬ (inI f 1 7 = false ∨ inI t 1 7 = false ∨ f = t)) (hl : ¬ 256 < l.length) : pchk f t l = if l.all (msFit f t) = true then 0 else 1 := by unfold pchk; rw [if_neg h, if_neg hl]
theorem pack_box (w : World) (f t : Int) (a : Option Addr) (n c : Nat) : Cell3 (w.alloc (Obj.cells #[.int .i64 f, .int .i64 t, .slice a n c] 24)) w.heap.size (.int .i64 f) (.int .i64 t) (.slice a n c) ∧ Below w.heap.size w (w.alloc (Obj.cells #[.int .i64 f, .int .i64 t, .slice a n c] 24)) := ⟨Cell3.new w _ _ _ _, (Below.refl _ _).alloc (Nat.le_refl _) _⟩

set_option maxRecDepth 100000 in
set_option maxHeartbeats 800000 in
theorem RCheck_c0 {w : World} {P : Nat → Prop} {f t : Int} {a : Option Addr} {c : Nat} {l : List Ms} (hl : RwV msR w P a c l) (e1 : inI f 1 7 = false) : Calls Try.prog 15 #[.agg #[.int .i64 f, .int .i64 t, .slice a l.length c]] w fun e w' => e = .returned (.int .i64 (pchk f t l)) ∧ Below w.heap.size w w' := by
  rw [pchk_head (.inl e1)]
  have HS := pack_box w f t a l.length c
  have HB : Hid (Below w.heap.size w (w.alloc (Obj.cells #[.int .i64 f, .int .i64 t, .slice a l.length c] 24))) := HS.2
  obtain ⟨p0, p1, p2, pf⟩ := HS.1
  have HJ : Hid (∀ n a b wr, Calls Try.prog 31 #[.int .i64 n, .int .i64 a, .int .i64 b] wr fun e w' => e = .returned (.bool (inI n a b)) ∧ w' = wr) := fun n a b wr => in_any n a b wr
  clear HS hl 
  generalize l.length = n at *
  go_enter Try.func15, Try.ntmps15
  go_wp2_with (go_at_call 31; refine (HJ.out _ _ _ _).mono ?_; rintro e w1 ⟨rfl, rfl⟩)
  go_ret
  exact ⟨rfl, HB.out⟩

set_option maxRecDepth 100000 in
set_option maxHeartbeats 800000 in
theorem RCheck_c1 {w : World} {P : Nat → Prop} {f t : Int} {a : Option Addr} {c : Nat} {l : List Ms} (hl : RwV msR w P a c l) (e1 : inI f 1 7 = true) (e2 : inI t 1 7 = false) : Calls Try.prog 15 #[.agg #[.int .i64 f, .int .i64 t, .slice a l.length c]] w fun e w' => e = .returned (.int .i64 (pchk f t l)) ∧ Below w.heap.size w w' := by
  rw [pchk_head (.inr (.inl e2))]
  have HS := pack_box w f t a l.length c
  have HB : Hid (Below w.heap.size w (w.alloc (Obj.cells #[.int .i64 f, .int .i64 t, .slice a l.length c] 24))) := HS.2
  obtain ⟨p0, p1, p2, pf⟩ := HS.1
  have HJ : Hid (∀ n a b wr, Calls Try.prog 31 #[.int .i64 n, .int .i64 a, .int .i64 b] wr fun e w' => e = .returned (.bool (inI n a b)) ∧ w' = wr) := fun n a b wr => in_any n a b wr
  clear HS hl 
  generalize l.length = n at *
  go_enter Try.func15, Try.ntmps15
  go_wp2_with (go_at_call 31; refine (HJ.out _ _ _ _).mono ?_; rintro e w1 ⟨rfl, rfl⟩)
  go_ret
  exact ⟨rfl, HB.out⟩

set_option maxRecDepth 100000 in
set_option maxHeartbeats 800000 in
theorem RCheck_c2 {w : World} {P : Nat → Prop} {f t : Int} {a : Option Addr} {c : Nat} {l : List Ms} (hl : RwV msR w P a c l) (e1 : inI f 1 7 = true) (e2 : inI t 1 7 = true) (e3 : f = t) : Calls Try.prog 15 #[.agg #[.int .i64 f, .int .i64 t, .slice a l.length c]] w fun e w' => e = .returned (.int .i64 (pchk f t l)) ∧ Below w.heap.size w w' := by
  rw [pchk_head (.inr (.inr e3))]
  have HS := pack_box w f t a l.length c
  have HB : Hid (Below w.heap.size w (w.alloc (Obj.cells #[.int .i64 f, .int .i64 t, .slice a l.length c] 24))) := HS.2
  obtain ⟨p0, p1, p2, pf⟩ := HS.1
  have HJ : Hid (∀ n a b wr, Calls Try.prog 31 #[.int .i64 n, .int .i64 a, .int .i64 b] wr fun e w' => e = .returned (.bool (inI n a b)) ∧ w' = wr) := fun n a b wr => in_any n a b wr
  have x3 : (f == t) = true := beq_iff_eq.2 e3
  clear HS hl e3
  generalize l.length = n at *
  go_enter Try.func15, Try.ntmps15
  go_wp2_with (go_at_call 31; refine (HJ.out _ _ _ _).mono ?_; rintro e w1 ⟨rfl, rfl⟩)
  go_ret
  exact ⟨rfl, HB.out⟩

set_option maxRecDepth 100000 in
set_option maxHeartbeats 800000 in
theorem RCheck_c3 {w : World} {P : Nat → Prop} {f t : Int} {a : Option Addr} {c : Nat} {l : List Ms} (hl : RwV msR w P a c l) (e1 : inI f 1 7 = true) (e2 : inI t 1 7 = true) (e3 : ¬ f = t) (g : 256 < l.length) : Calls Try.prog 15 #[.agg #[.int .i64 f, .int .i64 t, .slice a l.length c]] w fun e w' => e = .returned (.int .i64 (pchk f t l)) ∧ Below w.heap.size w w' := by
  rw [pchk_many (by simp [e1, e2, e3]) g]
  have HS := pack_box w f t a l.length c
  have HB : Hid (Below w.heap.size w (w.alloc (Obj.cells #[.int .i64 f, .int .i64 t, .slice a l.length c] 24))) := HS.2
  obtain ⟨p0, p1, p2, pf⟩ := HS.1
  have HJ : Hid (∀ n a b wr, Calls Try.prog 31 #[.int .i64 n, .int .i64 a, .int .i64 b] wr fun e w' => e = .returned (.bool (inI n a b)) ∧ w' = wr) := fun n a b wr => in_any n a b wr
  have x3 : (f == t) = false := beq_eq_false_iff_ne.2 e3
  have x4 : decide (256 < (l.length : Int)) = true := decide_eq_true (by omega)
  clear HS hl 
  generalize l.length = n at *
  go_enter Try.func15, Try.ntmps15
  go_wp2_with (go_at_call 31; refine (HJ.out _ _ _ _).mono ?_; rintro e w1 ⟨rfl, rfl⟩)
  go_ret
  exact ⟨rfl, HB.out⟩

set_option maxRecDepth 100000 in
set_option maxHeartbeats 800000 in
theorem RCheck_c4 {w : World} {P : Nat → Prop} {f t : Int} {a : Option Addr} {c : Nat} {l : List Ms} (hl : RwV msR w P a c l) (e1 : inI f 1 7 = true) (e2 : inI t 1 7 = true) (e3 : ¬ f = t) (g : ¬ 256 < l.length) : Calls Try.prog 15 #[.agg #[.int .i64 f, .int .i64 t, .slice a l.length c]] w fun e w' => e = .returned (.int .i64 (pchk f t l)) ∧ Below w.heap.size w w' := by
  rw [pchk_rest (by simp [e1, e2, e3]) g]
  have HS := pack_box w f t a l.length c
  have HB : Hid (Below w.heap.size w (w.alloc (Obj.cells #[.int .i64 f, .int .i64 t, .slice a l.length c] 24))) := HS.2
  obtain ⟨p0, p1, p2, pf⟩ := HS.1
  have HJ : Hid (∀ n a b wr, Calls Try.prog 31 #[.int .i64 n, .int .i64 a, .int .i64 b] wr fun e w' => e = .returned (.bool (inI n a b)) ∧ w' = wr) := fun n a b wr => in_any n a b wr
  have x3 : (f == t) = false := beq_eq_false_iff_ne.2 e3
  have x4 : decide (256 < (l.length : Int)) = false := decide_eq_false (by omega)
  have h1 := hl.cap1
  have h2 := hl.cap2
  have HY : Hid ((∀ i, i < l.length → msFit f t (l.getD i zMs) = true) → (if l.all (msFit f t) = true then (0 : Int) else 1) = 0) := fun q => by rw [if_pos (fits_yes q)]
  have HN : Hid (∀ i, i < l.length → msFit f t (l.getD i zMs) = false → (if l.all (msFit f t) = true then (0 : Int) else 1) = 1) := fun i hi q => by rw [fits_no hi q]; rfl
  have HC : Hid (∀ wr i, Below w.heap.size w wr → i < l.length → ∃ (g o : Nat) (ax : Ax), a = some ⟨g, o, none⟩ ∧ g < wr.heap.size ∧ g < w.heap.size ∧ Hid (∀ we, Below wr.heap.size wr we → Calls Try.prog 32 #[.agg #[.int .i64 (l.getD i zMs).kind, .int .i64 (l.getD i zMs).grp, .int .i64 (l.getD i zMs).frm, .int .i64 (l.getD i zMs).to, .int .i64 (l.getD i zMs).term, .int .i64 (l.getD i zMs).at_, .int .i64 (l.getD i zMs).att, .int .i64 (l.getD i zMs).commit, .bool (l.getD i zMs).ok, .slice ax.ea (l.getD i zMs).ents.length ax.ec, .slice ax.da (l.getD i zMs).data.length ax.dc]] we fun e w' => e = .returned (.bool (msOk (l.getD i zMs))) ∧ Below we.heap.size we w') ∧ (wr.cell? ⟨g, o + i * 11, none⟩ = some (.int .i64 (l.getD i zMs).kind) ∧ wr.cell? ⟨g, o + i * 11 + 1, none⟩ = some (.int .i64 (l.getD i zMs).grp) ∧ wr.cell? ⟨g, o + i * 11 + 2, none⟩ = some (.int .i64 (l.getD i zMs).frm) ∧ wr.cell? ⟨g, o + i * 11 + 3, none⟩ = some (.int .i64 (l.getD i zMs).to) ∧ wr.cell? ⟨g, o + i * 11 + 4, none⟩ = some (.int .i64 (l.getD i zMs).term) ∧ wr.cell? ⟨g, o + i * 11 + 5, none⟩ = some (.int .i64 (l.getD i zMs).at_) ∧ wr.cell? ⟨g, o + i * 11 + 6, none⟩ = some (.int .i64 (l.getD i zMs).att) ∧ wr.cell? ⟨g, o + i * 11 + 7, none⟩ = some (.int .i64 (l.getD i zMs).commit) ∧ wr.cell? ⟨g, o + i * 11 + 8, none⟩ = some (.bool (l.getD i zMs).ok) ∧ wr.cell? ⟨g, o + i * 11 + 9, none⟩ = some (.slice ax.ea (l.getD i zMs).ents.length ax.ec) ∧ wr.cell? ⟨g, o + i * 11 + 10, none⟩ = some (.slice ax.da (l.getD i zMs).data.length ax.dc))) := fun wr i q hi => by
    obtain ⟨g, o, ax, q1, q2, q3, q4⟩ := (hl.below q).msg hi
    obtain ⟨g2, o2, _, r1, r2, _⟩ := hl.msg hi
    rw [q1] at r1
    cases r1
    exact ⟨g, o, ax, q1, q2, r2, fun we qe => Msg_any (q3.below qe), q4⟩
  have HP : Hid (Cell3 (w.alloc (Obj.cells #[.int .i64 f, .int .i64 t, .slice a l.length c] 24)) w.heap.size (.int .i64 f) (.int .i64 t) (.slice a l.length c)) := HS.1
  clear HS hl
  generalize (if l.all (msFit f t) = true then (0 : Int) else 1) = r at *
  generalize l.length = n at *
  go_enter Try.func15, Try.ntmps15
  go_wp2_with (go_at_call 31; refine (HJ.out _ _ _ _).mono ?_; rintro e w1 ⟨rfl, rfl⟩)
  go_loopw [3] (fun x wr => ∃ (i : Nat), i ≤ n ∧ x = .int .i64 i ∧ Hid (Below w.heap.size w wr ∧ Cell3 wr w.heap.size (.int .i64 f) (.int .i64 t) (.slice a n c) ∧ ∀ j, j < i → msFit f t (l.getD j zMs) = true)) (fun x _ => n - (intOf x).toNat)
  case atStart => exact ⟨0, Nat.zero_le _, rfl, HB.out, HP.out, fun j hj => absurd hj (Nat.not_lt_zero _)⟩
  case round =>
    clear p0 p1 p2 pf HB HP
    obtain ⟨i, hi, rfl, HR⟩ := hrel
    obtain ⟨p0, p1, p2, pf⟩ := HR.out.2.1
    have HB : Hid (Below w.heap.size w wr) := HR.out.1
    have hsz := HR.out.2.1.lt
    by_cases hlt : i < n
    · obtain ⟨g, o, ax, rfl, hg, hg2, HS, ⟨q0, q1, q2, q3, q4, q5, q6, q7, q8, q9, q10⟩⟩ := HC.out wr i HR.out.1 hlt
      have HF : Hid (msFit f t (l.getD i zMs) = false → r = 1) := fun q => HN.out i hlt q
      have HG : Hid (msFit f t (l.getD i zMs) = true → ∀ j, j < i + 1 → msFit f t (l.getD j zMs) = true) := fun q j hj => by
        by_cases e : j = i
        · subst e; exact q
        · exact HR.out.2.2 j (by omega)
      have HD : Hid (msFit f t (l.getD i zMs) = (decide ((l.getD i zMs).frm = f) && decide ((l.getD i zMs).to = t) && msOk (l.getD i zMs))) := rfl
      have hne : g ≠ w.heap.size := by omega
      clear HC HN HR HY
      generalize msFit f t (l.getD i zMs) = z at *
      generalize msOk (l.getD i zMs) = y at *
      generalize l.getD i zMs = x at *
      have HW : Hid (∀ we, Below wr.heap.size wr we → (we.cell? ⟨w.heap.size, 0, none⟩ = some (.int .i64 f) ∧ we.cell? ⟨w.heap.size, 1, none⟩ = some (.int .i64 t) ∧ we.cell? ⟨w.heap.size, 2, none⟩ = some (.slice (some ⟨g, o, none⟩) n c)) ∧ Cell3 we w.heap.size (.int .i64 f) (.int .i64 t) (.slice (some ⟨g, o, none⟩) n c) ∧ (we.cell? ⟨g, o + i * 11, none⟩ = some (.int .i64 x.kind) ∧ we.cell? ⟨g, o + i * 11 + 1, none⟩ = some (.int .i64 x.grp) ∧ we.cell? ⟨g, o + i * 11 + 2, none⟩ = some (.int .i64 x.frm) ∧ we.cell? ⟨g, o + i * 11 + 3, none⟩ = some (.int .i64 x.to) ∧ we.cell? ⟨g, o + i * 11 + 4, none⟩ = some (.int .i64 x.term) ∧ we.cell? ⟨g, o + i * 11 + 5, none⟩ = some (.int .i64 x.at_) ∧ we.cell? ⟨g, o + i * 11 + 6, none⟩ = some (.int .i64 x.att) ∧ we.cell? ⟨g, o + i * 11 + 7, none⟩ = some (.int .i64 x.commit) ∧ we.cell? ⟨g, o + i * 11 + 8, none⟩ = some (.bool x.ok) ∧ we.cell? ⟨g, o + i * 11 + 9, none⟩ = some (.slice ax.ea x.ents.length ax.ec) ∧ we.cell? ⟨g, o + i * 11 + 10, none⟩ = some (.slice ax.da x.data.length ax.dc))) := fun we q => ⟨⟨(cell_kept (q.block _ hsz) _).trans p0, (cell_kept (q.block _ hsz) _).trans p1, (cell_kept (q.block _ hsz) _).trans p2⟩, Cell3.kept ⟨p0, p1, p2, pf⟩ (q.block _ hsz), (cell_kept (q.block g hg) _).trans q0, (cell_kept (q.block g hg) _).trans q1, (cell_kept (q.block g hg) _).trans q2, (cell_kept (q.block g hg) _).trans q3, (cell_kept (q.block g hg) _).trans q4, (cell_kept (q.block g hg) _).trans q5, (cell_kept (q.block g hg) _).trans q6, (cell_kept (q.block g hg) _).trans q7, (cell_kept (q.block g hg) _).trans q8, (cell_kept (q.block g hg) _).trans q9, (cell_kept (q.block g hg) _).trans q10⟩
      by_cases k1 : x.frm = f
      · by_cases k2 : x.to = t
        · have y1 : (x.frm == f) = true := beq_iff_eq.2 k1
          have y2 : (x.frm != f) = false := by rw [bne, y1]; rfl
          have y3 : (x.to == t) = true := beq_iff_eq.2 k2
          have y4 : (x.to != t) = false := by rw [bne, y3]; rfl
          have HZ : Hid (z = y) := by show _ = _; rw [HD.out, decide_eq_true k1, decide_eq_true k2]; simp
          clear HD k1 k2
          go_wp2
          go_region_held3 (fun w' => (w'.cell? ⟨w.heap.size, 0, none⟩ = some (.int .i64 f) ∧ w'.cell? ⟨w.heap.size, 1, none⟩ = some (.int .i64 t) ∧ w'.cell? ⟨w.heap.size, 2, none⟩ = some (.slice (some ⟨g, o, none⟩) n c)) ∧ (w'.cell? ⟨g, o + i * 11, none⟩ = some (.int .i64 x.kind) ∧ w'.cell? ⟨g, o + i * 11 + 1, none⟩ = some (.int .i64 x.grp) ∧ w'.cell? ⟨g, o + i * 11 + 2, none⟩ = some (.int .i64 x.frm) ∧ w'.cell? ⟨g, o + i * 11 + 3, none⟩ = some (.int .i64 x.to) ∧ w'.cell? ⟨g, o + i * 11 + 4, none⟩ = some (.int .i64 x.term) ∧ w'.cell? ⟨g, o + i * 11 + 5, none⟩ = some (.int .i64 x.at_) ∧ w'.cell? ⟨g, o + i * 11 + 6, none⟩ = some (.int .i64 x.att) ∧ w'.cell? ⟨g, o + i * 11 + 7, none⟩ = some (.int .i64 x.commit) ∧ w'.cell? ⟨g, o + i * 11 + 8, none⟩ = some (.bool x.ok) ∧ w'.cell? ⟨g, o + i * 11 + 9, none⟩ = some (.slice ax.ea x.ents.length ax.ec) ∧ w'.cell? ⟨g, o + i * 11 + 10, none⟩ = some (.slice ax.da x.data.length ax.dc))) (go_keep) (first
            | (go_at_call 32; refine (HS.out _ (by first | exact (Below.refl _ _).drew | exact Below.refl _ _)).mono ?_; rintro e w1 ⟨rfl, qB⟩; have HV : Hid (Below wr.heap.size wr w1) := (Below.refl _ _).drew.trans qB; obtain ⟨⟨k0, k1, k2⟩, _, ⟨j0, j1, j2, j3, j4, j5, j6, j7, j8, j9, j10⟩⟩ := HW.out _ HV.out; clear qB))
          have HX := HW.out _ HV.out
          clear p0 p1 p2 pf q0 q1 q2 q3 q4 q5 q6 q7 q8 q9 q10 k0 k1 k2 j0 j1 j2 j3 j4 j5 j6 j7 j8 j9 j10 HW HS
          have HU : Hid (Cell3 w1 w.heap.size (.int .i64 f) (.int .i64 t) (.slice (some ⟨g, o, none⟩) n c)) := HX.2.1
          clear HX
          cases y
          · go_wp2
            go_ret
            exact ⟨by rw [HF.out (by rw [HZ.out])]; rfl, HB.out.trans (HV.out.mono HB.out.size)⟩
          · go_wp2
            go_roundw
            case rel => exact ⟨i + 1, by omega, by go_num, HB.out.trans (HV.out.mono HB.out.size), HU.out, HG.out (by rw [HZ.out])⟩
            case measure => simp [intOf]; omega
        · have y1 : (x.frm == f) = true := beq_iff_eq.2 k1
          have y2 : (x.frm != f) = false := by rw [bne, y1]; rfl
          have y3 : (x.to == t) = false := beq_eq_false_iff_ne.2 k2
          have y4 : (x.to != t) = true := by rw [bne, y3]; rfl
          have HT : Hid (r = 1) := HF.out (by rw [HD.out, decide_eq_true k1, decide_eq_false k2]; rfl)
          clear HD k1 k2 HF HG HS
          go_wp2
          go_quiet (fail)
          go_wp2
          go_ret
          exact ⟨by rw [HT.out]; rfl, below_drewN HB.out _⟩
      · have y1 : (x.frm == f) = false := beq_eq_false_iff_ne.2 k1
        have y2 : (x.frm != f) = true := by rw [bne, y1]; rfl
        have HT : Hid (r = 1) := HF.out (by rw [HD.out, decide_eq_false k1]; rfl)
        clear HD k1 HF HG HS
        go_wp2
        go_quiet (fail)
        go_wp2
        go_ret
        exact ⟨by rw [HT.out]; rfl, below_drewN HB.out _⟩
    · have HT : Hid (r = 0) := HY.out fun j hj => HR.out.2.2 j (by omega)
      clear HC HN HR HY
      go_wp2
      go_ret
      exact ⟨by rw [HT.out]; rfl, HB.out⟩

theorem RCheck_any {w : World} {P : Nat → Prop} {f t : Int} {a : Option Addr} {c : Nat} {l : List Ms} (hl : RwV msR w P a c l) : Calls Try.prog 15 #[.agg #[.int .i64 f, .int .i64 t, .slice a l.length c]] w fun e w' => e = .returned (.int .i64 (pchk f t l)) ∧ Below w.heap.size w w' := by
  cases e1 : inI f 1 7
  · exact RCheck_c0 hl e1
  · cases e2 : inI t 1 7
    · exact RCheck_c1 hl e1 e2
    · by_cases e3 : f = t
      · exact RCheck_c2 hl e1 e2 e3
      · by_cases g : 256 < l.length
        · exact RCheck_c3 hl e1 e2 e3 g
        · exact RCheck_c4 hl e1 e2 e3 g

end Go.Proofs.Ytcaddedkodjgcaa
