/-
  The document's one: a message as bytes: its contract.
-/
import Derived.Test.YtcaddedkodjgcaaKnu
import Derived.Test.YtcaddedkodjgcaaKmg
namespace Go.Proofs.Ytcaddedkodjgcaa
open Go.RowKit Pack
set_option linter.unusedVariables false
set_option linter.unusedSimpArgs false

theorem Owns.base {w : World} {b b' : Nat} {v : Value} {l : BB} (h : Owns w b v l) (hb : b' ≤ b) : Owns w b' v l := ⟨h.1, h.2.imp id fun ⟨g, cap, cur, hv, hg, rest⟩ => ⟨g, cap, cur, hv, Nat.le_trans hb hg, rest⟩⟩
/-- A row of numbers, new. -/
theorem ints_new (w : World) (l : List Int) (e : TypeId) (h : ∀ i, i < l.length → InR (l.getD i 0)) (hl : l.length ≤ 100) (h0 : l ≠ []) : IlV (w.alloc (.cells (l.map (.int .i64)).toArray e)) (some ⟨w.heap.size, 0, none⟩) l.length l := by
  refine ⟨⟨by rw [List.length_map]; exact Nat.le_refl _, by omega, fun e => (by cases e), .inr ⟨w.heap.size, 0, rfl, fun i hi => ?_⟩⟩, h⟩
  rw [List.length_map] at hi
  have k := heap_alloc_new w (.cells (l.map (.int .i64)).toArray e)
  rw [Nat.zero_add, cell_of_row _ _ _ _ e (0, 0) k]
  simp
theorem flat_take {l : List En} {i : Nat} (h : i < l.length) : (l.take (i + 1)).flatMap entB = (l.take i).flatMap entB ++ entB (l.getD i zE) := by
  rw [take_snoc h, List.flatMap_append, List.getD_eq_getElem?_getD, List.getElem?_eq_getElem h]
  simp
theorem entOk_parts {e : En} (h : entOk e = true) : 1 ≤ e.1 ∧ e.1 ≤ 1099511627776 ∧ e.2.length ≤ 65536 := by
  unfold entOk at h
  simp only [Bool.and_eq_true, decide_eq_true_eq] at h
  exact ⟨h.1.1, h.1.2, h.2⟩
theorem flat_take_len {l : List En} (h : l.all entOk = true) : ∀ i, i ≤ l.length → ((l.take i).flatMap entB).length ≤ 65600 * i
  | 0, _ => by simp
  | i + 1, hi => by
    have h1 := flat_take_len h i (by omega)
    have h2 := entOk_parts (List.all_eq_true.1 h (l.getD i zE) (by rw [List.getD_eq_getElem?_getD, List.getElem?_eq_getElem (by omega)]; exact List.getElem_mem _))
    have h3 := entB_len (e := l.getD i zE) (by omega) (by omega)
    rw [flat_take (by omega), List.length_append]
    omega
theorem head_len {m : Ms} (h : msOk m = true) : (numsB (headL m)).length ≤ 80 := by
  obtain ⟨h1, h2, h3, h4, h5, h6, h7, h8, h9⟩ := msOk_parts h
  have hb : (if m.ok = true then (1 : Int) else 0) ≤ 1 := by split <;> omega
  refine nums_len (l := headL m) fun n hn => ?_
  unfold headL at hn
  simp only [List.mem_cons, List.not_mem_nil, or_false] at hn
  rcases hn with rfl | rfl | rfl | rfl | rfl | rfl | rfl | rfl <;> omega
theorem head_in {m : Ms} (h : msOk m = true) : ∀ i, i < (headL m).length → InR ((headL m).getD i 0) ∧ 0 ≤ (headL m).getD i 0 := by
  obtain ⟨h1, h2, h3, h4, h5, h6, h7, h8, h9⟩ := msOk_parts h
  have hb : (0 : Int) ≤ (if m.ok then 1 else 0) ∧ (if m.ok then (1 : Int) else 0) ≤ 1 := by split <;> omega
  intro i hi
  have hi' : i < 8 := hi
  unfold InR
  rcases i with _ | _ | _ | _ | _ | _ | _ | _ | i
  · show (_ ≤ m.kind ∧ m.kind ≤ _) ∧ 0 ≤ m.kind; omega
  · show (_ ≤ m.grp ∧ m.grp ≤ _) ∧ 0 ≤ m.grp; omega
  · show (_ ≤ m.term ∧ m.term ≤ _) ∧ 0 ≤ m.term; omega
  · show (_ ≤ m.at_ ∧ m.at_ ≤ _) ∧ 0 ≤ m.at_; omega
  · show (_ ≤ m.att ∧ m.att ≤ _) ∧ 0 ≤ m.att; omega
  · show (_ ≤ m.commit ∧ m.commit ≤ _) ∧ 0 ≤ m.commit; omega
  · show (_ ≤ (if m.ok then (1 : Int) else 0) ∧ (if m.ok then (1 : Int) else 0) ≤ _) ∧ 0 ≤ (if m.ok then (1 : Int) else 0); omega
  · show (_ ≤ (m.ents.length : Int) ∧ (m.ents.length : Int) ≤ _) ∧ 0 ≤ (m.ents.length : Int); omega
  · omega
/-- What a message's numbers are, from a new row. -/
theorem head_nums {w w0 : World} {m : Ms} (h : msOk m = true) {k : Int} (hk : k = if m.ok then 1 else 0) {n : Nat} (hn : n = m.ents.length) (e : TypeId) (hb : w0.heap.size ≤ w.heap.size) : Calls Try.prog 27 #[.slice (some ⟨w.heap.size, 0, none⟩) 8 8] (w.alloc (.cells #[.int .i64 m.kind, .int .i64 m.grp, .int .i64 m.term, .int .i64 m.at_, .int .i64 m.att, .int .i64 m.commit, .int .i64 k, .int .i64 (n : Int)] e)) fun e w' => ∃ v', e = .returned v' ∧ Owns w' w0.heap.size v' (numsB (headL m)) ∧ Below w.heap.size w w' := by
  subst hk hn
  have := RNums_any _ _ (headL m) _ (ints_new w (headL m) e (fun i hi => (head_in h i hi).1) (by show 8 ≤ 100; omega) (by simp [headL])) (fun i hi => (head_in h i hi).2) (by show 8 ≤ 100000; omega)
  refine this.mono fun e w' ⟨v', h1, h2, h3⟩ => ⟨v', h1, Owns.base h2 (Nat.le_trans hb (le_alloc _ _)), ((Below.refl _ _).alloc (Nat.le_refl _) _).trans (h3.mono (le_alloc _ _))⟩
/-- One number, from a new row. -/
theorem one_num (wx : World) (g : Nat) (t : Int) (e : TypeId) (hg : g = wx.heap.size) (h0 : 0 ≤ t) (h1 : t ≤ 1099511627776) : Calls Try.prog 27 #[.slice (some ⟨g, 0, none⟩) 1 1] (wx.alloc (.cells #[.int .i64 t] e)) fun e w' => ∃ v', e = .returned v' ∧ Owns w' wx.heap.size v' (numsB [t]) ∧ Below wx.heap.size wx w' := by
  subst hg
  have hr : ∀ i, i < [t].length → InR ([t].getD i 0) ∧ 0 ≤ [t].getD i 0 := fun i hi => by
    have : i = 0 := by simpa using hi
    subst this
    unfold InR
    show (_ ≤ t ∧ t ≤ _) ∧ 0 ≤ t
    omega
  have := RNums_any _ _ [t] _ (ints_new wx [t] e (fun i hi => (hr i hi).1) (by show 1 ≤ 100; omega) (by simp)) (fun i hi => (hr i hi).2) (by show 1 ≤ 100000; omega)
  exact this.mono fun e w' ⟨v', h1, h2, h3⟩ => ⟨v', h1, Owns.base h2 (le_alloc _ _), ((Below.refl _ _).alloc (Nat.le_refl _) _).trans (h3.mono (le_alloc _ _))⟩
set_option maxRecDepth 100000 in
set_option maxHeartbeats 2000000 in
theorem one_walk {w : World} {ax : Ax} {m : Ms} {P : Nat → Prop} (hx : MsV w P ax m) (hk : msOk m = true) (b : Bool) (hb : m.ok = b) : Calls Try.prog 28 #[.agg #[.int .i64 m.kind, .int .i64 m.grp, .int .i64 m.frm, .int .i64 m.to, .int .i64 m.term, .int .i64 m.at_, .int .i64 m.att, .int .i64 m.commit, .bool b, .slice ax.ea m.ents.length ax.ec, .slice ax.da m.data.length ax.dc]] w fun e w' => ∃ v', e = .returned v' ∧ Owns w' w.heap.size v' (msB m) ∧ Below w.heap.size w w' := by
  obtain ⟨_, _, _, _, _, _, g8, g9, hall⟩ := msOk_parts hk
  have HS := one_box w ax m
  rw [hb] at HS
  have HB : Hid (Below w.heap.size w (w.alloc (Obj.cells #[.int .i64 m.kind, .int .i64 m.grp, .int .i64 m.frm, .int .i64 m.to, .int .i64 m.term, .int .i64 m.at_, .int .i64 m.att, .int .i64 m.commit, .bool b, .slice ax.ea m.ents.length ax.ec, .slice ax.da m.data.length ax.dc] 51))) := HS.2
  have hsz : (w.alloc (Obj.cells #[.int .i64 m.kind, .int .i64 m.grp, .int .i64 m.frm, .int .i64 m.to, .int .i64 m.term, .int .i64 m.at_, .int .i64 m.att, .int .i64 m.commit, .bool b, .slice ax.ea m.ents.length ax.ec, .slice ax.da m.data.length ax.dc] 51)).heap.size = w.heap.size + 1 := size_alloc _ _
  have hp : w.heap.size < (w.alloc (Obj.cells #[.int .i64 m.kind, .int .i64 m.grp, .int .i64 m.frm, .int .i64 m.to, .int .i64 m.term, .int .i64 m.at_, .int .i64 m.att, .int .i64 m.commit, .bool b, .slice ax.ea m.ents.length ax.ec, .slice ax.da m.data.length ax.dc] 51)).heap.size := by omega
  obtain ⟨p0, p1, p2, p3, p4, p5, p6, p7, p8, p9, p10, pf⟩ := id HS.1
  rw [hb] at p8
  have HH : Hid (∀ (wx : World) (g : Nat) (k : Int) (n : Nat) (e : TypeId), g = wx.heap.size → w.heap.size + 1 ≤ wx.heap.size → k = (if b then 1 else 0) → n = m.ents.length → Calls Try.prog 27 #[.slice (some ⟨g, 0, none⟩) 8 8] (wx.alloc (.cells #[.int .i64 m.kind, .int .i64 m.grp, .int .i64 m.term, .int .i64 m.at_, .int .i64 m.att, .int .i64 m.commit, .int .i64 k, .int .i64 (n : Int)] e)) fun e w' => ∃ v', e = .returned v' ∧ Owns w' (w.heap.size + 1) v' (numsB (headL m)) ∧ Below wx.heap.size wx w') := fun wx g k n e q0 q1 q2 q3 => by
    subst q0
    refine (head_nums (w0 := wx) hk (by rw [hb]; exact q2) q3 e (Nat.le_refl _)).mono fun e w' ⟨v', z1, z2, z3⟩ => ⟨v', z1, Owns.base z2 q1, z3⟩
  have HX : Hid (∀ wr, Below (w.heap.size + 1) (w.alloc (Obj.cells #[.int .i64 m.kind, .int .i64 m.grp, .int .i64 m.frm, .int .i64 m.to, .int .i64 m.term, .int .i64 m.at_, .int .i64 m.att, .int .i64 m.commit, .bool b, .slice ax.ea m.ents.length ax.ec, .slice ax.da m.data.length ax.dc] 51)) wr → Below w.heap.size w wr ∧ wr.cell? ⟨w.heap.size, 9, none⟩ = some (.slice ax.ea m.ents.length ax.ec) ∧ wr.cell? ⟨w.heap.size, 10, none⟩ = some (.slice ax.da m.data.length ax.dc) ∧ w.heap.size + 1 ≤ wr.heap.size) := fun wr q => ⟨HS.2.trans (q.mono (Nat.le_succ _)), (cell_kept (q.block _ (Nat.lt_succ_self _)) _).trans p9, (cell_kept (q.block _ (Nat.lt_succ_self _)) _).trans p10, by have := q.size; omega⟩
  have HE : Hid (∀ i, i < m.ents.length → ∃ (g o : Nat) (ka : Option Addr) (kc kn : Nat) (t : Int), ax.ea = some ⟨g, o, none⟩ ∧ g < w.heap.size ∧ t = (m.ents.getD i zE).1 ∧ (0 ≤ t ∧ t ≤ 1099511627776) ∧ Hid (∀ wr, Below w.heap.size w wr → wr.cell? ⟨g, o + i * 2, none⟩ = some (.int .i64 t) ∧ wr.cell? ⟨g, o + i * 2 + 1, none⟩ = some (.slice ka kn kc) ∧ ReadsV wr (.slice ka kn kc) (m.ents.getD i zE).2) ∧ Hid ((m.ents.getD i zE).2.length ≤ 65536)) := fun i hi => by
    obtain ⟨b, o, ka, kc, q1, q2, q3, q4, q5, q6, _⟩ := hx.e.at_ hi
    have h2 := entOk_parts (List.all_eq_true.1 hall (m.ents.getD i zE) (by rw [List.getD_eq_getElem?_getD, List.getElem?_eq_getElem hi]; exact List.getElem_mem _))
    exact ⟨b, o, ka, kc, _, _, q1, q6, rfl, ⟨Int.le_trans (by decide) h2.1, h2.2.1⟩, fun wr q => ⟨(cell_kept (q.block _ q6) _).trans q2, (cell_kept (q.block _ q6) _).trans q3, q4.below q⟩, h2.2.2⟩
  have HT : Hid (∀ i, i < m.ents.length → numsB (headL m) ++ (m.ents.take (i + 1)).flatMap entB = (numsB (headL m) ++ (m.ents.take i).flatMap entB) ++ numsB [(m.ents.getD i zE).1] ++ (urow (m.ents.getD i zE).2.length ++ (m.ents.getD i zE).2)) := fun i hi => by show _ = _; rw [flat_take hi]; unfold entB numsB; simp
  have HL : Hid (∀ i, i ≤ m.ents.length → (numsB (headL m) ++ (m.ents.take i).flatMap entB).length ≤ 1000000) := fun i hi => by have h1 := flat_take_len hall i hi; have h2 := head_len hk; rw [List.length_append]; omega
  have HZ : Hid (msB m = (numsB (headL m) ++ (m.ents.take m.ents.length).flatMap entB) ++ (urow m.data.length ++ m.data)) := by show _ = _; unfold msB; rw [List.take_length, List.append_assoc]
  have HD : Hid (∀ wr, Below w.heap.size w wr → ReadsV wr (.slice ax.da m.data.length ax.dc) m.data) := fun wr q => hx.d.below q
  have HD2 : Hid (m.data.length ≤ 65536) := g9
  have c1 := hx.e.cap1
  have c2 := hx.e.cap2
  clear hx hk HS hall g8 g9 hb
  cases b
  all_goals (
    go_enter Try.func28, Try.ntmps28
    go_wp2_with (go_at_call 27; refine (HH.out _ _ _ _ _ (by rw [size_alloc]) (Nat.le_of_eq (size_alloc _ _).symm) (by rfl) (by rfl)).mono ?_; rintro e w1 ⟨v1, rfl, ho, qB⟩; have HO : Hid (Owns w1 (w.heap.size + 1) v1 (numsB (headL m))) := ho; have HB1 : Hid (Below (w.heap.size + 1) _ w1) := qB.mono (Nat.le_of_eq (size_alloc _ _).symm); clear ho qB)
    clear p0 p1 p2 p3 p4 p5 p6 p7 p8 p9 p10 pf HH hp hsz HB
    generalize (w.alloc _) = wb at *
    generalize numsB (headL m) = hd at *
    generalize ax.ea = ea at *
    generalize ax.ec = ec at *
    generalize hn : m.ents.length = n at *
    generalize hm : m.data.length = nd at *
    go_loopw [4, 5] (fun v y wr => ∃ (i : Nat), i ≤ n ∧ y = .int .i64 i ∧ Owns wr (w.heap.size + 1) v (hd ++ (m.ents.take i).flatMap entB) ∧ Below (w.heap.size + 1) wb wr) (fun _ y _ => n - (intOf y).toNat)
    case atStart => exact ⟨0, Nat.zero_le _, rfl, by simpa using HO.out, HB1.out⟩
    case round =>
      clear HO HB1
      obtain ⟨i, hi, rfl, hown, hB⟩ := hrel
      have HO : Hid (Owns wr (w.heap.size + 1) u4 (hd ++ (m.ents.take i).flatMap entB)) := hown
      have HB : Hid (Below (w.heap.size + 1) wb wr) := hB
      obtain ⟨_, x9, x10, hz⟩ := HX.out wr hB
      have HBw : Hid (Below w.heap.size w wr) := (HX.out wr hB).1
      clear hown hB
      by_cases hlt : i < n
      · obtain ⟨g, o, ka, kc, kn, t, rfl, hg, ht, ht2, hW, hD⟩ := HE.out i hlt
        obtain ⟨y0, y1, _⟩ := hW.out wr HBw.out
        have hgz : g < wr.heap.size := by omega
        have hne : g ≠ w.heap.size := by omega
        have HN : Hid (∀ (wx : World) (g : Nat) (e : TypeId), g = wx.heap.size → Calls Try.prog 27 #[.slice (some ⟨g, 0, none⟩) 1 1] (wx.alloc (.cells #[.int .i64 t] e)) fun e w' => ∃ v', e = .returned v' ∧ Owns w' wx.heap.size v' (numsB [t]) ∧ Below wx.heap.size wx w') := fun wx g e q => one_num wx g t e q ht2.1 ht2.2
        have HG : Hid (hd ++ (m.ents.take (i + 1)).flatMap entB = (hd ++ (m.ents.take i).flatMap entB) ++ numsB [t] ++ (urow (m.ents.getD i zE).2.length ++ (m.ents.getD i zE).2)) := by show _ = _; rw [ht]; exact HT.out i hlt
        have hl0 := HL.out i hi
        have hl1 : (numsB [t]).length ≤ 10 := nums_len (l := [t]) fun x hx => by simp only [List.mem_cons, List.not_mem_nil, or_false] at hx; subst hx; omega
        have hl2 := hD.out
        have hl3 := urow_len (n := (m.ents.getD i zE).2.length) (by omega)
        have HM1 : Hid ((hd ++ (m.ents.take i).flatMap entB).length + (numsB [t]).length ≤ 140737488355328) := by show _ ≤ _; omega
        have HM2 : Hid ((hd ++ (m.ents.take i).flatMap entB ++ numsB [t]).length + (urow (m.ents.getD i zE).2.length ++ (m.ents.getD i zE).2).length ≤ 140737488355328) := by show _ ≤ _; simp only [List.length_append] at hl0 ⊢; omega
        have HM3 : Hid ((m.ents.getD i zE).2.length ≤ 100000000000000) := by show _ ≤ _; omega
        clear hl0 hl1 hl2 hl3 HT HL HE ht HZ HD HD2 hD
        generalize hd ++ (m.ents.take i).flatMap entB = acc at *
        generalize (m.ents.getD i zE).2 = d at *
        generalize numsB [t] = nb at *
        go_wp2_with (first
          | (go_at_call 27; refine (HN.out _ _ _ rfl).mono ?_; rintro e w2 ⟨v2, rfl, ho, qB⟩; have HV2 : Hid (Owns w2 wr.heap.size v2 nb) := ho; have HB2 : Hid (Below wr.heap.size wr w2) := qB; clear ho qB)
          | (go_at_call 45; refine (rbytes_any _ d _ (hW.out _ (HX.out _ HB3.out).1).2.2 HM3.out).mono ?_; rintro e w4 ⟨v4, rfl, ho, qB⟩; have HV4 : Hid (Owns w4 w3.heap.size v4 (urow d.length ++ d)) := ho; have HB4 : Hid (Below w3.heap.size w3 w4) := qB; clear ho qB)
          | (at_builtin; refine wpList_append_bytes rfl (.tmp 43) (.tmp 50) 27 rfl (w.heap.size + 1) Try.underlying27 Try.info5 _ (acc ++ nb) rfl (HO3.out.below HB4.out) _ (urow d.length ++ d) rfl (ReadsV.of_own HV4.out) HM2.out (Nat.le_trans (HX.out _ HB3.out).2.2.2 HB4.out.size) ?_; intro v5 w5 hown hg; have HO5 : Hid (Owns w5 (w.heap.size + 1) v5 (acc ++ nb ++ (urow d.length ++ d))) := hown; have HB5 : Hid (Below (w.heap.size + 1) wb w5) := (HB3.out.trans (HB4.out.mono (HX.out _ HB3.out).2.2.2)).trans hg; clear hown hg)
          | (at_builtin; refine wpList_append_bytes rfl (.tmp 33) (.tmp 41) 27 rfl (w.heap.size + 1) Try.underlying27 Try.info5 _ acc rfl (HO.out.below HB2.out) _ nb rfl (ReadsV.of_own HV2.out) HM1.out (Nat.le_trans hz HB2.out.size) ?_; intro v3 w3 hown hg; have HO3 : Hid (Owns w3 (w.heap.size + 1) v3 (acc ++ nb)) := hown; have HB3 : Hid (Below (w.heap.size + 1) wb w3) := (HB.out.trans (HB2.out.mono hz)).trans hg; clear hown hg; obtain ⟨_, z9, z10, hz3⟩ := HX.out w3 HB3.out; obtain ⟨z0, z1, _⟩ := hW.out w3 (HX.out w3 HB3.out).1; have hgz3 : g < w3.heap.size := by omega))
        go_roundw
        case rel => exact ⟨i + 1, by omega, by go_num, by rw [HG.out]; exact HO5.out, HB5.out⟩
        case measure => simp [intOf]; omega
      · obtain rfl : i = n := by omega
        have HR : Hid (ReadsV wr (.slice ax.da nd ax.dc) m.data) := HD.out wr HBw.out
        have hl0 := HL.out i hi
        have hl2 := HD2.out
        have hl3 := urow_len (n := nd) (by omega)
        have HM2 : Hid ((hd ++ (m.ents.take i).flatMap entB).length + (urow m.data.length ++ m.data).length ≤ 140737488355328) := by show _ ≤ _; rw [hm]; simp only [List.length_append] at hl0 ⊢; omega
        have HM3 : Hid (m.data.length ≤ 100000000000000) := by show _ ≤ _; omega
        have HY : Hid (msB m = (hd ++ (m.ents.take i).flatMap entB) ++ (urow m.data.length ++ m.data)) := by show _ = _; rw [HZ.out, hm]
        clear hl0 hl2 hl3 HT HL HE HZ HD HD2 hm
        generalize hd ++ (m.ents.take i).flatMap entB = acc at *
        generalize m.data = d at *
        go_wp2_with (first
          | (go_at_call 45; refine (rbytes_any _ d _ HR.out HM3.out).mono ?_; rintro e w4 ⟨v4, rfl, ho, qB⟩; have HV4 : Hid (Owns w4 wr.heap.size v4 (urow d.length ++ d)) := ho; have HB4 : Hid (Below wr.heap.size wr w4) := qB; clear ho qB)
          | (at_builtin; refine wpList_append_bytes rfl (.tmp 52) (.tmp 55) 27 rfl (w.heap.size + 1) Try.underlying27 Try.info5 _ acc rfl (HO.out.below HB4.out) _ (urow d.length ++ d) rfl (ReadsV.of_own HV4.out) HM2.out (Nat.le_trans hz HB4.out.size) ?_; intro v5 w5 hown hg; have HO5 : Hid (Owns w5 (w.heap.size + 1) v5 (acc ++ (urow d.length ++ d))) := hown; have HB5 : Hid (Below (w.heap.size + 1) wb w5) := (HB.out.trans (HB4.out.mono hz)).trans hg; clear hown hg))
        go_ret
        exact ⟨_, rfl, by rw [HY.out]; exact Owns.base HO5.out (Nat.le_succ _), (HX.out _ HB5.out).1⟩)
theorem ROne_any {w : World} {ax : Ax} {m : Ms} {P : Nat → Prop} (hx : MsV w P ax m) (hk : msOk m = true) : Calls Try.prog 28 #[msA ax m] w fun e w' => ∃ v', e = .returned v' ∧ Owns w' w.heap.size v' (msB m) ∧ Below w.heap.size w w' := one_walk hx hk _ rfl
end Go.Proofs.Ytcaddedkodjgcaa
