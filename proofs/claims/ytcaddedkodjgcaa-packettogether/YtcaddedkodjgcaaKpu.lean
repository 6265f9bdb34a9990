/-
  The document's Put of packets: its contract.
-/
import Derived.Test.YtcaddedkodjgcaaKon
import Derived.Test.YtcaddedkodjgcaaKck
namespace Go.Proofs.Ytcaddedkodjgcaa
open Go.RowKit Pack
set_option linter.unusedVariables false
set_option linter.unusedSimpArgs false

theorem msB_len2 {m : Ms} (h : msOk m = true) : (msB m).length ≤ 140 * wtM m := by
  obtain ⟨h1, h2, h3, h4, h5, h6, h7, h8, h9⟩ := msOk_parts h
  have k1 := head_len h
  have k2 := ents_len (l := m.ents) fun e he => by have := entOk_parts (List.all_eq_true.1 h9 e he); omega
  have k3 := urow_len (n := m.data.length) (by omega)
  unfold msB wtM
  rw [List.length_append, List.length_append, List.length_append]
  omega
theorem msOk_fit {f t : Int} {m : Ms} (h : msFit f t m = true) : msOk m = true := by
  unfold msFit at h
  simp only [Bool.and_eq_true] at h
  exact h.2
theorem mss_take {l : List Ms} {i : Nat} (h : i < l.length) : (l.take (i + 1)).flatMap msB = (l.take i).flatMap msB ++ msB (l.getD i zMs) := by
  rw [take_snoc h, List.flatMap_append, List.getD_eq_getElem?_getD, List.getElem?_eq_getElem h]
  simp
theorem mem_getD {l : List Ms} {i : Nat} (h : i < l.length) : l.getD i zMs ∈ l := by rw [List.getD_eq_getElem?_getD, List.getElem?_eq_getElem h]; exact List.getElem_mem _
theorem mss_take_len {f t : Int} {l : List Ms} (h : l.all (msFit f t) = true) : ∀ i, i ≤ l.length → ((l.take i).flatMap msB).length ≤ 140 * wtMs (l.take i)
  | 0, _ => by simp
  | i + 1, hi => by
    have h1 := mss_take_len h i (by omega)
    have h2 := msB_len2 (msOk_fit (List.all_eq_true.1 h (l.getD i zMs) (mem_getD (by omega))))
    rw [mss_take (by omega), List.length_append, wtMs_take (by omega)]
    omega
theorem wtMs_le : ∀ (l : List Ms) (i : Nat), wtMs (l.take i) ≤ wtMs l
  | [], i => by simp
  | x :: l, 0 => by unfold wtMs; simp
  | x :: l, i + 1 => by
    have := wtMs_le l i
    unfold wtMs at this ⊢
    simp only [List.take_succ_cons, List.map_cons, List.sum_cons]
    omega
theorem three_in {f t : Int} {n : Nat} (h : 1 ≤ f ∧ f ≤ 7) (h2 : 1 ≤ t ∧ t ≤ 7) (h3 : n ≤ 256) : ∀ i, i < [f, t, (n : Int)].length → InR ([f, t, (n : Int)].getD i 0) ∧ 0 ≤ [f, t, (n : Int)].getD i 0 := by
  intro i hi
  have hi' : i < 3 := hi
  unfold InR
  rcases i with _ | _ | _ | i
  · show (_ ≤ f ∧ f ≤ _) ∧ 0 ≤ f; omega
  · show (_ ≤ t ∧ t ≤ _) ∧ 0 ≤ t; omega
  · show (_ ≤ (n : Int) ∧ (n : Int) ≤ _) ∧ 0 ≤ (n : Int); omega
  · omega
theorem three_nums (wx : World) (g : Nat) (f t : Int) (n : Nat) (e : TypeId) (hg : g = wx.heap.size) (h : 1 ≤ f ∧ f ≤ 7) (h2 : 1 ≤ t ∧ t ≤ 7) (h3 : n ≤ 256) : Calls Try.prog 27 #[.slice (some ⟨g, 0, none⟩) 3 3] (wx.alloc (.cells #[.int .i64 f, .int .i64 t, .int .i64 (n : Int)] e)) fun e w' => ∃ v', e = .returned v' ∧ Owns w' wx.heap.size v' (numsB [f, t, (n : Int)]) ∧ Below wx.heap.size wx w' := by
  subst hg
  have hr := three_in h h2 h3
  have := RNums_any _ _ [f, t, (n : Int)] _ (ints_new wx [f, t, (n : Int)] e (fun i hi => (hr i hi).1) (by show 3 ≤ 100; omega) (by simp)) (fun i hi => (hr i hi).2) (by show 3 ≤ 100000; omega)
  exact this.mono fun e w' ⟨v', h1, h2, h3⟩ => ⟨v', h1, Owns.base h2 (le_alloc _ _), ((Below.refl _ _).alloc (Nat.le_refl _) _).trans (h3.mono (le_alloc _ _))⟩
/-- What Put answers. -/
def PutP (f t : Int) (l : List Ms) (w : World) (e : Ending) (w' : World) : Prop := ∃ v', e = .returned (.tuple #[v', .int .i64 (pchk f t l)]) ∧ ReadsV w' v' (pput f t l) ∧ Below w.heap.size w w'
theorem putP_ok {f t : Int} {l : List Ms} {w w' : World} {e : Ending} (h : pchk f t l = 0) {v : Value} (he : e = .returned (.tuple #[v, .int .i64 0])) (ho : ReadsV w' v (sealB (bodyB f t l))) (hb : Below w.heap.size w w') : PutP f t l w e w' := ⟨v, by rw [h]; exact he, by unfold pput; rw [if_pos h]; exact ho, hb⟩
theorem putP_err {f t : Int} {l : List Ms} {w w' : World} {e : Ending} (h : ¬ pchk f t l = 0) {c : Int} (hc : pchk f t l = c) (he : e = .returned (.tuple #[.slice none 0 0, .int .i64 c])) (hb : Below w.heap.size w w') : PutP f t l w e w' := ⟨_, by rw [hc]; exact he, by unfold pput; rw [if_neg h]; exact ReadsV.nil w', hb⟩
set_option maxRecDepth 100000 in
set_option maxHeartbeats 2000000 in
theorem RPut_any {w : World} {P : Nat → Prop} {f t : Int} {a : Option Addr} {c : Nat} {l : List Ms} (hl : RwV msR w P a c l) (hw : wtMs l ≤ 300) : Calls Try.prog 12 #[.agg #[.int .i64 f, .int .i64 t, .slice a l.length c]] w (PutP f t l w) := by
  have HS := pack_box w f t a l.length c
  have HB : Hid (Below w.heap.size w (w.alloc (Obj.cells #[.int .i64 f, .int .i64 t, .slice a l.length c] 24))) := HS.2
  have hsz : (w.alloc (Obj.cells #[.int .i64 f, .int .i64 t, .slice a l.length c] 24)).heap.size = w.heap.size + 1 := size_alloc _ _
  obtain ⟨p0, p1, p2, pf⟩ := id HS.1
  have HK : Hid (∀ wr, Below w.heap.size w wr → Calls Try.prog 15 #[.agg #[.int .i64 f, .int .i64 t, .slice a l.length c]] wr fun e w' => e = .returned (.int .i64 (pchk f t l)) ∧ Below wr.heap.size wr w') := fun wr q => RCheck_any (hl.below q)
  have HX : Hid (∀ wr, Below (w.heap.size + 1) (w.alloc (Obj.cells #[.int .i64 f, .int .i64 t, .slice a l.length c] 24)) wr → Below w.heap.size w wr ∧ (wr.cell? ⟨w.heap.size, 0, none⟩ = some (.int .i64 f) ∧ wr.cell? ⟨w.heap.size, 1, none⟩ = some (.int .i64 t) ∧ wr.cell? ⟨w.heap.size, 2, none⟩ = some (.slice a l.length c)) ∧ w.heap.size + 1 ≤ wr.heap.size) := fun wr q => ⟨HS.2.trans (q.mono (Nat.le_succ _)), ⟨(cell_kept (q.block _ (Nat.lt_succ_self _)) _).trans p0, (cell_kept (q.block _ (Nat.lt_succ_self _)) _).trans p1, (cell_kept (q.block _ (Nat.lt_succ_self _)) _).trans p2⟩, by have := q.size; omega⟩
  have h1 := hl.cap1
  have h2 := hl.cap2
  by_cases hz : pchk f t l = 0
  · obtain ⟨hf, ht, _, hn256, hall⟩ := pchk_zero hz
    have HOk : Hid (∀ {w' : World} {e : Ending} {v : Value}, e = .returned (.tuple #[v, .int .i64 0]) → ReadsV w' v (sealB (bodyB f t l)) → Below w.heap.size w w' → PutP f t l w e w') := fun he ho hb => putP_ok hz he ho hb
    have HN : Hid (∀ (wx : World) (g : Nat) (n : Nat) (e : TypeId), g = wx.heap.size → n = l.length → Calls Try.prog 27 #[.slice (some ⟨g, 0, none⟩) 3 3] (wx.alloc (.cells #[.int .i64 f, .int .i64 t, .int .i64 (n : Int)] e)) fun e w' => ∃ v', e = .returned v' ∧ Owns w' wx.heap.size v' (numsB [f, t, (l.length : Int)]) ∧ Below wx.heap.size wx w') := fun wx g n e q q2 => by subst q2; exact three_nums wx g f t _ e q hf ht hn256
    have HE : Hid (∀ wr i, Below w.heap.size w wr → i < l.length → ∃ (g o : Nat) (ax : Ax), a = some ⟨g, o, none⟩ ∧ g < wr.heap.size ∧ g < w.heap.size ∧ Hid (∀ we, Below wr.heap.size wr we → Calls Try.prog 28 #[.agg #[.int .i64 (l.getD i zMs).kind, .int .i64 (l.getD i zMs).grp, .int .i64 (l.getD i zMs).frm, .int .i64 (l.getD i zMs).to, .int .i64 (l.getD i zMs).term, .int .i64 (l.getD i zMs).at_, .int .i64 (l.getD i zMs).att, .int .i64 (l.getD i zMs).commit, .bool (l.getD i zMs).ok, .slice ax.ea (l.getD i zMs).ents.length ax.ec, .slice ax.da (l.getD i zMs).data.length ax.dc]] we fun e w' => ∃ v', e = .returned v' ∧ Owns w' we.heap.size v' (msB (l.getD i zMs)) ∧ Below we.heap.size we w') ∧ (wr.cell? ⟨g, o + i * 11, none⟩ = some (.int .i64 (l.getD i zMs).kind) ∧ wr.cell? ⟨g, o + i * 11 + 1, none⟩ = some (.int .i64 (l.getD i zMs).grp) ∧ wr.cell? ⟨g, o + i * 11 + 2, none⟩ = some (.int .i64 (l.getD i zMs).frm) ∧ wr.cell? ⟨g, o + i * 11 + 3, none⟩ = some (.int .i64 (l.getD i zMs).to) ∧ wr.cell? ⟨g, o + i * 11 + 4, none⟩ = some (.int .i64 (l.getD i zMs).term) ∧ wr.cell? ⟨g, o + i * 11 + 5, none⟩ = some (.int .i64 (l.getD i zMs).at_) ∧ wr.cell? ⟨g, o + i * 11 + 6, none⟩ = some (.int .i64 (l.getD i zMs).att) ∧ wr.cell? ⟨g, o + i * 11 + 7, none⟩ = some (.int .i64 (l.getD i zMs).commit) ∧ wr.cell? ⟨g, o + i * 11 + 8, none⟩ = some (.bool (l.getD i zMs).ok) ∧ wr.cell? ⟨g, o + i * 11 + 9, none⟩ = some (.slice ax.ea (l.getD i zMs).ents.length ax.ec) ∧ wr.cell? ⟨g, o + i * 11 + 10, none⟩ = some (.slice ax.da (l.getD i zMs).data.length ax.dc))) := fun wr i q hi => by
      obtain ⟨g, o, ax, q1, q2, q3, q4⟩ := (hl.below q).msg hi
      obtain ⟨g2, o2, _, r1, r2, _⟩ := hl.msg hi
      rw [q1] at r1
      cases r1
      exact ⟨g, o, ax, q1, q2, r2, fun we qe => ROne_any (q3.below qe) (msOk_fit (List.all_eq_true.1 hall _ (mem_getD hi))), q4⟩
    have HT : Hid (∀ i, i < l.length → numsB [f, t, (l.length : Int)] ++ (l.take (i + 1)).flatMap msB = (numsB [f, t, (l.length : Int)] ++ (l.take i).flatMap msB) ++ msB (l.getD i zMs)) := fun i hi => by show _ = _; rw [mss_take hi, List.append_assoc]
    have HL3 : (numsB [f, t, (l.length : Int)]).length ≤ 30 := nums_len (l := [f, t, (l.length : Int)]) fun x hx => by
      simp only [List.mem_cons, List.not_mem_nil, or_false] at hx
      rcases hx with rfl | rfl | rfl <;> omega
    have HL : Hid (∀ i, i ≤ l.length → (numsB [f, t, (l.length : Int)] ++ (l.take i).flatMap msB).length ≤ 100000) := fun i hi => by have h1 := mss_take_len hall i hi; have h2 := wtMs_le l i; rw [List.length_append]; omega
    have HM : Hid (∀ i, i < l.length → (msB (l.getD i zMs)).length ≤ 100000) := fun i hi => by have h1 := msB_len2 (msOk_fit (List.all_eq_true.1 hall _ (mem_getD hi))); have h2 := wtMs_mem (mem_getD hi); omega
    have HZ : Hid (numsB [f, t, (l.length : Int)] ++ (l.take l.length).flatMap msB = bodyB f t l) := by show _ = _; rw [List.take_length]; rfl
    clear HS hl hall hf ht HL3
    rw [hz] at HK
    generalize numsB [f, t, (l.length : Int)] = hd at *
    generalize bodyB f t l = body at *
    go_enter Try.func12, Try.ntmps12
    go_wp2_with (first
      | (go_at_call 15; refine (HK.out _ HB.out).mono ?_; rintro e w1 ⟨rfl, qB⟩; have HB1 : Hid (Below (w.heap.size + 1) _ w1) := qB.mono (Nat.le_of_eq hsz.symm); obtain ⟨_, ⟨r0, r1, r2⟩, hz1⟩ := HX.out w1 HB1.out; clear qB)
      | (go_at_call 27; refine (HN.out _ _ _ _ rfl rfl).mono ?_; rintro e w2 ⟨v2, rfl, ho, qB⟩; have HO : Hid (Owns w2 (w.heap.size + 1) v2 hd) := Owns.base ho hz1; have HB2 : Hid (Below (w.heap.size + 1) _ w2) := HB1.out.trans (qB.mono hz1); clear ho qB))
    clear p0 p1 p2 pf HB HK HN r0 r1 r2 hz1 HB1
    generalize (w.alloc _) = wb at *
    generalize hn : l.length = n at *
    go_loopw [5, 6] (fun v y wr => ∃ (i : Nat), i ≤ n ∧ y = .int .i64 i ∧ Owns wr (w.heap.size + 1) v (hd ++ (l.take i).flatMap msB) ∧ Below (w.heap.size + 1) wb wr) (fun _ y _ => n - (intOf y).toNat)
    case atStart => exact ⟨0, Nat.zero_le _, rfl, by simpa using HO.out, HB2.out⟩
    case round =>
      clear HO HB2
      obtain ⟨i, hi, rfl, hown, hB⟩ := hrel
      have HO : Hid (Owns wr (w.heap.size + 1) u5 (hd ++ (l.take i).flatMap msB)) := hown
      have HB : Hid (Below (w.heap.size + 1) wb wr) := hB
      obtain ⟨hBw, ⟨x0, x1, x2⟩, hz⟩ := HX.out wr hB
      have HBw : Hid (Below w.heap.size w wr) := hBw
      clear hown hB hBw
      by_cases hlt : i < n
      · obtain ⟨g, o, ax, rfl, hg, hg2, HW, ⟨q0, q1, q2, q3, q4, q5, q6, q7, q8, q9, q10⟩⟩ := HE.out wr i HBw.out hlt
        have hne : g ≠ w.heap.size := by omega
        have HG := HT.out i hlt
        have HG2 : Hid (hd ++ (l.take (i + 1)).flatMap msB = (hd ++ (l.take i).flatMap msB) ++ msB (l.getD i zMs)) := HG
        have hl0 := HL.out i hi
        have hl1 := HM.out i hlt
        have HM1 : Hid ((hd ++ (l.take i).flatMap msB).length + (msB (l.getD i zMs)).length ≤ 140737488355328) := by show _ ≤ _; omega
        clear hl0 hl1 HG HT HL HE HM HZ HOk
        generalize hd ++ (l.take i).flatMap msB = acc at *
        generalize msB (l.getD i zMs) = mb at *
        generalize l.getD i zMs = x at *
        go_wp2_with (first
          | (go_at_call 28; refine (HW.out _ (Below.refl _ _)).mono ?_; rintro e w2 ⟨v2, rfl, ho, qB⟩; have HV2 : Hid (Owns w2 wr.heap.size v2 mb) := ho; have HB2 : Hid (Below wr.heap.size wr w2) := qB; clear ho qB)
          | (at_builtin; refine wpList_append_bytes rfl (.tmp 28) (.tmp 34) 27 rfl (w.heap.size + 1) Try.underlying27 Try.info5 _ acc rfl (HO.out.below HB2.out) _ mb rfl (ReadsV.of_own HV2.out) HM1.out (Nat.le_trans hz HB2.out.size) ?_; intro v3 w3 hown hgr; have HO3 : Hid (Owns w3 (w.heap.size + 1) v3 (acc ++ mb)) := hown; have HB3 : Hid (Below (w.heap.size + 1) wb w3) := (HB.out.trans (HB2.out.mono hz)).trans hgr; clear hown hgr))
        go_roundw
        case rel => exact ⟨i + 1, by omega, by go_num, by rw [HG2.out]; exact HO3.out, HB3.out⟩
        case measure => simp [intOf]; omega
      · obtain rfl : i = n := by omega
        have hl0 := HL.out i hi
        have HR : Hid (ReadsV wr u5 body) := by rw [← HZ.out]; exact ReadsV.of_own HO.out
        have HS : Hid (∀ wx, Below wr.heap.size wr wx → Calls Try.prog 19 #[u5] wx fun e w' => ∃ v', e = .returned v' ∧ Owns w' wx.heap.size v' (sealB body) ∧ Below wx.heap.size wx w') := fun wx q => RSeal_any _ _ _ (HR.out.below q) (by rw [HZ.out] at hl0; omega)
        clear HT HL HE HM HZ HO hl0
        go_wp2_with (go_at_call 19; refine (HS.out _ (Below.refl _ _)).mono ?_; rintro e w2 ⟨v2, rfl, ho, qB⟩; have HV2 : Hid (Owns w2 wr.heap.size v2 (sealB body)) := ho; have HB2 : Hid (Below wr.heap.size wr w2) := qB; clear ho qB)
        go_ret2
        exact HOk.out rfl (ReadsV.of_own HV2.out) (HBw.out.trans (HB2.out.mono HBw.out.size))
  · obtain ⟨cd, hcd⟩ : ∃ cd, pchk f t l = cd := ⟨_, rfl⟩
    have HEr : Hid (∀ {w' : World} {e : Ending}, e = .returned (.tuple #[.slice none 0 0, .int .i64 cd]) → Below w.heap.size w w' → PutP f t l w e w') := fun he hb => putP_err hz hcd he hb
    rw [hcd] at HK hz
    have y1 : (cd == 0) = false := beq_eq_false_iff_ne.2 hz
    have y2 : (cd != 0) = true := by rw [bne, y1]; rfl
    clear HS hl hcd hz hw
    go_enter Try.func12, Try.ntmps12
    go_wp2_with (go_at_call 15; refine (HK.out _ HB.out).mono ?_; rintro e w1 ⟨rfl, qB⟩; have HB1 : Hid (Below (w.heap.size + 1) _ w1) := qB.mono (Nat.le_of_eq hsz.symm); obtain ⟨_, ⟨r0, r1, r2⟩, hz1⟩ := HX.out w1 HB1.out; clear qB)
    go_ret2
    exact HEr.out rfl (HX.out _ HB1.out).1
end Go.Proofs.Ytcaddedkodjgcaa
