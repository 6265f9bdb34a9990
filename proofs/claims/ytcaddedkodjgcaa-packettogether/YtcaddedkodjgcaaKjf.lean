/-
  The program's Put of packets: its contract.
-/
import Derived.Test.YtcaddedkodjgcaaKje
import Derived.Test.YtcaddedkodjgcaaKja
import Derived.Test.YtcaddedkodjgcaaKpu
import Derived.Test.YtcaddedkodjgcaaKjc
import Derived.Test.YtcaddedkodjgcaaKjd
import Derived.Test.YtcaddedkodjgcaaKpo
namespace Go.Proofs.Ytcaddedkodjgcaa
section
open Go.RowKit Pack
set_option linter.unusedVariables false
set_option linter.unusedSimpArgs false

theorem three_numsF (wx : World) (g : Nat) (f t : Int) (n : Nat) (e : TypeId) (hg : g = wx.heap.size) (h : 1 ≤ f ∧ f ≤ 7) (h2 : 1 ≤ t ∧ t ≤ 7) (h3 : n ≤ 256) : Calls Try.prog 24 #[.slice none 0 0, .slice (some ⟨g, 0, none⟩) 3 3] (wx.alloc (.cells #[.int .i64 f, .int .i64 t, .int .i64 (n : Int)] e)) fun e w' => ∃ v', e = .returned v' ∧ Owns w' wx.heap.size v' (numsB [f, t, (n : Int)]) ∧ Below wx.heap.size wx w' := by
  subst hg
  have hr := three_in h h2 h3
  have := numsF (wx.alloc (.cells #[.int .i64 f, .int .i64 t, .int .i64 (n : Int)] e)).heap.size (.slice none 0 0) [] _ _ [f, t, (n : Int)] _ (Owns.nil _ _) (Nat.le_refl _) (ints_new wx [f, t, (n : Int)] e (fun i hi => (hr i hi).1) (by show 3 ≤ 100; omega) (by simp)) (fun _ _ e => by cases e) (fun i hi => (hr i hi).2) (by show 3 ≤ 100000; omega) (by simp)
  exact this.mono fun e w' ⟨v', h1, h2, h3, h4⟩ => ⟨v', h1, by rw [List.nil_append] at h2; exact Owns.base h2 (le_alloc _ _), ((Below.refl _ _).alloc (Nat.le_refl _) _).trans (h3.mono (le_alloc _ _))⟩
set_option maxRecDepth 100000 in
set_option maxHeartbeats 2000000 in
theorem Put_any {w : World} {P : Nat → Prop} {f t : Int} {a : Option Addr} {c : Nat} {l : List Ms} (hl : RwV msR w P a c l) (hw : wtMs l ≤ 2000) : Calls Try.prog 11 #[.agg #[.int .i64 f, .int .i64 t, .slice a l.length c]] w (PutP f t l w) := by
  have HS := pack_box w f t a l.length c
  have HB : Hid (Below w.heap.size w (w.alloc (Obj.cells #[.int .i64 f, .int .i64 t, .slice a l.length c] 24))) := HS.2
  have hsz : (w.alloc (Obj.cells #[.int .i64 f, .int .i64 t, .slice a l.length c] 24)).heap.size = w.heap.size + 1 := size_alloc _ _
  obtain ⟨p0, p1, p2, pf⟩ := id HS.1
  have HK : Hid (∀ wr, Below w.heap.size w wr → Calls Try.prog 14 #[.agg #[.int .i64 f, .int .i64 t, .slice a l.length c]] wr fun e w' => e = .returned (.int .i64 (pchk f t l)) ∧ Below wr.heap.size wr w') := fun wr q => Check_any (hl.below q)
  have HX : Hid (∀ wr, Below (w.heap.size + 1) (w.alloc (Obj.cells #[.int .i64 f, .int .i64 t, .slice a l.length c] 24)) wr → Below w.heap.size w wr ∧ (wr.cell? ⟨w.heap.size, 0, none⟩ = some (.int .i64 f) ∧ wr.cell? ⟨w.heap.size, 1, none⟩ = some (.int .i64 t) ∧ wr.cell? ⟨w.heap.size, 2, none⟩ = some (.slice a l.length c)) ∧ w.heap.size + 1 ≤ wr.heap.size) := fun wr q => ⟨HS.2.trans (q.mono (Nat.le_succ _)), ⟨(cell_kept (q.block _ (Nat.lt_succ_self _)) _).trans p0, (cell_kept (q.block _ (Nat.lt_succ_self _)) _).trans p1, (cell_kept (q.block _ (Nat.lt_succ_self _)) _).trans p2⟩, by have := q.size; omega⟩
  have h1 := hl.cap1
  have h2 := hl.cap2
  by_cases hz : pchk f t l = 0
  · obtain ⟨hf, ht, _, hn256, hall⟩ := pchk_zero hz
    have hl' : RwV msR w (fun g => g < w.heap.size) a c l := hl.sub fun g _ hlt => hlt
    have HOk : Hid (∀ {w' : World} {e : Ending} {v : Value}, e = .returned (.tuple #[v, .int .i64 0]) → ReadsV w' v (sealB (bodyB f t l)) → Below w.heap.size w w' → PutP f t l w e w') := fun he ho hb => putP_ok hz he ho hb
    have HN : Hid (∀ (wx : World) (g : Nat) (n : Nat) (e : TypeId), g = wx.heap.size → n = l.length → Calls Try.prog 24 #[.slice none 0 0, .slice (some ⟨g, 0, none⟩) 3 3] (wx.alloc (.cells #[.int .i64 f, .int .i64 t, .int .i64 (n : Int)] e)) fun e w' => ∃ v', e = .returned v' ∧ Owns w' wx.heap.size v' (numsB [f, t, (l.length : Int)]) ∧ Below wx.heap.size wx w') := fun wx g n e q q2 => by subst q2; exact three_numsF wx g f t _ e q hf ht hn256
    have HE : Hid (∀ wr i, Below w.heap.size w wr → i < l.length → ∃ (g o : Nat) (ax : Ax), a = some ⟨g, o, none⟩ ∧ g < wr.heap.size ∧ g < w.heap.size ∧ Hid (∀ we u acc, Below wr.heap.size wr we → Owns we (w.heap.size + 1) u acc → w.heap.size + 1 ≤ we.heap.size → acc.length ≤ 100000000 → Calls Try.prog 25 #[u, .agg #[.int .i64 (l.getD i zMs).kind, .int .i64 (l.getD i zMs).grp, .int .i64 (l.getD i zMs).frm, .int .i64 (l.getD i zMs).to, .int .i64 (l.getD i zMs).term, .int .i64 (l.getD i zMs).at_, .int .i64 (l.getD i zMs).att, .int .i64 (l.getD i zMs).commit, .bool (l.getD i zMs).ok, .slice ax.ea (l.getD i zMs).ents.length ax.ec, .slice ax.da (l.getD i zMs).data.length ax.dc]] we fun e w' => ∃ v', e = .returned v' ∧ Owns w' (w.heap.size + 1) v' (acc ++ msB (l.getD i zMs)) ∧ Below (w.heap.size + 1) we w') ∧ (wr.cell? ⟨g, o + i * 11, none⟩ = some (.int .i64 (l.getD i zMs).kind) ∧ wr.cell? ⟨g, o + i * 11 + 1, none⟩ = some (.int .i64 (l.getD i zMs).grp) ∧ wr.cell? ⟨g, o + i * 11 + 2, none⟩ = some (.int .i64 (l.getD i zMs).frm) ∧ wr.cell? ⟨g, o + i * 11 + 3, none⟩ = some (.int .i64 (l.getD i zMs).to) ∧ wr.cell? ⟨g, o + i * 11 + 4, none⟩ = some (.int .i64 (l.getD i zMs).term) ∧ wr.cell? ⟨g, o + i * 11 + 5, none⟩ = some (.int .i64 (l.getD i zMs).at_) ∧ wr.cell? ⟨g, o + i * 11 + 6, none⟩ = some (.int .i64 (l.getD i zMs).att) ∧ wr.cell? ⟨g, o + i * 11 + 7, none⟩ = some (.int .i64 (l.getD i zMs).commit) ∧ wr.cell? ⟨g, o + i * 11 + 8, none⟩ = some (.bool (l.getD i zMs).ok) ∧ wr.cell? ⟨g, o + i * 11 + 9, none⟩ = some (.slice ax.ea (l.getD i zMs).ents.length ax.ec) ∧ wr.cell? ⟨g, o + i * 11 + 10, none⟩ = some (.slice ax.da (l.getD i zMs).data.length ax.dc))) := fun wr i q hi => by
      obtain ⟨g, o, ax, q1, q2, q3, q4⟩ := (hl'.below q).msg hi
      obtain ⟨g2, o2, _, r1, r2, _⟩ := hl'.msg hi
      rw [q1] at r1
      cases r1
      exact ⟨g, o, ax, q1, q2, r2, fun we u acc qe ho hb hc => (putMsg_any ho hb hc (q3.below qe) (fun g hg _ => own_ge ho (Nat.lt_succ_of_lt hg)) (msOk_fit (List.all_eq_true.1 hall _ (mem_getD hi)))).mono fun e w' ⟨v', z1, z2, z3, _⟩ => ⟨v', z1, z2, z3⟩, q4⟩
    have HT : Hid (∀ i, i < l.length → numsB [f, t, (l.length : Int)] ++ (l.take (i + 1)).flatMap msB = (numsB [f, t, (l.length : Int)] ++ (l.take i).flatMap msB) ++ msB (l.getD i zMs)) := fun i hi => by show _ = _; rw [mss_take hi, List.append_assoc]
    have HL3 : (numsB [f, t, (l.length : Int)]).length ≤ 30 := nums_len (l := [f, t, (l.length : Int)]) fun x hx => by
      simp only [List.mem_cons, List.not_mem_nil, or_false] at hx
      rcases hx with rfl | rfl | rfl <;> omega
    have HL : Hid (∀ i, i ≤ l.length → (numsB [f, t, (l.length : Int)] ++ (l.take i).flatMap msB).length ≤ 1000000) := fun i hi => by have h1 := mss_take_len hall i hi; have h2 := wtMs_le l i; rw [List.length_append]; omega
    have HZ : Hid (numsB [f, t, (l.length : Int)] ++ (l.take l.length).flatMap msB = bodyB f t l) := by show _ = _; rw [List.take_length]; rfl
    clear HS hl hl' hall hf ht HL3
    rw [hz] at HK
    generalize numsB [f, t, (l.length : Int)] = hd at *
    generalize bodyB f t l = body at *
    go_enter Try.func11, Try.ntmps11
    go_wp2_with (first
      | (go_at_call 14; refine (HK.out _ HB.out).mono ?_; rintro e w1 ⟨rfl, qB⟩; have HB1 : Hid (Below (w.heap.size + 1) _ w1) := qB.mono (Nat.le_of_eq hsz.symm); obtain ⟨_, ⟨r0, r1, r2⟩, hz1⟩ := HX.out w1 HB1.out; clear qB)
      | (go_at_call 24; refine (HN.out _ _ _ _ rfl rfl).mono ?_; rintro e w2 ⟨v2, rfl, ho, qB⟩; have HO : Hid (Owns w2 (w.heap.size + 1) v2 hd) := Owns.base ho hz1; have HB2 : Hid (Below (w.heap.size + 1) _ w2) := HB1.out.trans (qB.mono hz1); obtain ⟨_, ⟨s0, s1, s2⟩, hz2⟩ := HX.out w2 HB2.out; clear ho qB))
    clear p0 p1 p2 pf HB HK HN r0 r1 r2 hz1 HB1 s0 s1 s2 hz2
    generalize (w.alloc _) = wb at *
    generalize hn : l.length = n at *
    go_loopw [5, 25] (fun v y wr => ∃ (i : Nat), i ≤ n ∧ y = .int .i64 i ∧ Owns wr (w.heap.size + 1) v (hd ++ (l.take i).flatMap msB) ∧ Below (w.heap.size + 1) wb wr) (fun _ y _ => n - (intOf y).toNat)
    case atStart => exact ⟨0, Nat.zero_le _, rfl, by simpa using HO.out, HB2.out⟩
    case round =>
      clear HO HB2
      obtain ⟨i, hi, rfl, hown, hB⟩ := hrel
      have HO : Hid (Owns wr (w.heap.size + 1) u5 (hd ++ (l.take i).flatMap msB)) := hown
      have HB : Hid (Below (w.heap.size + 1) wb wr) := hB
      obtain ⟨hBw, ⟨x0, x1, x2⟩, hz⟩ := HX.out wr hB
      have HBw : Hid (Below w.heap.size w wr) := hBw
      clear hown hB hBw
      by_cases hlt : i < n
      · obtain ⟨g, o, ax, rfl, hg, hg2, HW, ⟨q0, q1, q2, q3, q4, q5, q6, q7, q8, q9, q10⟩⟩ := HE.out wr i HBw.out hlt
        have hne : g ≠ w.heap.size := by omega
        have hne2 : g ≠ wr.heap.size := by omega
        have HG2 : Hid (hd ++ (l.take (i + 1)).flatMap msB = (hd ++ (l.take i).flatMap msB) ++ msB (l.getD i zMs)) := HT.out i hlt
        have HM1 : Hid ((hd ++ (l.take i).flatMap msB).length ≤ 100000000) := by show _ ≤ _; have hl0 := HL.out i hi; omega
        clear HT HL HE HZ HOk
        generalize hd ++ (l.take i).flatMap msB = acc at *
        generalize msB (l.getD i zMs) = mb at *
        generalize l.getD i zMs = x at *
        go_wp2_with (go_at_call 25; refine (HW.out _ _ acc ((Below.refl _ _).alloc (Nat.le_refl _) _) (HO.out.alloc _) (Nat.le_trans hz (le_alloc _ _)) HM1.out).mono ?_; rintro e w3 ⟨v3, rfl, ho, qB⟩; have HO3 : Hid (Owns w3 (w.heap.size + 1) v3 (acc ++ mb)) := ho; have HB3 : Hid (Below (w.heap.size + 1) wb w3) := (HB.out.alloc hz _).trans qB; clear ho qB)
        go_roundw
        case rel => exact ⟨i + 1, by omega, by go_num, by rw [HG2.out]; exact HO3.out, HB3.out⟩
        case measure => simp [intOf]; omega
      · obtain rfl : i = n := by omega
        have hl0 := HL.out i hi
        have HSm : Hid (Calls Try.prog 26 #[u5] wr fun e w' => ∃ v', e = .returned v' ∧ Owns w' (w.heap.size + 1) v' (sealB body) ∧ Below (w.heap.size + 1) wr w') := putSum_any _ _ body _ (by rw [← HZ.out]; exact HO.out) hz (by rw [← HZ.out]; omega)
        clear HT HL HE HZ HO hl0
        go_wp2_with (go_at_call 26; refine HSm.out.mono ?_; rintro e w2 ⟨v2, rfl, ho, qB⟩; have HV2 : Hid (Owns w2 (w.heap.size + 1) v2 (sealB body)) := ho; have HB2 : Hid (Below w.heap.size w w2) := HBw.out.trans (qB.mono (Nat.le_succ _)); clear ho qB)
        go_ret2
        exact HOk.out rfl (ReadsV.of_own HV2.out) HB2.out
  · obtain ⟨cd, hcd⟩ : ∃ cd, pchk f t l = cd := ⟨_, rfl⟩
    have HEr : Hid (∀ {w' : World} {e : Ending}, e = .returned (.tuple #[.slice none 0 0, .int .i64 cd]) → Below w.heap.size w w' → PutP f t l w e w') := fun he hb => putP_err hz hcd he hb
    rw [hcd] at HK hz
    have y1 : (cd == 0) = false := beq_eq_false_iff_ne.2 hz
    have y2 : (cd != 0) = true := by rw [bne, y1]; rfl
    clear HS hl hcd hz hw
    go_enter Try.func11, Try.ntmps11
    go_wp2_with (go_at_call 14; refine (HK.out _ HB.out).mono ?_; rintro e w1 ⟨rfl, qB⟩; have HB1 : Hid (Below (w.heap.size + 1) _ w1) := qB.mono (Nat.le_of_eq hsz.symm); obtain ⟨_, ⟨r0, r1, r2⟩, hz1⟩ := HX.out w1 HB1.out; clear qB)
    go_ret2
    exact HEr.out rfl (HX.out _ HB1.out).1
end
section
open Go.RowKit Pack
theorem pgok : PgOk := ⟨fun hl hw _ _ _ => Put_any hl hw, fun hl _ _ _ _ => Check_any hl, fun h hl => Read_any h hl, fun hl hw _ _ => Tog_any _ hl hw⟩
end
end Go.Proofs.Ytcaddedkodjgcaa
