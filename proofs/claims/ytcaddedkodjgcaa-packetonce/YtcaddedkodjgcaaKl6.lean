/-
  PacketOnce: its walk.
-/
import Derived.Test.YtcaddedkodjgcaaKpo
namespace Go.Proofs.Ytcaddedkodjgcaa
open Go.RowKit Pack
set_option linter.unusedVariables false
set_option linter.unusedSimpArgs false

theorem urI_pos (n : Int) : 1 ≤ (urI n).length := by
  have := urow_pos n.toNat
  exact this
theorem entB_pos (e : En) : wtE e ≤ (entB e).length := by
  have h1 := urI_pos e.1
  have h2 := urow_pos e.2.length
  unfold entB wtE
  rw [List.length_append, List.length_append]
  omega
theorem ents_pos : ∀ l : List En, wtEs l ≤ (l.flatMap entB).length
  | [] => Nat.le_refl _
  | e :: l => by
    have h1 := entB_pos e
    have h2 := ents_pos l
    unfold wtEs at h2 ⊢
    rw [List.map_cons, List.sum_cons, List.flatMap_cons, List.length_append]
    omega
theorem msB_pos (m : Ms) : wtM m ≤ (msB m).length := by
  have h1 := ents_pos m.ents
  have h2 := urow_pos m.data.length
  unfold msB wtM
  rw [List.length_append, List.length_append, List.length_append]
  omega
theorem mss_pos : ∀ l : List Ms, wtMs l ≤ (l.flatMap msB).length
  | [] => Nat.le_refl _
  | m :: l => by
    have h1 := msB_pos m
    have h2 := mss_pos l
    unfold wtMs at h2 ⊢
    rw [List.map_cons, List.sum_cons, List.flatMap_cons, List.length_append]
    omega
theorem once_fit {b : BB} {f t : Int} {l : List Ms} (hb : b.length ≤ 1500) (h : sealB b = sealB (bodyB f t l)) : wtMs l ≤ 2000 := by
  have h1 : (sealB b).length = (sealB (bodyB f t l)).length := by rw [h]
  rw [sealB_len, sealB_len] at h1
  unfold bodyB at h1
  rw [List.length_append] at h1
  have := mss_pos l
  omega
theorem chk_in {f t : Int} {l : List Ms} (h : pchk f t l = 0) : InR f ∧ InR t ∧ ∀ m ∈ l, MsR m := by
  obtain ⟨hf, ht, _, _, hall⟩ := pchk_zero h
  refine ⟨by unfold InR; omega, by unfold InR; omega, fun m hm => ?_⟩
  have hk := List.all_eq_true.1 hall m hm
  have h3 := msOk_parts (msOk_fit hk)
  unfold msFit at hk
  simp only [Bool.and_eq_true, decide_eq_true_eq] at hk
  unfold MsR InR
  omega
theorem reads_len {w : World} {a : Option Addr} {n c : Nat} {l : BB} (h : ReadsV w (.slice a n c) l) : n = l.length := by
  obtain ⟨a', c', hv, _⟩ := h
  cases hv
  rfl
set_option maxRecDepth 100000 in
set_option maxHeartbeats 1600000 in
theorem once_walk {w : World} {v : Value} {b : BB} (H : PgOk) (HW : ∀ wr, Calls Try.prog 10 #[] wr fun e w' => e = .returned (.bool true) ∧ Below wr.heap.size wr w') (h : ReadsV w v b) : Calls Try.prog 6 #[v] w fun e w' => e = .returned (.bool true) ∧ Below w.heap.size w w' := by
  have HR : Hid (ReadsV w v b) := h
  have HSl : Hid (b.length ≤ 1500 → ∀ wr, Below w.heap.size w wr → Calls Try.prog 19 #[v] wr fun e w' => ∃ v', e = .returned v' ∧ ReadsV w' v' (sealB b) ∧ Below w.heap.size w w') := fun hb wr q => (RSeal_any v b wr (h.below q) (by omega)).mono fun e w' ⟨v', q1, q2, q3⟩ => ⟨v', q1, ReadsV.of_own q2, q.trans (q3.mono q.size)⟩
  have HWk : Hid (∀ wr, Below w.heap.size w wr → Calls Try.prog 10 #[] wr fun e w' => e = .returned (.bool true) ∧ Below w.heap.size w w') := fun wr q => (HW wr).mono fun e w' ⟨q1, q2⟩ => ⟨q1, q.trans (q2.mono q.size)⟩
  obtain ⟨⟨⟨f, t, l⟩, er⟩, hrd⟩ : ∃ p, readM (sealB b) = p := ⟨_, rfl⟩
  have HRd : Hid (b.length ≤ 1500 → ∀ wr u, ReadsV wr u (sealB b) → Below w.heap.size w wr → Calls Try.prog 16 #[u] wr fun e w' => ∃ a' c', e = .returned (.tuple #[.agg #[.int .i64 f, .int .i64 t, .slice a' l.length c'], .int .i64 er]) ∧ RwV msR w' (fun _ => True) a' c' l ∧ Below w.heap.size w w') := fun hb wr u q1 q => by
    have := H.rd q1 (by rw [sealB_len]; omega)
    replace this := this.mono fun e w' q => ReadP.plain q
    rw [hrd] at this
    exact this.mono fun e w' ⟨a', c', h1, h2, h3⟩ => ⟨a', c', h1, h2, q.trans (h3.mono q.size)⟩
  have HBx : Hid (∀ wr w' a' c' n, Below w.heap.size w wr → Below (wr.heap.size + 1) (wr.alloc (Obj.cells #[.int .i64 f, .int .i64 t, .slice a' n c'] 24)) w' → (w'.cell? ⟨wr.heap.size, 0, none⟩ = some (.int .i64 f) ∧ w'.cell? ⟨wr.heap.size, 1, none⟩ = some (.int .i64 t) ∧ w'.cell? ⟨wr.heap.size, 2, none⟩ = some (.slice a' n c')) ∧ Below w.heap.size w w' ∧ wr.heap.size + 1 ≤ w'.heap.size) := fun wr w' a' c' n q q2 => by
    have k := (Cell3.new wr (.int .i64 f) (.int .i64 t) (.slice a' n c') 24).kept (q2.block _ (Nat.lt_succ_self _))
    exact ⟨⟨k.c0, k.c1, k.c2⟩, (q.alloc q.size _).trans (q2.mono (Nat.le_trans q.size (Nat.le_succ _))), by have := q2.size; rw [size_alloc] at this; exact this⟩
  by_cases hb : b.length ≤ 1500
  · have HRd2 := HRd.out hb
    have HSl2 := HSl.out hb
    have HR3 : Hid (∀ wr u, ReadsV wr u (sealB b) → Below w.heap.size w wr → Calls Try.prog 16 #[u] wr fun e w' => ∃ a' c', e = .returned (.tuple #[.agg #[.int .i64 f, .int .i64 t, .slice a' l.length c'], .int .i64 er]) ∧ RwV msR w' (fun _ => True) a' c' l ∧ Below w.heap.size w w') := HRd2
    have HS3 : Hid (∀ wr, Below w.heap.size w wr → Calls Try.prog 19 #[v] wr fun e w' => ∃ v', e = .returned v' ∧ ReadsV w' v' (sealB b) ∧ Below w.heap.size w w') := HSl2
    clear HRd2 HSl2 HRd HSl
    by_cases he : er = 0
    · subst he
      obtain ⟨hk, hse⟩ := read_inv hrd
      obtain ⟨hf, ht, hm⟩ := chk_in hk
      have hwt := once_fit hb hse
      have HS4 : Hid (∀ wr, Below w.heap.size w wr → Calls Try.prog 19 #[v] wr fun e w' => ∃ v', e = .returned v' ∧ ReadsV w' v' (sealB b) ∧ Below wr.heap.size wr w' ∧ Below w.heap.size w w') := fun wr q => (RSeal_any v b wr (h.below q) (by omega)).mono fun e w' ⟨v', q1, q2, q3⟩ => ⟨v', q1, ReadsV.of_own q2, q3, q.trans (q3.mono q.size)⟩
      have HPt : Hid (∀ wr a' c', RwV msR wr (fun _ => True) a' c' l → Calls Try.prog 11 #[.agg #[.int .i64 f, .int .i64 t, .slice a' l.length c']] wr fun e w' => ∃ v', e = .returned (.tuple #[v', .int .i64 0]) ∧ ReadsV w' v' (sealB b) ∧ Below wr.heap.size wr w') := fun wr a' c' q => by
        have := H.put q hwt hm hf ht
        unfold PutP pput at this
        rw [hk, if_pos rfl, ← show sealB b = sealB (bodyB f t l) from hse] at this
        exact this
      have HSm : Hid (∀ wr v u, ReadsV wr v (sealB b) → ReadsV wr u (sealB b) → Calls Try.prog 13 #[v, u] wr fun e w' => e = .returned (.bool true) ∧ w' = wr) := fun wr v u q1 q2 => by
        have := same_any v u _ _ wr q1 q2
        rw [decide_eq_true rfl] at this
        exact this
      have HCk : Hid (∀ wr a' c', RwV msR wr (fun _ => True) a' c' l → Calls Try.prog 15 #[.agg #[.int .i64 f, .int .i64 t, .slice a' l.length c']] wr fun e w' => e = .returned (.int .i64 0) ∧ Below wr.heap.size wr w') := fun wr a' c' q => by
        have := RCheck_any (f := f) (t := t) q
        rw [hk] at this
        exact this
      obtain ⟨a, c, rfl, hnil, hlc, hcm, hrd2⟩ := h
      clear hrd2 hrd hse hk hwt hm hf ht hnil H HW
      have hcm2 : c ≤ 9223372036854775807 := hcm
      generalize sealB b = sb at *
      generalize b.length = n at *
      generalize l.length = ln at *
      go_enter Try.func6, Try.ntmps6
      go_wp2_with (first
        | (go_at_call 10; refine (HWk.out _ HB7.out).mono ?_; rintro e wz ⟨rfl, qz⟩; have HZ : Hid (Below w.heap.size w wz) := qz; clear qz)
        | (go_at_call 15; refine (HCk.out _ _ _ HM6.out).mono ?_; rintro e w7 ⟨rfl, qB⟩; have HB7 : Hid (Below w.heap.size w w7) := (HBx.out _ w7 _ _ ln HB2.out (HB6.out.trans (qB.mono hz6))).2.1)
        | (go_at_call 13; refine (HSm.out _ _ _ HV6.out.1 HV6.out.2).mono ?_; rintro e w8 ⟨rfl, h9⟩; have h10 := h9.symm; clear h9; subst h10)
        | (go_at_call 19; have := HM4; refine (HS5.out _ (HBx.out _ _ _ _ ln HB2.out HB4.out).2.1).mono ?_; rintro e w6 ⟨v6, rfl, hv, qB, qC⟩; have HV6 : Hid (ReadsV w6 v4 sb ∧ ReadsV w6 v6 sb) := ⟨HV4.out.below qB, hv⟩; have HM6 : Hid (RwV msR w6 (fun _ => True) a2 c2 l) := HM4.out.below qB; have HB6 : Hid (Below (w2.heap.size + 1) _ w6) := HB4.out.trans (qB.mono hz4); obtain ⟨⟨s0, s1, s2⟩, _, hz6⟩ := HBx.out _ w6 _ _ ln HB2.out HB6.out; clear hv qB qC)
        | (go_at_call 11; refine (HPt.out _ _ _ (HM2.out.below ((Below.refl _ _).alloc (Nat.le_refl _) _))).mono ?_; rintro e w4 ⟨v4, rfl, hv, qB⟩; have HV4 : Hid (ReadsV w4 v4 sb) := hv; have HB4 : Hid (Below (w2.heap.size + 1) _ w4) := qB.mono (Nat.le_of_eq (size_alloc _ _).symm); have HM4 : Hid (RwV msR w4 (fun _ => True) a2 c2 l) := HM2.out.below (((Below.refl _ _).alloc (Nat.le_refl _) _).trans (qB.mono (le_alloc _ _))); obtain ⟨⟨r0, r1, r2⟩, _, hz4⟩ := HBx.out _ w4 _ _ ln HB2.out HB4.out; have HS5 : Hid (∀ wr, Below w.heap.size w wr → Calls Try.prog 19 #[.slice a n c] wr fun e w' => ∃ v', e = .returned v' ∧ ReadsV w' v' sb ∧ Below wr.heap.size wr w' ∧ Below w.heap.size w w') := HS4.out; clear hv qB)
        | (go_at_call 16; refine (HR3.out _ _ HV1.out HB1.out).mono ?_; rintro e w2 ⟨a2, c2, rfl, hm2, qB⟩; have HM2 : Hid (RwV msR w2 (fun _ => True) a2 c2 l) := hm2; have HB2 : Hid (Below w.heap.size w w2) := qB; clear hm2 qB)
        | (go_at_call 19; refine (HS3.out _ (Below.refl _ _)).mono ?_; rintro e w1 ⟨v1, rfl, hv, qB⟩; have HV1 : Hid (ReadsV w1 v1 sb) := hv; have HB1 : Hid (Below w.heap.size w w1) := qB; clear hv qB))
      all_goals first | (go_ret; exact ⟨rfl, HZ.out⟩) | skip
    · have hz := read_err (b := sealB b) (by rw [hrd]; exact he)
      rw [hrd] at hz
      cases hz
      have HSm : Hid (∀ wr a' c', RwV msR wr (fun _ => True) a' c' ([] : List Ms) → Below w.heap.size w wr → Calls Try.prog 18 #[.agg #[.int .i64 0, .int .i64 0, .slice a' 0 c'], .agg #[.int .i64 0, .int .i64 0, .slice none 0 0]] wr fun e w' => e = .returned (.bool true) ∧ Below w.heap.size w w') := fun wr a' c' q1 q => by
        have := RPSame_any (p := (0, 0, [])) (q := (0, 0, [])) q1 (RwV.nil msR wr (fun _ => True))
        rw [eqPk_iff.2 rfl] at this
        exact this.mono fun e w' ⟨h1, h2⟩ => ⟨h1, q.trans (h2.mono q.size)⟩
      obtain ⟨a, c, rfl, hnil, hlc, hcm, hrd2⟩ := h
      clear hrd2 hrd hnil H HW HBx
      have hcm2 : c ≤ 9223372036854775807 := hcm
      have y1 : (er == 0) = false := beq_eq_false_iff_ne.2 he
      have HE : Hid (¬ er = 0) := he
      clear he
      generalize sealB b = sb at *
      generalize b.length = n at *
      go_enter Try.func6, Try.ntmps6
      go_wp2_with (first
        | (go_at_call 10; refine (HWk.out _ HB3.out).mono ?_; rintro e wz ⟨rfl, qz⟩; have HZ : Hid (Below w.heap.size w wz) := qz; clear qz)
        | (go_at_call 18; refine (HSm.out _ _ _ (HM2.out.below ((Below.refl _ _).alloc (Nat.le_refl _) _)) (HB2.out.alloc HB2.out.size _)).mono ?_; rintro e w3 ⟨rfl, qB⟩; have HB3 : Hid (Below w.heap.size w w3) := qB; clear qB)
        | (go_at_call 16; refine (HR3.out _ _ HV1.out HB1.out).mono ?_; rintro e w2 ⟨a2, c2, rfl, hm2, qB⟩; have HM2 : Hid (RwV msR w2 (fun _ => True) a2 c2 []) := hm2; have HB2 : Hid (Below w.heap.size w w2) := qB; have he2 : ¬ er = 0 := HE.out; clear hm2 qB)
        | (go_at_call 19; refine (HS3.out _ (Below.refl _ _)).mono ?_; rintro e w1 ⟨v1, rfl, hv, qB⟩; have HV1 : Hid (ReadsV w1 v1 sb) := hv; have HB1 : Hid (Below w.heap.size w w1) := qB; clear hv qB))
      all_goals first | (go_ret; exact ⟨rfl, HZ.out⟩) | skip
  · obtain ⟨a, c, rfl, hnil, hlc, hcm, hrd2⟩ := h
    clear hrd2 hrd hnil H HW HBx HRd HSl
    have hcm2 : c ≤ 9223372036854775807 := hcm
    generalize b.length = n at *
    go_enter Try.func6, Try.ntmps6
    go_wp2_with (go_at_call 10; refine (HWk.out _ (Below.refl _ _)).mono ?_; rintro e wz ⟨rfl, qz⟩; have HZ : Hid (Below w.heap.size w wz) := qz; clear qz)
    go_ret
    exact ⟨rfl, HZ.out⟩
end Go.Proofs.Ytcaddedkodjgcaa
