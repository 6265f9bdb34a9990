/-
  PacketTogether: its walk.
-/
import Derived.Test.YtcaddedkodjgcaaKpo
namespace Go.Proofs.Ytcaddedkodjgcaa
open Go.RowKit Pack
set_option linter.unusedVariables false
set_option linter.unusedSimpArgs false

theorem tog_mem (f : Int) (l : List Ms) : ∀ (n : Nat) (p : Pk), p ∈ togS f l n → p.1 = f ∧ p.2.1 ≠ f ∧ 1 ≤ p.2.1 ∧ p.2.1 ≤ n
  | 0, p, h => by cases h
  | n + 1, p, h => by
    unfold togS at h
    split at h
    · obtain ⟨h1, h2, h3, h4⟩ := tog_mem f l n p h
      exact ⟨h1, h2, h3, by omega⟩
    · rename_i hn
      split at h
      · obtain ⟨h1, h2, h3, h4⟩ := tog_mem f l n p h
        exact ⟨h1, h2, h3, by omega⟩
      · rcases List.mem_append.1 h with h | h
        · obtain ⟨h1, h2, h3, h4⟩ := tog_mem f l n p h
          exact ⟨h1, h2, h3, by omega⟩
        · rw [List.mem_singleton.1 h]
          exact ⟨rfl, hn, by show (1 : Int) ≤ (n : Int) + 1; omega, by show (n : Int) + 1 ≤ ((n + 1 : Nat) : Int); omega⟩
theorem tog_up (f : Int) (l : List Ms) : ∀ n, (togS f l n).Pairwise (fun p q => p.2.1 < q.2.1)
  | 0 => List.Pairwise.nil
  | n + 1 => by
    unfold togS
    split
    · exact tog_up f l n
    · split
      · exact tog_up f l n
      · refine List.pairwise_append.2 ⟨tog_up f l n, List.pairwise_singleton _ _, fun p hp q hq => ?_⟩
        rw [List.mem_singleton.1 hq]
        have := (tog_mem f l n p hp).2.2.2
        show p.2.1 < (n : Int) + 1
        omega
def cntT (f : Int) (n : Nat) : List Ms → Nat
  | [] => 0
  | m :: l => (if m.frm = f ∧ 1 ≤ m.to ∧ m.to ≤ n then 1 else 0) + cntT f n l
theorem cntT_le (f : Int) (n : Nat) : ∀ l : List Ms, cntT f n l ≤ l.length
  | [] => Nat.le_refl _
  | m :: l => by
    have := cntT_le f n l
    unfold cntT
    rw [List.length_cons]
    split <;> omega
theorem cntT_step (f : Int) (n : Nat) : ∀ l : List Ms, cntT f (n + 1) l = cntT f n l + (mine f ((n : Int) + 1) l).length
  | [] => rfl
  | m :: l => by
    have ih := cntT_step f n l
    have h : mine f ((n : Int) + 1) (m :: l) = if m.frm = f ∧ m.to = (n : Int) + 1 then m :: mine f ((n : Int) + 1) l else mine f ((n : Int) + 1) l := by
      unfold mine
      rw [List.filter_cons]
      by_cases h1 : m.frm = f <;> by_cases h2 : m.to = (n : Int) + 1 <;> simp [h1, h2]
    rw [h]
    unfold cntT
    by_cases h1 : m.frm = f
    · by_cases h2 : m.to = (n : Int) + 1
      · rw [if_pos ⟨h1, by omega, by omega⟩, if_neg (by omega), if_pos ⟨h1, h2⟩, List.length_cons]; omega
      · rw [if_neg (show ¬ (m.frm = f ∧ m.to = (n : Int) + 1) from fun q => h2 q.2)]
        by_cases h3 : 1 ≤ m.to ∧ m.to ≤ n
        · rw [if_pos ⟨h1, by omega, by omega⟩, if_pos ⟨h1, by omega, by omega⟩]; omega
        · rw [if_neg (by omega), if_neg (by omega)]; omega
    · rw [if_neg (fun q => h1 q.1), if_neg (fun q => h1 q.1), if_neg (fun q => h1 q.1)]; omega
def sumP (L : List Pk) : Nat := (L.map fun p => p.2.2.length).sum
theorem sumP_append (L M : List Pk) : sumP (L ++ M) = sumP L + sumP M := by unfold sumP; rw [List.map_append, List.sum_append]
theorem tog_sum (f : Int) (l : List Ms) : ∀ n, sumP (togS f l n) ≤ cntT f n l
  | 0 => Nat.zero_le _
  | n + 1 => by
    have ih := tog_sum f l n
    have h := cntT_step f n l
    unfold togS
    split
    · omega
    · split
      · omega
      · rw [sumP_append]
        have : sumP [(f, (n : Int) + 1, mine f ((n : Int) + 1) l)] = (mine f ((n : Int) + 1) l).length := by simp [sumP]
        omega
theorem sumP_take {L : List Pk} {i : Nat} (h : i < L.length) : sumP (L.take (i + 1)) = sumP (L.take i) + (L.getD i zPk).2.2.length := by
  rw [take_snoc h, sumP_append, List.getD_eq_getElem?_getD, List.getElem?_eq_getElem h]
  simp [sumP]
theorem sumP_le (L : List Pk) (i : Nat) : sumP (L.take i) ≤ sumP L := by
  have h : sumP L = sumP (L.take i) + sumP (L.drop i) := by rw [← sumP_append, List.take_append_drop]
  omega
theorem tog_at {f : Int} {l : List Ms} {n i : Nat} (h : i < (togS f l n).length) : ((togS f l n).getD i zPk).1 = f ∧ ((togS f l n).getD i zPk).2.1 ≠ f ∧ InR ((togS f l n).getD i zPk).2.1 ∨ 1000 < n := by
  by_cases hn : 1000 < n
  · exact .inr hn
  · left
    have hm : (togS f l n).getD i zPk ∈ togS f l n := by rw [List.getD_eq_getElem?_getD, List.getElem?_eq_getElem h]; exact List.getElem_mem _
    obtain ⟨h1, h2, h3, h4⟩ := tog_mem f l n _ hm
    exact ⟨h1, h2, by unfold InR; omega⟩
theorem tog_lt {f : Int} {l : List Ms} {n i : Nat} (h : i + 1 < (togS f l n).length) : ((togS f l n).getD i zPk).2.1 < ((togS f l n).getD (i + 1) zPk).2.1 := by
  have := List.pairwise_iff_getElem.1 (tog_up f l n) i (i + 1) (by omega) h (Nat.lt_succ_self _)
  rw [List.getD_eq_getElem?_getD, List.getElem?_eq_getElem (by omega), List.getD_eq_getElem?_getD, List.getElem?_eq_getElem h]
  exact this
set_option maxRecDepth 100000 in
set_option maxHeartbeats 1600000 in
theorem together_walk {w : World} {P : Nat → Prop} {f : Int} {a : Option Addr} {c : Nat} {l : List Ms} (H : PgOk) (HW : ∀ wr, Calls Try.prog 10 #[] wr fun e w' => e = .returned (.bool true) ∧ Below wr.heap.size wr w') (hl : RwV msR w P a c l) (hm : ∀ m ∈ l, MsR m) (hf : InR f) : Calls Try.prog 8 #[.int .i64 f, .slice a l.length c] w fun e w' => e = .returned (.bool true) ∧ Below w.heap.size w w' := by
  have HLt : Hid (Calls Try.prog 9 #[.slice a l.length c] w fun e w' => ∃ b : Bool, e = .returned (.bool b) ∧ (b = true → wtMs l ≤ 300) ∧ w' = w) := light_any hl
  have HWk : Hid (∀ wr, Below w.heap.size w wr → Calls Try.prog 10 #[] wr fun e w' => e = .returned (.bool true) ∧ Below w.heap.size w w') := fun wr q => (HW wr).mono fun e w' ⟨q1, q2⟩ => ⟨q1, q.trans (q2.mono q.size)⟩
  have h1 := hl.cap1
  have h2 := hl.cap2
  by_cases hw : wtMs l ≤ 300
  · have HTg : Hid (Calls Try.prog 20 #[.int .i64 f, .slice a l.length c] w fun e w' => ∃ a' c', e = .returned (.slice a' (togS f l 7).length c') ∧ RwV pkR w' (fun _ => True) a' c' (togS f l 7) ∧ Below w.heap.size w w') := H.tog hl hw hm hf
    have HRt : Hid (∀ wr, Below w.heap.size w wr → Calls Try.prog 22 #[.int .i64 f, .slice a l.length c] wr fun e w' => ∃ a' c', e = .returned (.slice a' (togS f l 7).length c') ∧ RwV pkR w' (fun _ => True) a' c' (togS f l 7) ∧ Below wr.heap.size wr w') := fun wr q => RTog_ok (hl.below q) hw
    have HSa : Hid (∀ wr a1 c1 a2 c2, RwV pkR wr (fun _ => True) a1 c1 (togS f l 7) → RwV pkR wr (fun _ => True) a2 c2 (togS f l 7) → Calls Try.prog 21 #[.slice a1 (togS f l 7).length c1, .slice a2 (togS f l 7).length c2] wr fun e w' => e = .returned (.bool true) ∧ Below wr.heap.size wr w') := fun wr a1 c1 a2 c2 q1 q2 => by
      have := RSameAll_any _ _ a1 a2 c1 c2 _ _ wr q1 q2
      rw [eqPks_iff.2 rfl] at this
      exact this
    have hN7 : (togS f l 7).length ≤ 7 := tog_len f l 7
    have HAt : Hid (∀ i, i < (togS f l 7).length → ((togS f l 7).getD i zPk).1 = f ∧ ((togS f l 7).getD i zPk).2.1 ≠ f ∧ InR ((togS f l 7).getD i zPk).2.1) := fun i hi => (tog_at hi).resolve_right (by decide)
    have HUp : Hid (∀ i, i + 1 < (togS f l 7).length → ((togS f l 7).getD i zPk).2.1 < ((togS f l 7).getD (i + 1) zPk).2.1) := fun i hi => tog_lt hi
    have HSs : Hid (∀ i, sumP ((togS f l 7).take i) ≤ l.length) := fun i => Nat.le_trans (sumP_le _ i) (Nat.le_trans (tog_sum f l 7) (cntT_le f 7 l))
    have HSt : Hid (∀ i, i < (togS f l 7).length → sumP ((togS f l 7).take (i + 1)) = sumP ((togS f l 7).take i) + ((togS f l 7).getD i zPk).2.2.length) := fun i hi => sumP_take hi
    have HPk : Hid (∀ wr a c i, RwV pkR wr (fun _ => True) a c (togS f l 7) → i < (togS f l 7).length → ∃ (b o : Nat) (ma : Option Addr) (mc : Nat), a = some ⟨b, o, none⟩ ∧ wr.cell? ⟨b, o + i * 3, none⟩ = some (.int .i64 f) ∧ wr.cell? ⟨b, o + i * 3 + 1, none⟩ = some (.int .i64 ((togS f l 7).getD i zPk).2.1) ∧ wr.cell? ⟨b, o + i * 3 + 2, none⟩ = some (.slice ma ((togS f l 7).getD i zPk).2.2.length mc)) := fun wr a c i q hi => by
      obtain ⟨b, o, ma, mc, q1, _, _, q2, q3, q4⟩ := q.pk hi
      rw [(HAt.out i hi).1] at q2
      exact ⟨b, o, ma, mc, q1, q2, q3, q4⟩
    have hl3 : l.length ≤ 300 := Nat.le_trans (wtMs_len l) hw
    clear hl hm H HW
    generalize togS f l 7 = L at *
    generalize hN : L.length = N at *
    generalize hn : l.length = n at *
    go_enter Try.func8, Try.ntmps8
    go_wp2_with (first
      | (go_at_call 21; refine (HSa.out _ _ _ _ _ HP3.out.1 HP3.out.2.1).mono ?_; rintro e w4 ⟨rfl, qB⟩; have HP4 : Hid (RwV pkR w4 (fun _ => True) a2 c2 L ∧ Below w.heap.size w w4) := ⟨HP3.out.1.below qB, HP3.out.2.2.trans (qB.mono HP3.out.2.2.size)⟩; clear qB)
      | (go_at_call 22; refine (HRt.out _ HP2.out.2).mono ?_; rintro e w3 ⟨a3, c3, rfl, hp, qB⟩; have HP3 : Hid (RwV pkR w3 (fun _ => True) a2 c2 L ∧ RwV pkR w3 (fun _ => True) a3 c3 L ∧ Below w.heap.size w w3) := ⟨HP2.out.1.below qB, hp, HP2.out.2.trans (qB.mono HP2.out.2.size)⟩; clear hp qB)
      | (go_at_call 20; refine HTg.out.mono ?_; rintro e w2 ⟨a2, c2, rfl, hp, qB⟩; have HP2 : Hid (RwV pkR w2 (fun _ => True) a2 c2 L ∧ Below w.heap.size w w2) := ⟨hp, qB⟩; clear hp qB)
      | (go_at_call 10; refine (HWk.out _ (Below.refl _ _)).mono ?_; rintro e wz ⟨rfl, qz⟩; have HZ : Hid (Below w.heap.size w wz) := qz; clear qz)
      | (go_at_call 9; refine HLt.out.mono ?_; rintro e w1 ⟨b, rfl, hb, h9⟩; have h10 := h9.symm; clear h9; subst h10; have HLb : Hid (b = true → wtMs l ≤ 300) := hb; clear hb; cases b))
    all_goals first | (go_ret; exact ⟨rfl, HZ.out⟩) | skip
    have hc1 : N ≤ c2 := by have := HP4.out.1.cap1; omega
    have hc2 := HP4.out.1.cap2
    go_loopw [6, 7] (fun v y wr => ∃ (i : Nat), i ≤ N ∧ y = .int .i64 i ∧ v = .int .i64 (sumP (L.take i) : Nat) ∧ Below w4.heap.size w4 wr) (fun _ y _ => N - (intOf y).toNat)
    case atStart => exact ⟨0, Nat.zero_le _, rfl, rfl, Below.refl _ _⟩
    case round =>
      obtain ⟨i, hi, rfl, rfl, hB⟩ := hrel
      have HB : Hid (Below w4.heap.size w4 wr) := hB
      clear hB
      by_cases hlt : i < N
      · obtain ⟨b, o, ma, mc, rfl, q0, q1, q2⟩ := HPk.out wr _ _ i (HP4.out.1.below HB.out) hlt
        obtain ⟨_, hne, hin⟩ := HAt.out i hlt
        have HG := HSt.out i hlt
        have hb1 := HSs.out i
        have hb2 := HSs.out (i + 1)
        rw [HG] at hb2
        have HG2 : Hid (sumP (L.take (i + 1)) = sumP (L.take i) + (L.getD i zPk).2.2.length) := HG
        have HNe : Hid (¬ (L.getD i zPk).2.1 = f) := hne
        clear HG
        rcases i with _ | j
        · rw [Nat.zero_mul, Nat.add_zero] at q0 q1 q2
          generalize sumP (L.take 0) = s at *
          generalize (L.getD 0 zPk).2.2.length = k at *
          generalize (L.getD 0 zPk).2.1 = t0 at *
          have y1 : (t0 == f) = false := beq_eq_false_iff_ne.2 HNe.out
          go_wp2
          go_region
          all_goals
            go_wp2
            go_roundw
            case rel => exact ⟨1, by omega, by go_num, by rw [HG2.out]; go_num, HB.out.drew⟩
            case measure => simp [intOf]; omega
        · obtain ⟨b', o', ma', mc', hbb, q0', q1', q2'⟩ := HPk.out wr _ _ j (HP4.out.1.below HB.out) (by omega)
          cases hbb
          have hup := HUp.out j hlt
          generalize sumP (L.take (j + 1)) = s at *
          generalize (L.getD (j + 1) zPk).2.2.length = k at *
          generalize (L.getD (j + 1) zPk).2.1 = t0 at *
          generalize (L.getD j zPk).2.1 = t1 at *
          have y1 : (t0 == f) = false := beq_eq_false_iff_ne.2 HNe.out
          go_wp2
          go_region
          all_goals
            go_wp2
            go_roundw
            case rel => exact ⟨j + 1 + 1, by omega, by go_num, by rw [HG2.out]; go_num, HB.out.drew⟩
            case measure => simp [intOf]; omega
      · obtain rfl : i = N := by omega
        have hs := HSs.out i
        generalize sumP (L.take i) = s at *
        go_wp2_with (go_at_call 10; refine (HWk.out _ (HP4.out.2.trans (HB.out.mono HP4.out.2.size))).mono ?_; rintro e wz ⟨rfl, qz⟩; have HZ : Hid (Below w.heap.size w wz) := qz; clear qz)
        go_ret
        exact ⟨rfl, HZ.out⟩
  · have HNw : Hid (¬ wtMs l ≤ 300) := hw
    clear hl hm H HW hw
    generalize l.length = n at *
    go_enter Try.func8, Try.ntmps8
    go_wp2_with (first
      | (go_at_call 10; refine (HWk.out _ (Below.refl _ _)).mono ?_; rintro e wz ⟨rfl, qz⟩; have HZ : Hid (Below w.heap.size w wz) := qz; clear qz)
      | (go_at_call 9; refine HLt.out.mono ?_; rintro e w1 ⟨b, rfl, hb, h9⟩; have h10 := h9.symm; clear h9; subst h10; have HLb : Hid (b = true → wtMs l ≤ 300) := hb; clear hb; cases b))
    all_goals first | (go_ret; exact ⟨rfl, HZ.out⟩) | (exact absurd (HLb.out (by trivial)) HNw.out) | skip
end Go.Proofs.Ytcaddedkodjgcaa
