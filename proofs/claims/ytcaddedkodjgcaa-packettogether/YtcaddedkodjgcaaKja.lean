/-
  The program's small questions: node, index, truth, entriesMayBeSent: contracts.
-/
import Derived.Test.YtcaddedkodjgcaaKmg
import Derived.Test.YtcaddedkodjgcaaKck
namespace Go.Proofs.Ytcaddedkodjgcaa
section
open Go.RowKit Pack
set_option linter.unusedVariables false
set_option linter.unusedSimpArgs false

set_option maxRecDepth 100000 in
theorem node_any (n : Int) (w : World) : Calls Try.prog 29 #[.int .i64 n] w fun e w' => e = .returned (.bool (inI n 1 7)) ∧ w' = w := by
  unfold inI
  by_cases h1 : 1 ≤ n
  · by_cases h2 : n ≤ 7
    · rw [decide_eq_true h1, decide_eq_true h2]
      go_enter Try.func29, Try.ntmps29
      go_wp2
      go_ret
      exact ⟨rfl, rfl⟩
    · rw [decide_eq_true h1, decide_eq_false h2]
      go_enter Try.func29, Try.ntmps29
      go_wp2
      go_ret
      exact ⟨rfl, rfl⟩
  · rw [decide_eq_false h1]
    go_enter Try.func29, Try.ntmps29
    go_wp2
    go_ret
    exact ⟨rfl, rfl⟩
set_option maxRecDepth 100000 in
theorem index_any (n : Int) (w : World) : Calls Try.prog 46 #[.int .i64 n] w fun e w' => e = .returned (.bool (inI n 0 1099511627776)) ∧ w' = w := by
  unfold inI
  by_cases h1 : 0 ≤ n
  · by_cases h2 : n ≤ 1099511627776
    · rw [decide_eq_true h1, decide_eq_true h2]
      go_enter Try.func46, Try.ntmps46
      go_wp2
      go_ret
      exact ⟨rfl, rfl⟩
    · rw [decide_eq_true h1, decide_eq_false h2]
      go_enter Try.func46, Try.ntmps46
      go_wp2
      go_ret
      exact ⟨rfl, rfl⟩
  · rw [decide_eq_false h1]
    go_enter Try.func46, Try.ntmps46
    go_wp2
    go_ret
    exact ⟨rfl, rfl⟩
set_option maxRecDepth 100000 in
theorem truth_any (b : Bool) (w : World) : Calls Try.prog 41 #[.bool b] w fun e w' => e = .returned (.int .i64 (if b then 1 else 0)) ∧ w' = w := by
  cases b
  · go_enter Try.func41, Try.ntmps41
    go_wp2
    go_ret
    exact ⟨rfl, rfl⟩
  · go_enter Try.func41, Try.ntmps41
    go_wp2
    go_ret
    exact ⟨rfl, rfl⟩
/-- What is asked of a list of entries. -/
def entsOk (l : List En) : Bool := decide (l.length ≤ 8) && l.all entOk
theorem ents_yes {l : List En} (h : ∀ i, i < l.length → entOk (l.getD i zE) = true) : l.all entOk = true := List.all_eq_true.2 fun x hx => by
  obtain ⟨i, hi, rfl⟩ := List.getElem_of_mem hx
  have := h i hi
  rw [List.getD_eq_getElem?_getD, List.getElem?_eq_getElem hi] at this
  exact this
theorem ents_no {l : List En} {i : Nat} (hi : i < l.length) (h : entOk (l.getD i zE) = false) : l.all entOk = false := by
  cases e : l.all entOk with
  | false => rfl
  | true =>
    have := List.all_eq_true.1 e _ (List.getElem_mem hi)
    rw [List.getD_eq_getElem?_getD, List.getElem?_eq_getElem hi] at h
    exact absurd (h.symm.trans this) (by simp)
set_option maxRecDepth 100000 in
set_option maxHeartbeats 800000 in
theorem entries_any {w : World} {P : Nat → Prop} {a : Option Addr} {c : Nat} {l : List En} (hx : EnsV w P a c l) : Calls Try.prog 47 #[.slice a l.length c] w fun e w' => e = .returned (.bool (entsOk l)) ∧ Below w.heap.size w w' := by
  have HJ : Hid (∀ n wr, Calls Try.prog 46 #[.int .i64 n] wr fun e w' => e = .returned (.bool (inI n 0 1099511627776)) ∧ w' = wr) := fun n wr => index_any n wr
  have c1 := hx.cap1
  have c2 := hx.cap2
  by_cases g : l.length ≤ 8
  · have HE : Hid (entsOk l = l.all entOk) := by show _ = _; unfold entsOk; rw [decide_eq_true g]; rfl
    rw [HE.out]
    have HY : Hid ((∀ i, i < l.length → entOk (l.getD i zE) = true) → l.all entOk = true) := ents_yes
    have HN : Hid (∀ i, i < l.length → entOk (l.getD i zE) = false → l.all entOk = false) := fun i hi q => ents_no hi q
    have HC : Hid (∀ wr i, Below w.heap.size w wr → i < l.length → ∃ (b o : Nat) (ka : Option Addr) (kc : Nat), a = some ⟨b, o, none⟩ ∧ wr.cell? ⟨b, o + i * 2, none⟩ = some (.int .i64 (l.getD i zE).1) ∧ wr.cell? ⟨b, o + i * 2 + 1, none⟩ = some (.slice ka (l.getD i zE).2.length kc) ∧ b < wr.heap.size) := fun wr i q hi => by
      obtain ⟨b, o, ka, kc, q1, q2, q3, q4, q5, q6, _⟩ := (hx.below q).at_ hi
      exact ⟨b, o, ka, kc, q1, q2, q3, q6⟩
    have d1 : decide ((8 : Int) < (l.length : Int)) = false := decide_eq_false (by omega)
    clear hx HE
    generalize l.all entOk = r at *
    generalize hn : l.length = n at *
    go_enter Try.func47, Try.ntmps47
    go_wp2
    go_loopw [10] (fun x wr => ∃ (i : Nat), i ≤ n ∧ x = .int .i64 i ∧ Hid (Below w.heap.size w wr) ∧ Hid (∀ j, j < i → entOk (l.getD j zE) = true)) (fun x _ => n - (intOf x).toNat)
    case atStart => exact ⟨0, Nat.zero_le _, rfl, Below.refl _ _, fun j hj => absurd hj (Nat.not_lt_zero _)⟩
    case round =>
      obtain ⟨i, hi, rfl, HB, HR⟩ := hrel
      by_cases hlt : i < n
      · obtain ⟨b, o, ka, kc, rfl, x1, x2, hb⟩ := HC.out wr i HB.out hlt
        have HF : Hid (entOk (l.getD i zE) = false → r = false) := HN.out i hlt
        have HG : Hid (entOk (l.getD i zE) = true → ∀ j, j < i + 1 → entOk (l.getD j zE) = true) := fun q j hj => by
          by_cases e : j = i
          · subst e; exact q
          · exact HR.out j (by omega)
        have HK : Hid (entOk (l.getD i zE) = (decide (1 ≤ (l.getD i zE).1) && decide ((l.getD i zE).1 ≤ 1099511627776) && decide ((l.getD i zE).2.length ≤ 65536))) := rfl
        clear HC HN HY HR
        generalize entOk (l.getD i zE) = bx at *
        generalize (l.getD i zE).1 = t at *
        generalize (l.getD i zE).2.length = D at *
        have hne : b ≠ wr.heap.size := by omega
        by_cases k0 : t = 0
        · have HT : Hid (r = false) := HF.out (by rw [HK.out]; subst k0; rfl)
          subst k0
          clear HK HF HG
          go_wp2
          go_ret
          exact ⟨by rw [HT.out]; rfl, (HB.out.alloc HB.out.size _)⟩
        · have y0 : (t == 0) = false := beq_eq_false_iff_ne.2 k0
          cases k1 : inI t 0 1099511627776
          · have HT : Hid (r = false) := HF.out (by
              rw [HK.out]
              unfold inI at k1
              by_cases q1 : 1 ≤ t
              · by_cases q2 : t ≤ 1099511627776
                · rw [decide_eq_true q2, decide_eq_true (show 0 ≤ t by omega)] at k1; cases k1
                · rw [decide_eq_false q2]; simp
              · rw [decide_eq_false q1]; rfl)
            clear HK HF HG k0
            go_wp2_with (go_at_call 46; refine (HJ.out _ _).mono ?_; rintro e w1 ⟨rfl, rfl⟩)
            go_ret
            exact ⟨by rw [HT.out]; rfl, (HB.out.alloc HB.out.size _)⟩
          · have hlo : 1 ≤ t ∧ t ≤ 1099511627776 := by
              unfold inI at k1
              simp only [Bool.and_eq_true, decide_eq_true_eq] at k1
              omega
            have HV : Hid (bx = decide (D ≤ 65536)) := by show _ = _; rw [HK.out, decide_eq_true hlo.1, decide_eq_true hlo.2]; rfl
            clear hlo
            by_cases k2 : D ≤ 65536
            · have d2 : decide ((65536 : Int) < (D : Int)) = false := decide_eq_false (by omega)
              have HT := HG.out (by rw [HV.out, decide_eq_true k2])
              have HT : Hid (∀ j, j < i + 1 → entOk (l.getD j zE) = true) := HT
              clear HK HF HG k0 HV k2
              go_wp2_with (go_at_call 46; refine (HJ.out _ _).mono ?_; rintro e w1 ⟨rfl, rfl⟩)
              go_roundw
              case rel => exact ⟨i + 1, by omega, by go_num, HB.out.alloc HB.out.size _, HT⟩
              case measure => simp [intOf]; omega
            · have d2 : decide ((65536 : Int) < (D : Int)) = true := decide_eq_true (by omega)
              have HT : Hid (r = false) := HF.out (by rw [HV.out, decide_eq_false k2])
              clear HK HF HG k0 HV k2
              go_wp2_with (go_at_call 46; refine (HJ.out _ _).mono ?_; rintro e w1 ⟨rfl, rfl⟩)
              go_ret
              exact ⟨by rw [HT.out]; rfl, (HB.out.alloc HB.out.size _)⟩
      · have HT : Hid (r = true) := HY.out fun j hj => HR.out j (by omega)
        clear HC HN HR HY
        go_wp2
        go_ret
        exact ⟨by rw [HT.out]; rfl, HB.out⟩
  · have HE : Hid (entsOk l = false) := by show _ = _; unfold entsOk; rw [decide_eq_false g]; rfl
    rw [HE.out]
    have d1 : decide ((8 : Int) < (l.length : Int)) = true := decide_eq_true (by omega)
    clear hx g
    generalize l.length = n at *
    go_enter Try.func47, Try.ntmps47
    go_wp2
    go_ret
    exact ⟨rfl, Below.refl _ _⟩
end
section
open Go.RowKit Pack
set_option linter.unusedVariables false
set_option linter.unusedSimpArgs false

theorem msOk_eq (m : Ms) : msOk m = (inI m.kind 1 7 && (inI m.grp 0 63 && (inI m.term 0 1099511627776 && (inI m.at_ 0 1099511627776 && (inI m.att 0 1099511627776 && (inI m.commit 0 1099511627776 && (entsOk m.ents && decide (m.data.length ≤ 65536)))))))) := by
  unfold msOk entsOk
  cases inI m.kind 1 7 <;> cases inI m.grp 0 63 <;> cases inI m.term 0 1099511627776 <;> cases inI m.at_ 0 1099511627776 <;> cases inI m.att 0 1099511627776 <;> cases inI m.commit 0 1099511627776 <;> cases decide (m.ents.length ≤ 8) <;> cases decide (m.data.length ≤ 65536) <;> cases m.ents.all entOk <;> rfl

set_option maxRecDepth 100000 in
set_option maxHeartbeats 800000 in
theorem May_c0 {w : World} {ax : Ax} {m : Ms} {P : Nat → Prop} (hx : MsV w P ax m) (k1 : ¬ 1 ≤ m.kind) : Calls Try.prog 30 #[msA ax m] w fun e w' => e = .returned (.bool (msOk m)) ∧ Below w.heap.size w w' := by
  have HF : Hid (msOk m = false) := by
    show _ = _
    rw [msOk_eq]
    rw [show inI m.kind 1 7 = false from by unfold inI; rw [decide_eq_false k1]; rfl]
    rfl
  rw [HF.out]
  have HS := one_box w ax m
  have HL := HS.2
  obtain ⟨p0, p1, p2, p3, p4, p5, p6, p7, p8, p9, p10, pf⟩ := HS.1
  have HJ : Hid (∀ n wr, Calls Try.prog 46 #[.int .i64 n] wr fun e w' => e = .returned (.bool (inI n 0 1099511627776)) ∧ w' = wr) := fun n wr => index_any n wr
  have HB : Hid (Below w.heap.size w (w.alloc (Obj.cells #[.int .i64 m.kind, .int .i64 m.grp, .int .i64 m.frm, .int .i64 m.to, .int .i64 m.term, .int .i64 m.at_, .int .i64 m.att, .int .i64 m.commit, .bool m.ok, .slice ax.ea m.ents.length ax.ec, .slice ax.da m.data.length ax.dc] 51))) := HL
  have HZ : Hid (∀ wr, Below (w.heap.size + 1) (w.alloc (Obj.cells #[.int .i64 m.kind, .int .i64 m.grp, .int .i64 m.frm, .int .i64 m.to, .int .i64 m.term, .int .i64 m.at_, .int .i64 m.att, .int .i64 m.commit, .bool m.ok, .slice ax.ea m.ents.length ax.ec, .slice ax.da m.data.length ax.dc] 51)) wr → Below w.heap.size w wr ∧ wr.cell? ⟨w.heap.size, 10, none⟩ = some (.slice ax.da m.data.length ax.dc)) := fun wr q => ⟨HL.trans (q.mono (Nat.le_succ _)), (cell_kept (q.block _ (Nat.lt_succ_self _)) _).trans p10⟩
  clear HS HL HF hx
  unfold msA
  generalize m.ents.length = ne at *
  generalize m.data.length = nd at *
  go_enter Try.func30, Try.ntmps30
  go_wp2
  go_ret
  exact ⟨rfl, HB.out⟩
set_option maxRecDepth 100000 in
set_option maxHeartbeats 800000 in
theorem May_c1 {w : World} {ax : Ax} {m : Ms} {P : Nat → Prop} (hx : MsV w P ax m) (k1 : 1 ≤ m.kind) (k2 : ¬ m.kind ≤ 7) : Calls Try.prog 30 #[msA ax m] w fun e w' => e = .returned (.bool (msOk m)) ∧ Below w.heap.size w w' := by
  have HF : Hid (msOk m = false) := by
    show _ = _
    rw [msOk_eq]
    rw [show inI m.kind 1 7 = false from by unfold inI; rw [decide_eq_false k2]; simp]
    rfl
  rw [HF.out]
  have HS := one_box w ax m
  have HL := HS.2
  obtain ⟨p0, p1, p2, p3, p4, p5, p6, p7, p8, p9, p10, pf⟩ := HS.1
  have HJ : Hid (∀ n wr, Calls Try.prog 46 #[.int .i64 n] wr fun e w' => e = .returned (.bool (inI n 0 1099511627776)) ∧ w' = wr) := fun n wr => index_any n wr
  have HB : Hid (Below w.heap.size w (w.alloc (Obj.cells #[.int .i64 m.kind, .int .i64 m.grp, .int .i64 m.frm, .int .i64 m.to, .int .i64 m.term, .int .i64 m.at_, .int .i64 m.att, .int .i64 m.commit, .bool m.ok, .slice ax.ea m.ents.length ax.ec, .slice ax.da m.data.length ax.dc] 51))) := HL
  have HZ : Hid (∀ wr, Below (w.heap.size + 1) (w.alloc (Obj.cells #[.int .i64 m.kind, .int .i64 m.grp, .int .i64 m.frm, .int .i64 m.to, .int .i64 m.term, .int .i64 m.at_, .int .i64 m.att, .int .i64 m.commit, .bool m.ok, .slice ax.ea m.ents.length ax.ec, .slice ax.da m.data.length ax.dc] 51)) wr → Below w.heap.size w wr ∧ wr.cell? ⟨w.heap.size, 10, none⟩ = some (.slice ax.da m.data.length ax.dc)) := fun wr q => ⟨HL.trans (q.mono (Nat.le_succ _)), (cell_kept (q.block _ (Nat.lt_succ_self _)) _).trans p10⟩
  clear HS HL HF hx
  unfold msA
  generalize m.ents.length = ne at *
  generalize m.data.length = nd at *
  go_enter Try.func30, Try.ntmps30
  go_wp2
  go_ret
  exact ⟨rfl, HB.out⟩
set_option maxRecDepth 100000 in
set_option maxHeartbeats 800000 in
theorem May_c2 {w : World} {ax : Ax} {m : Ms} {P : Nat → Prop} (hx : MsV w P ax m) (k1 : 1 ≤ m.kind) (k2 : m.kind ≤ 7) (g1 : ¬ 0 ≤ m.grp) : Calls Try.prog 30 #[msA ax m] w fun e w' => e = .returned (.bool (msOk m)) ∧ Below w.heap.size w w' := by
  have HF : Hid (msOk m = false) := by
    show _ = _
    rw [msOk_eq]
    rw [inI_yes k1 k2]
    rw [show inI m.grp 0 63 = false from by unfold inI; rw [decide_eq_false g1]; rfl]
    rfl
  rw [HF.out]
  have HS := one_box w ax m
  have HL := HS.2
  obtain ⟨p0, p1, p2, p3, p4, p5, p6, p7, p8, p9, p10, pf⟩ := HS.1
  have HJ : Hid (∀ n wr, Calls Try.prog 46 #[.int .i64 n] wr fun e w' => e = .returned (.bool (inI n 0 1099511627776)) ∧ w' = wr) := fun n wr => index_any n wr
  have HB : Hid (Below w.heap.size w (w.alloc (Obj.cells #[.int .i64 m.kind, .int .i64 m.grp, .int .i64 m.frm, .int .i64 m.to, .int .i64 m.term, .int .i64 m.at_, .int .i64 m.att, .int .i64 m.commit, .bool m.ok, .slice ax.ea m.ents.length ax.ec, .slice ax.da m.data.length ax.dc] 51))) := HL
  have HZ : Hid (∀ wr, Below (w.heap.size + 1) (w.alloc (Obj.cells #[.int .i64 m.kind, .int .i64 m.grp, .int .i64 m.frm, .int .i64 m.to, .int .i64 m.term, .int .i64 m.at_, .int .i64 m.att, .int .i64 m.commit, .bool m.ok, .slice ax.ea m.ents.length ax.ec, .slice ax.da m.data.length ax.dc] 51)) wr → Below w.heap.size w wr ∧ wr.cell? ⟨w.heap.size, 10, none⟩ = some (.slice ax.da m.data.length ax.dc)) := fun wr q => ⟨HL.trans (q.mono (Nat.le_succ _)), (cell_kept (q.block _ (Nat.lt_succ_self _)) _).trans p10⟩
  clear HS HL HF hx
  unfold msA
  generalize m.ents.length = ne at *
  generalize m.data.length = nd at *
  go_enter Try.func30, Try.ntmps30
  go_wp2
  go_ret
  exact ⟨rfl, HB.out⟩
set_option maxRecDepth 100000 in
set_option maxHeartbeats 800000 in
theorem May_c3 {w : World} {ax : Ax} {m : Ms} {P : Nat → Prop} (hx : MsV w P ax m) (k1 : 1 ≤ m.kind) (k2 : m.kind ≤ 7) (g1 : 0 ≤ m.grp) (g2 : ¬ m.grp < 64) : Calls Try.prog 30 #[msA ax m] w fun e w' => e = .returned (.bool (msOk m)) ∧ Below w.heap.size w w' := by
  have HF : Hid (msOk m = false) := by
    show _ = _
    rw [msOk_eq]
    rw [inI_yes k1 k2]
    rw [show inI m.grp 0 63 = false from by unfold inI; rw [decide_eq_false (show ¬ m.grp ≤ 63 by omega)]; simp]
    rfl
  rw [HF.out]
  have HS := one_box w ax m
  have HL := HS.2
  obtain ⟨p0, p1, p2, p3, p4, p5, p6, p7, p8, p9, p10, pf⟩ := HS.1
  have HJ : Hid (∀ n wr, Calls Try.prog 46 #[.int .i64 n] wr fun e w' => e = .returned (.bool (inI n 0 1099511627776)) ∧ w' = wr) := fun n wr => index_any n wr
  have HB : Hid (Below w.heap.size w (w.alloc (Obj.cells #[.int .i64 m.kind, .int .i64 m.grp, .int .i64 m.frm, .int .i64 m.to, .int .i64 m.term, .int .i64 m.at_, .int .i64 m.att, .int .i64 m.commit, .bool m.ok, .slice ax.ea m.ents.length ax.ec, .slice ax.da m.data.length ax.dc] 51))) := HL
  have HZ : Hid (∀ wr, Below (w.heap.size + 1) (w.alloc (Obj.cells #[.int .i64 m.kind, .int .i64 m.grp, .int .i64 m.frm, .int .i64 m.to, .int .i64 m.term, .int .i64 m.at_, .int .i64 m.att, .int .i64 m.commit, .bool m.ok, .slice ax.ea m.ents.length ax.ec, .slice ax.da m.data.length ax.dc] 51)) wr → Below w.heap.size w wr ∧ wr.cell? ⟨w.heap.size, 10, none⟩ = some (.slice ax.da m.data.length ax.dc)) := fun wr q => ⟨HL.trans (q.mono (Nat.le_succ _)), (cell_kept (q.block _ (Nat.lt_succ_self _)) _).trans p10⟩
  clear HS HL HF hx
  unfold msA
  generalize m.ents.length = ne at *
  generalize m.data.length = nd at *
  go_enter Try.func30, Try.ntmps30
  go_wp2
  go_ret
  exact ⟨rfl, HB.out⟩
set_option maxRecDepth 100000 in
set_option maxHeartbeats 800000 in
theorem May_c4 {w : World} {ax : Ax} {m : Ms} {P : Nat → Prop} (hx : MsV w P ax m) (k1 : 1 ≤ m.kind) (k2 : m.kind ≤ 7) (g1 : 0 ≤ m.grp) (g2 : m.grp < 64) (t : inI m.term 0 1099511627776 = false) : Calls Try.prog 30 #[msA ax m] w fun e w' => e = .returned (.bool (msOk m)) ∧ Below w.heap.size w w' := by
  have HF : Hid (msOk m = false) := by
    show _ = _
    rw [msOk_eq]
    rw [inI_yes k1 k2]
    rw [inI_yes g1 (show m.grp ≤ 63 by omega)]
    rw [t]
    rfl
  rw [HF.out]
  have HS := one_box w ax m
  have HL := HS.2
  obtain ⟨p0, p1, p2, p3, p4, p5, p6, p7, p8, p9, p10, pf⟩ := HS.1
  have HJ : Hid (∀ n wr, Calls Try.prog 46 #[.int .i64 n] wr fun e w' => e = .returned (.bool (inI n 0 1099511627776)) ∧ w' = wr) := fun n wr => index_any n wr
  have HB : Hid (Below w.heap.size w (w.alloc (Obj.cells #[.int .i64 m.kind, .int .i64 m.grp, .int .i64 m.frm, .int .i64 m.to, .int .i64 m.term, .int .i64 m.at_, .int .i64 m.att, .int .i64 m.commit, .bool m.ok, .slice ax.ea m.ents.length ax.ec, .slice ax.da m.data.length ax.dc] 51))) := HL
  have HZ : Hid (∀ wr, Below (w.heap.size + 1) (w.alloc (Obj.cells #[.int .i64 m.kind, .int .i64 m.grp, .int .i64 m.frm, .int .i64 m.to, .int .i64 m.term, .int .i64 m.at_, .int .i64 m.att, .int .i64 m.commit, .bool m.ok, .slice ax.ea m.ents.length ax.ec, .slice ax.da m.data.length ax.dc] 51)) wr → Below w.heap.size w wr ∧ wr.cell? ⟨w.heap.size, 10, none⟩ = some (.slice ax.da m.data.length ax.dc)) := fun wr q => ⟨HL.trans (q.mono (Nat.le_succ _)), (cell_kept (q.block _ (Nat.lt_succ_self _)) _).trans p10⟩
  clear HS HL HF hx
  unfold msA
  generalize m.ents.length = ne at *
  generalize m.data.length = nd at *
  go_enter Try.func30, Try.ntmps30
  go_wp2_with (go_at_call 46; refine (HJ.out _ _).mono ?_; rintro e w1 ⟨rfl, rfl⟩)
  go_ret
  exact ⟨rfl, HB.out⟩
set_option maxRecDepth 100000 in
set_option maxHeartbeats 800000 in
theorem May_c5 {w : World} {ax : Ax} {m : Ms} {P : Nat → Prop} (hx : MsV w P ax m) (k1 : 1 ≤ m.kind) (k2 : m.kind ≤ 7) (g1 : 0 ≤ m.grp) (g2 : m.grp < 64) (t : inI m.term 0 1099511627776 = true) (a : inI m.at_ 0 1099511627776 = false) : Calls Try.prog 30 #[msA ax m] w fun e w' => e = .returned (.bool (msOk m)) ∧ Below w.heap.size w w' := by
  have HF : Hid (msOk m = false) := by
    show _ = _
    rw [msOk_eq]
    rw [inI_yes k1 k2]
    rw [inI_yes g1 (show m.grp ≤ 63 by omega)]
    rw [t, a]
    rfl
  rw [HF.out]
  have HS := one_box w ax m
  have HL := HS.2
  obtain ⟨p0, p1, p2, p3, p4, p5, p6, p7, p8, p9, p10, pf⟩ := HS.1
  have HJ : Hid (∀ n wr, Calls Try.prog 46 #[.int .i64 n] wr fun e w' => e = .returned (.bool (inI n 0 1099511627776)) ∧ w' = wr) := fun n wr => index_any n wr
  have HB : Hid (Below w.heap.size w (w.alloc (Obj.cells #[.int .i64 m.kind, .int .i64 m.grp, .int .i64 m.frm, .int .i64 m.to, .int .i64 m.term, .int .i64 m.at_, .int .i64 m.att, .int .i64 m.commit, .bool m.ok, .slice ax.ea m.ents.length ax.ec, .slice ax.da m.data.length ax.dc] 51))) := HL
  have HZ : Hid (∀ wr, Below (w.heap.size + 1) (w.alloc (Obj.cells #[.int .i64 m.kind, .int .i64 m.grp, .int .i64 m.frm, .int .i64 m.to, .int .i64 m.term, .int .i64 m.at_, .int .i64 m.att, .int .i64 m.commit, .bool m.ok, .slice ax.ea m.ents.length ax.ec, .slice ax.da m.data.length ax.dc] 51)) wr → Below w.heap.size w wr ∧ wr.cell? ⟨w.heap.size, 10, none⟩ = some (.slice ax.da m.data.length ax.dc)) := fun wr q => ⟨HL.trans (q.mono (Nat.le_succ _)), (cell_kept (q.block _ (Nat.lt_succ_self _)) _).trans p10⟩
  clear HS HL HF hx
  unfold msA
  generalize m.ents.length = ne at *
  generalize m.data.length = nd at *
  go_enter Try.func30, Try.ntmps30
  go_wp2_with (go_at_call 46; refine (HJ.out _ _).mono ?_; rintro e w1 ⟨rfl, rfl⟩)
  go_ret
  exact ⟨rfl, HB.out⟩
set_option maxRecDepth 100000 in
set_option maxHeartbeats 800000 in
theorem May_c6 {w : World} {ax : Ax} {m : Ms} {P : Nat → Prop} (hx : MsV w P ax m) (k1 : 1 ≤ m.kind) (k2 : m.kind ≤ 7) (g1 : 0 ≤ m.grp) (g2 : m.grp < 64) (t : inI m.term 0 1099511627776 = true) (a : inI m.at_ 0 1099511627776 = true) (b : inI m.att 0 1099511627776 = false) : Calls Try.prog 30 #[msA ax m] w fun e w' => e = .returned (.bool (msOk m)) ∧ Below w.heap.size w w' := by
  have HF : Hid (msOk m = false) := by
    show _ = _
    rw [msOk_eq]
    rw [inI_yes k1 k2]
    rw [inI_yes g1 (show m.grp ≤ 63 by omega)]
    rw [t, a, b]
    rfl
  rw [HF.out]
  have HS := one_box w ax m
  have HL := HS.2
  obtain ⟨p0, p1, p2, p3, p4, p5, p6, p7, p8, p9, p10, pf⟩ := HS.1
  have HJ : Hid (∀ n wr, Calls Try.prog 46 #[.int .i64 n] wr fun e w' => e = .returned (.bool (inI n 0 1099511627776)) ∧ w' = wr) := fun n wr => index_any n wr
  have HB : Hid (Below w.heap.size w (w.alloc (Obj.cells #[.int .i64 m.kind, .int .i64 m.grp, .int .i64 m.frm, .int .i64 m.to, .int .i64 m.term, .int .i64 m.at_, .int .i64 m.att, .int .i64 m.commit, .bool m.ok, .slice ax.ea m.ents.length ax.ec, .slice ax.da m.data.length ax.dc] 51))) := HL
  have HZ : Hid (∀ wr, Below (w.heap.size + 1) (w.alloc (Obj.cells #[.int .i64 m.kind, .int .i64 m.grp, .int .i64 m.frm, .int .i64 m.to, .int .i64 m.term, .int .i64 m.at_, .int .i64 m.att, .int .i64 m.commit, .bool m.ok, .slice ax.ea m.ents.length ax.ec, .slice ax.da m.data.length ax.dc] 51)) wr → Below w.heap.size w wr ∧ wr.cell? ⟨w.heap.size, 10, none⟩ = some (.slice ax.da m.data.length ax.dc)) := fun wr q => ⟨HL.trans (q.mono (Nat.le_succ _)), (cell_kept (q.block _ (Nat.lt_succ_self _)) _).trans p10⟩
  clear HS HL HF hx
  unfold msA
  generalize m.ents.length = ne at *
  generalize m.data.length = nd at *
  go_enter Try.func30, Try.ntmps30
  go_wp2_with (go_at_call 46; refine (HJ.out _ _).mono ?_; rintro e w1 ⟨rfl, rfl⟩)
  go_ret
  exact ⟨rfl, HB.out⟩
set_option maxRecDepth 100000 in
set_option maxHeartbeats 800000 in
theorem May_c7 {w : World} {ax : Ax} {m : Ms} {P : Nat → Prop} (hx : MsV w P ax m) (k1 : 1 ≤ m.kind) (k2 : m.kind ≤ 7) (g1 : 0 ≤ m.grp) (g2 : m.grp < 64) (t : inI m.term 0 1099511627776 = true) (a : inI m.at_ 0 1099511627776 = true) (b : inI m.att 0 1099511627776 = true) (c : inI m.commit 0 1099511627776 = false) : Calls Try.prog 30 #[msA ax m] w fun e w' => e = .returned (.bool (msOk m)) ∧ Below w.heap.size w w' := by
  have HF : Hid (msOk m = false) := by
    show _ = _
    rw [msOk_eq]
    rw [inI_yes k1 k2]
    rw [inI_yes g1 (show m.grp ≤ 63 by omega)]
    rw [t, a, b, c]
    rfl
  rw [HF.out]
  have HS := one_box w ax m
  have HL := HS.2
  obtain ⟨p0, p1, p2, p3, p4, p5, p6, p7, p8, p9, p10, pf⟩ := HS.1
  have HJ : Hid (∀ n wr, Calls Try.prog 46 #[.int .i64 n] wr fun e w' => e = .returned (.bool (inI n 0 1099511627776)) ∧ w' = wr) := fun n wr => index_any n wr
  have HB : Hid (Below w.heap.size w (w.alloc (Obj.cells #[.int .i64 m.kind, .int .i64 m.grp, .int .i64 m.frm, .int .i64 m.to, .int .i64 m.term, .int .i64 m.at_, .int .i64 m.att, .int .i64 m.commit, .bool m.ok, .slice ax.ea m.ents.length ax.ec, .slice ax.da m.data.length ax.dc] 51))) := HL
  have HZ : Hid (∀ wr, Below (w.heap.size + 1) (w.alloc (Obj.cells #[.int .i64 m.kind, .int .i64 m.grp, .int .i64 m.frm, .int .i64 m.to, .int .i64 m.term, .int .i64 m.at_, .int .i64 m.att, .int .i64 m.commit, .bool m.ok, .slice ax.ea m.ents.length ax.ec, .slice ax.da m.data.length ax.dc] 51)) wr → Below w.heap.size w wr ∧ wr.cell? ⟨w.heap.size, 10, none⟩ = some (.slice ax.da m.data.length ax.dc)) := fun wr q => ⟨HL.trans (q.mono (Nat.le_succ _)), (cell_kept (q.block _ (Nat.lt_succ_self _)) _).trans p10⟩
  clear HS HL HF hx
  unfold msA
  generalize m.ents.length = ne at *
  generalize m.data.length = nd at *
  go_enter Try.func30, Try.ntmps30
  go_wp2_with (go_at_call 46; refine (HJ.out _ _).mono ?_; rintro e w1 ⟨rfl, rfl⟩)
  go_ret
  exact ⟨rfl, HB.out⟩
set_option maxRecDepth 100000 in
set_option maxHeartbeats 800000 in
theorem May_c8 {w : World} {ax : Ax} {m : Ms} {P : Nat → Prop} (hx : MsV w P ax m) (k1 : 1 ≤ m.kind) (k2 : m.kind ≤ 7) (g1 : 0 ≤ m.grp) (g2 : m.grp < 64) (t : inI m.term 0 1099511627776 = true) (a : inI m.at_ 0 1099511627776 = true) (b : inI m.att 0 1099511627776 = true) (c : inI m.commit 0 1099511627776 = true) (e : entsOk m.ents = false) : Calls Try.prog 30 #[msA ax m] w fun e w' => e = .returned (.bool (msOk m)) ∧ Below w.heap.size w w' := by
  have HF : Hid (msOk m = false) := by
    show _ = _
    rw [msOk_eq]
    rw [inI_yes k1 k2]
    rw [inI_yes g1 (show m.grp ≤ 63 by omega)]
    rw [t, a, b, c, e]
    rfl
  rw [HF.out]
  have HS := one_box w ax m
  have HL := HS.2
  obtain ⟨p0, p1, p2, p3, p4, p5, p6, p7, p8, p9, p10, pf⟩ := HS.1
  have HJ : Hid (∀ n wr, Calls Try.prog 46 #[.int .i64 n] wr fun e w' => e = .returned (.bool (inI n 0 1099511627776)) ∧ w' = wr) := fun n wr => index_any n wr
  have HE : Hid (Calls Try.prog 47 #[.slice ax.ea m.ents.length ax.ec] (w.alloc (Obj.cells #[.int .i64 m.kind, .int .i64 m.grp, .int .i64 m.frm, .int .i64 m.to, .int .i64 m.term, .int .i64 m.at_, .int .i64 m.att, .int .i64 m.commit, .bool m.ok, .slice ax.ea m.ents.length ax.ec, .slice ax.da m.data.length ax.dc] 51)) fun e w' => e = .returned (.bool false) ∧ Below (w.heap.size + 1) (w.alloc (Obj.cells #[.int .i64 m.kind, .int .i64 m.grp, .int .i64 m.frm, .int .i64 m.to, .int .i64 m.term, .int .i64 m.at_, .int .i64 m.att, .int .i64 m.commit, .bool m.ok, .slice ax.ea m.ents.length ax.ec, .slice ax.da m.data.length ax.dc] 51)) w') := by
    have := entries_any (hx.e.below HL)
    rw [e, size_alloc] at this
    exact this
  have HB : Hid (Below w.heap.size w (w.alloc (Obj.cells #[.int .i64 m.kind, .int .i64 m.grp, .int .i64 m.frm, .int .i64 m.to, .int .i64 m.term, .int .i64 m.at_, .int .i64 m.att, .int .i64 m.commit, .bool m.ok, .slice ax.ea m.ents.length ax.ec, .slice ax.da m.data.length ax.dc] 51))) := HL
  have HZ : Hid (∀ wr, Below (w.heap.size + 1) (w.alloc (Obj.cells #[.int .i64 m.kind, .int .i64 m.grp, .int .i64 m.frm, .int .i64 m.to, .int .i64 m.term, .int .i64 m.at_, .int .i64 m.att, .int .i64 m.commit, .bool m.ok, .slice ax.ea m.ents.length ax.ec, .slice ax.da m.data.length ax.dc] 51)) wr → Below w.heap.size w wr ∧ wr.cell? ⟨w.heap.size, 10, none⟩ = some (.slice ax.da m.data.length ax.dc)) := fun wr q => ⟨HL.trans (q.mono (Nat.le_succ _)), (cell_kept (q.block _ (Nat.lt_succ_self _)) _).trans p10⟩
  clear HS HL HF hx e
  unfold msA
  generalize m.ents.length = ne at *
  generalize m.data.length = nd at *
  go_enter Try.func30, Try.ntmps30
  go_wp2_with (first
    | (go_at_call 46; refine (HJ.out _ _).mono ?_; rintro e w1 ⟨rfl, rfl⟩)
    | (go_at_call 47; refine HE.out.mono ?_; rintro e w2 ⟨rfl, qB⟩; have HQ : Hid (Below (w.heap.size + 1) _ w2) := qB; obtain ⟨_, r10⟩ := HZ.out w2 qB; clear qB))
  go_ret
  exact ⟨rfl, (HZ.out _ HQ.out).1⟩
set_option maxRecDepth 100000 in
set_option maxHeartbeats 800000 in
theorem May_c9 {w : World} {ax : Ax} {m : Ms} {P : Nat → Prop} (hx : MsV w P ax m) (k1 : 1 ≤ m.kind) (k2 : m.kind ≤ 7) (g1 : 0 ≤ m.grp) (g2 : m.grp < 64) (t : inI m.term 0 1099511627776 = true) (a : inI m.at_ 0 1099511627776 = true) (b : inI m.att 0 1099511627776 = true) (c : inI m.commit 0 1099511627776 = true) (e : entsOk m.ents = true) (d : ¬ m.data.length ≤ 65536) : Calls Try.prog 30 #[msA ax m] w fun e w' => e = .returned (.bool (msOk m)) ∧ Below w.heap.size w w' := by
  have HF : Hid (msOk m = false) := by
    show _ = _
    rw [msOk_eq]
    rw [inI_yes k1 k2]
    rw [inI_yes g1 (show m.grp ≤ 63 by omega)]
    rw [t, a, b, c, e]
    rw [decide_eq_false d]
    rfl
  rw [HF.out]
  have HS := one_box w ax m
  have HL := HS.2
  obtain ⟨p0, p1, p2, p3, p4, p5, p6, p7, p8, p9, p10, pf⟩ := HS.1
  have HJ : Hid (∀ n wr, Calls Try.prog 46 #[.int .i64 n] wr fun e w' => e = .returned (.bool (inI n 0 1099511627776)) ∧ w' = wr) := fun n wr => index_any n wr
  have d0 : decide ((m.data.length : Int) ≤ 65536) = false := decide_eq_false (by omega)
  have HE : Hid (Calls Try.prog 47 #[.slice ax.ea m.ents.length ax.ec] (w.alloc (Obj.cells #[.int .i64 m.kind, .int .i64 m.grp, .int .i64 m.frm, .int .i64 m.to, .int .i64 m.term, .int .i64 m.at_, .int .i64 m.att, .int .i64 m.commit, .bool m.ok, .slice ax.ea m.ents.length ax.ec, .slice ax.da m.data.length ax.dc] 51)) fun e w' => e = .returned (.bool true) ∧ Below (w.heap.size + 1) (w.alloc (Obj.cells #[.int .i64 m.kind, .int .i64 m.grp, .int .i64 m.frm, .int .i64 m.to, .int .i64 m.term, .int .i64 m.at_, .int .i64 m.att, .int .i64 m.commit, .bool m.ok, .slice ax.ea m.ents.length ax.ec, .slice ax.da m.data.length ax.dc] 51)) w') := by
    have := entries_any (hx.e.below HL)
    rw [e, size_alloc] at this
    exact this
  have HB : Hid (Below w.heap.size w (w.alloc (Obj.cells #[.int .i64 m.kind, .int .i64 m.grp, .int .i64 m.frm, .int .i64 m.to, .int .i64 m.term, .int .i64 m.at_, .int .i64 m.att, .int .i64 m.commit, .bool m.ok, .slice ax.ea m.ents.length ax.ec, .slice ax.da m.data.length ax.dc] 51))) := HL
  have HZ : Hid (∀ wr, Below (w.heap.size + 1) (w.alloc (Obj.cells #[.int .i64 m.kind, .int .i64 m.grp, .int .i64 m.frm, .int .i64 m.to, .int .i64 m.term, .int .i64 m.at_, .int .i64 m.att, .int .i64 m.commit, .bool m.ok, .slice ax.ea m.ents.length ax.ec, .slice ax.da m.data.length ax.dc] 51)) wr → Below w.heap.size w wr ∧ wr.cell? ⟨w.heap.size, 10, none⟩ = some (.slice ax.da m.data.length ax.dc)) := fun wr q => ⟨HL.trans (q.mono (Nat.le_succ _)), (cell_kept (q.block _ (Nat.lt_succ_self _)) _).trans p10⟩
  clear HS HL HF hx e d
  unfold msA
  generalize m.ents.length = ne at *
  generalize m.data.length = nd at *
  go_enter Try.func30, Try.ntmps30
  go_wp2_with (first
    | (go_at_call 46; refine (HJ.out _ _).mono ?_; rintro e w1 ⟨rfl, rfl⟩)
    | (go_at_call 47; refine HE.out.mono ?_; rintro e w2 ⟨rfl, qB⟩; have HQ : Hid (Below (w.heap.size + 1) _ w2) := qB; obtain ⟨_, r10⟩ := HZ.out w2 qB; clear qB))
  go_ret
  exact ⟨rfl, (HZ.out _ HQ.out).1⟩
set_option maxRecDepth 100000 in
set_option maxHeartbeats 800000 in
theorem May_c10 {w : World} {ax : Ax} {m : Ms} {P : Nat → Prop} (hx : MsV w P ax m) (k1 : 1 ≤ m.kind) (k2 : m.kind ≤ 7) (g1 : 0 ≤ m.grp) (g2 : m.grp < 64) (t : inI m.term 0 1099511627776 = true) (a : inI m.at_ 0 1099511627776 = true) (b : inI m.att 0 1099511627776 = true) (c : inI m.commit 0 1099511627776 = true) (e : entsOk m.ents = true) (d : m.data.length ≤ 65536) : Calls Try.prog 30 #[msA ax m] w fun e w' => e = .returned (.bool (msOk m)) ∧ Below w.heap.size w w' := by
  have HF : Hid (msOk m = true) := by
    show _ = _
    rw [msOk_eq]
    rw [inI_yes k1 k2]
    rw [inI_yes g1 (show m.grp ≤ 63 by omega)]
    rw [t, a, b, c, e]
    rw [decide_eq_true d]
    rfl
  rw [HF.out]
  have HS := one_box w ax m
  have HL := HS.2
  obtain ⟨p0, p1, p2, p3, p4, p5, p6, p7, p8, p9, p10, pf⟩ := HS.1
  have HJ : Hid (∀ n wr, Calls Try.prog 46 #[.int .i64 n] wr fun e w' => e = .returned (.bool (inI n 0 1099511627776)) ∧ w' = wr) := fun n wr => index_any n wr
  have d0 : decide ((m.data.length : Int) ≤ 65536) = true := decide_eq_true (by omega)
  have HE : Hid (Calls Try.prog 47 #[.slice ax.ea m.ents.length ax.ec] (w.alloc (Obj.cells #[.int .i64 m.kind, .int .i64 m.grp, .int .i64 m.frm, .int .i64 m.to, .int .i64 m.term, .int .i64 m.at_, .int .i64 m.att, .int .i64 m.commit, .bool m.ok, .slice ax.ea m.ents.length ax.ec, .slice ax.da m.data.length ax.dc] 51)) fun e w' => e = .returned (.bool true) ∧ Below (w.heap.size + 1) (w.alloc (Obj.cells #[.int .i64 m.kind, .int .i64 m.grp, .int .i64 m.frm, .int .i64 m.to, .int .i64 m.term, .int .i64 m.at_, .int .i64 m.att, .int .i64 m.commit, .bool m.ok, .slice ax.ea m.ents.length ax.ec, .slice ax.da m.data.length ax.dc] 51)) w') := by
    have := entries_any (hx.e.below HL)
    rw [e, size_alloc] at this
    exact this
  have HB : Hid (Below w.heap.size w (w.alloc (Obj.cells #[.int .i64 m.kind, .int .i64 m.grp, .int .i64 m.frm, .int .i64 m.to, .int .i64 m.term, .int .i64 m.at_, .int .i64 m.att, .int .i64 m.commit, .bool m.ok, .slice ax.ea m.ents.length ax.ec, .slice ax.da m.data.length ax.dc] 51))) := HL
  have HZ : Hid (∀ wr, Below (w.heap.size + 1) (w.alloc (Obj.cells #[.int .i64 m.kind, .int .i64 m.grp, .int .i64 m.frm, .int .i64 m.to, .int .i64 m.term, .int .i64 m.at_, .int .i64 m.att, .int .i64 m.commit, .bool m.ok, .slice ax.ea m.ents.length ax.ec, .slice ax.da m.data.length ax.dc] 51)) wr → Below w.heap.size w wr ∧ wr.cell? ⟨w.heap.size, 10, none⟩ = some (.slice ax.da m.data.length ax.dc)) := fun wr q => ⟨HL.trans (q.mono (Nat.le_succ _)), (cell_kept (q.block _ (Nat.lt_succ_self _)) _).trans p10⟩
  clear HS HL HF hx e d
  unfold msA
  generalize m.ents.length = ne at *
  generalize m.data.length = nd at *
  go_enter Try.func30, Try.ntmps30
  go_wp2_with (first
    | (go_at_call 46; refine (HJ.out _ _).mono ?_; rintro e w1 ⟨rfl, rfl⟩)
    | (go_at_call 47; refine HE.out.mono ?_; rintro e w2 ⟨rfl, qB⟩; have HQ : Hid (Below (w.heap.size + 1) _ w2) := qB; obtain ⟨_, r10⟩ := HZ.out w2 qB; clear qB))
  go_ret
  exact ⟨rfl, (HZ.out _ HQ.out).1⟩
theorem May_any {w : World} {ax : Ax} {m : Ms} {P : Nat → Prop} (hx : MsV w P ax m) : Calls Try.prog 30 #[msA ax m] w fun e w' => e = .returned (.bool (msOk m)) ∧ Below w.heap.size w w' := by
  by_cases k1 : 1 ≤ m.kind
  rotate_left
  · exact May_c0 hx k1
  by_cases k2 : m.kind ≤ 7
  rotate_left
  · exact May_c1 hx k1 k2
  by_cases g1 : 0 ≤ m.grp
  rotate_left
  · exact May_c2 hx k1 k2 g1
  by_cases g2 : m.grp < 64
  rotate_left
  · exact May_c3 hx k1 k2 g1 g2
  cases t : inI m.term 0 1099511627776
  · exact May_c4 hx k1 k2 g1 g2 t
  cases a : inI m.at_ 0 1099511627776
  · exact May_c5 hx k1 k2 g1 g2 t a
  cases b : inI m.att 0 1099511627776
  · exact May_c6 hx k1 k2 g1 g2 t a b
  cases c : inI m.commit 0 1099511627776
  · exact May_c7 hx k1 k2 g1 g2 t a b c
  cases e : entsOk m.ents
  · exact May_c8 hx k1 k2 g1 g2 t a b c e
  by_cases d : m.data.length ≤ 65536
  rotate_left
  · exact May_c9 hx k1 k2 g1 g2 t a b c e d
  exact May_c10 hx k1 k2 g1 g2 t a b c e d
end
section
open Go.RowKit Pack
set_option linter.unusedVariables false
set_option linter.unusedSimpArgs false

set_option maxRecDepth 100000 in
set_option maxHeartbeats 800000 in
theorem Check_c0 {w : World} {P : Nat → Prop} {f t : Int} {a : Option Addr} {c : Nat} {l : List Ms} (hl : RwV msR w P a c l) (e1 : inI f 1 7 = false) : Calls Try.prog 14 #[.agg #[.int .i64 f, .int .i64 t, .slice a l.length c]] w fun e w' => e = .returned (.int .i64 (pchk f t l)) ∧ Below w.heap.size w w' := by
  rw [pchk_head (.inl e1)]
  have HS := pack_box w f t a l.length c
  have HB : Hid (Below w.heap.size w (w.alloc (Obj.cells #[.int .i64 f, .int .i64 t, .slice a l.length c] 24))) := HS.2
  obtain ⟨p0, p1, p2, pf⟩ := HS.1
  have HJ : Hid (∀ n wr, Calls Try.prog 29 #[.int .i64 n] wr fun e w' => e = .returned (.bool (inI n 1 7)) ∧ w' = wr) := fun n wr => node_any n wr
  clear HS hl
  generalize l.length = n at *
  go_enter Try.func14, Try.ntmps14
  go_wp2_with (go_at_call 29; refine (HJ.out _ _).mono ?_; rintro e w1 ⟨rfl, rfl⟩)
  go_ret
  exact ⟨rfl, HB.out⟩

set_option maxRecDepth 100000 in
set_option maxHeartbeats 800000 in
theorem Check_c1 {w : World} {P : Nat → Prop} {f t : Int} {a : Option Addr} {c : Nat} {l : List Ms} (hl : RwV msR w P a c l) (e1 : inI f 1 7 = true) (e2 : inI t 1 7 = false) : Calls Try.prog 14 #[.agg #[.int .i64 f, .int .i64 t, .slice a l.length c]] w fun e w' => e = .returned (.int .i64 (pchk f t l)) ∧ Below w.heap.size w w' := by
  rw [pchk_head (.inr (.inl e2))]
  have HS := pack_box w f t a l.length c
  have HB : Hid (Below w.heap.size w (w.alloc (Obj.cells #[.int .i64 f, .int .i64 t, .slice a l.length c] 24))) := HS.2
  obtain ⟨p0, p1, p2, pf⟩ := HS.1
  have HJ : Hid (∀ n wr, Calls Try.prog 29 #[.int .i64 n] wr fun e w' => e = .returned (.bool (inI n 1 7)) ∧ w' = wr) := fun n wr => node_any n wr
  clear HS hl
  generalize l.length = n at *
  go_enter Try.func14, Try.ntmps14
  go_wp2_with (go_at_call 29; refine (HJ.out _ _).mono ?_; rintro e w1 ⟨rfl, rfl⟩)
  go_ret
  exact ⟨rfl, HB.out⟩

set_option maxRecDepth 100000 in
set_option maxHeartbeats 800000 in
theorem Check_c2 {w : World} {P : Nat → Prop} {f t : Int} {a : Option Addr} {c : Nat} {l : List Ms} (hl : RwV msR w P a c l) (e1 : inI f 1 7 = true) (e2 : inI t 1 7 = true) (e3 : f = t) : Calls Try.prog 14 #[.agg #[.int .i64 f, .int .i64 t, .slice a l.length c]] w fun e w' => e = .returned (.int .i64 (pchk f t l)) ∧ Below w.heap.size w w' := by
  rw [pchk_head (.inr (.inr e3))]
  have HS := pack_box w f t a l.length c
  have HB : Hid (Below w.heap.size w (w.alloc (Obj.cells #[.int .i64 f, .int .i64 t, .slice a l.length c] 24))) := HS.2
  obtain ⟨p0, p1, p2, pf⟩ := HS.1
  have HJ : Hid (∀ n wr, Calls Try.prog 29 #[.int .i64 n] wr fun e w' => e = .returned (.bool (inI n 1 7)) ∧ w' = wr) := fun n wr => node_any n wr
  have x3 : (f == t) = true := beq_iff_eq.2 e3
  clear HS hl e3
  generalize l.length = n at *
  go_enter Try.func14, Try.ntmps14
  go_wp2_with (go_at_call 29; refine (HJ.out _ _).mono ?_; rintro e w1 ⟨rfl, rfl⟩)
  go_ret
  exact ⟨rfl, HB.out⟩

set_option maxRecDepth 100000 in
set_option maxHeartbeats 800000 in
theorem Check_c3 {w : World} {P : Nat → Prop} {f t : Int} {a : Option Addr} {c : Nat} {l : List Ms} (hl : RwV msR w P a c l) (e1 : inI f 1 7 = true) (e2 : inI t 1 7 = true) (e3 : ¬ f = t) (g : 256 < l.length) : Calls Try.prog 14 #[.agg #[.int .i64 f, .int .i64 t, .slice a l.length c]] w fun e w' => e = .returned (.int .i64 (pchk f t l)) ∧ Below w.heap.size w w' := by
  rw [pchk_many (by simp [e1, e2, e3]) g]
  have HS := pack_box w f t a l.length c
  have HB : Hid (Below w.heap.size w (w.alloc (Obj.cells #[.int .i64 f, .int .i64 t, .slice a l.length c] 24))) := HS.2
  obtain ⟨p0, p1, p2, pf⟩ := HS.1
  have HJ : Hid (∀ n wr, Calls Try.prog 29 #[.int .i64 n] wr fun e w' => e = .returned (.bool (inI n 1 7)) ∧ w' = wr) := fun n wr => node_any n wr
  have x3 : (f == t) = false := beq_eq_false_iff_ne.2 e3
  have x4 : decide (256 < (l.length : Int)) = true := decide_eq_true (by omega)
  clear HS hl
  generalize l.length = n at *
  go_enter Try.func14, Try.ntmps14
  go_wp2_with (go_at_call 29; refine (HJ.out _ _).mono ?_; rintro e w1 ⟨rfl, rfl⟩)
  go_ret
  exact ⟨rfl, HB.out⟩

set_option maxRecDepth 100000 in
set_option maxHeartbeats 800000 in
theorem Check_c4 {w : World} {P : Nat → Prop} {f t : Int} {a : Option Addr} {c : Nat} {l : List Ms} (hl : RwV msR w P a c l) (e1 : inI f 1 7 = true) (e2 : inI t 1 7 = true) (e3 : ¬ f = t) (g : ¬ 256 < l.length) : Calls Try.prog 14 #[.agg #[.int .i64 f, .int .i64 t, .slice a l.length c]] w fun e w' => e = .returned (.int .i64 (pchk f t l)) ∧ Below w.heap.size w w' := by
  rw [pchk_rest (by simp [e1, e2, e3]) g]
  have HS := pack_box w f t a l.length c
  have HB : Hid (Below w.heap.size w (w.alloc (Obj.cells #[.int .i64 f, .int .i64 t, .slice a l.length c] 24))) := HS.2
  obtain ⟨p0, p1, p2, pf⟩ := HS.1
  have HJ : Hid (∀ n wr, Calls Try.prog 29 #[.int .i64 n] wr fun e w' => e = .returned (.bool (inI n 1 7)) ∧ w' = wr) := fun n wr => node_any n wr
  have x3 : (f == t) = false := beq_eq_false_iff_ne.2 e3
  have x4 : decide (256 < (l.length : Int)) = false := decide_eq_false (by omega)
  have h1 := hl.cap1
  have h2 := hl.cap2
  have HY : Hid ((∀ i, i < l.length → msFit f t (l.getD i zMs) = true) → (if l.all (msFit f t) = true then (0 : Int) else 1) = 0) := fun q => by rw [if_pos (fits_yes q)]
  have HN : Hid (∀ i, i < l.length → msFit f t (l.getD i zMs) = false → (if l.all (msFit f t) = true then (0 : Int) else 1) = 1) := fun i hi q => by rw [fits_no hi q]; rfl
  have HC : Hid (∀ wr i, Below w.heap.size w wr → i < l.length → ∃ (g o : Nat) (ax : Ax), a = some ⟨g, o, none⟩ ∧ g < wr.heap.size ∧ g < w.heap.size ∧ Hid (∀ we, Below wr.heap.size wr we → Calls Try.prog 30 #[.agg #[.int .i64 (l.getD i zMs).kind, .int .i64 (l.getD i zMs).grp, .int .i64 (l.getD i zMs).frm, .int .i64 (l.getD i zMs).to, .int .i64 (l.getD i zMs).term, .int .i64 (l.getD i zMs).at_, .int .i64 (l.getD i zMs).att, .int .i64 (l.getD i zMs).commit, .bool (l.getD i zMs).ok, .slice ax.ea (l.getD i zMs).ents.length ax.ec, .slice ax.da (l.getD i zMs).data.length ax.dc]] we fun e w' => e = .returned (.bool (msOk (l.getD i zMs))) ∧ Below we.heap.size we w') ∧ (wr.cell? ⟨g, o + i * 11, none⟩ = some (.int .i64 (l.getD i zMs).kind) ∧ wr.cell? ⟨g, o + i * 11 + 1, none⟩ = some (.int .i64 (l.getD i zMs).grp) ∧ wr.cell? ⟨g, o + i * 11 + 2, none⟩ = some (.int .i64 (l.getD i zMs).frm) ∧ wr.cell? ⟨g, o + i * 11 + 3, none⟩ = some (.int .i64 (l.getD i zMs).to) ∧ wr.cell? ⟨g, o + i * 11 + 4, none⟩ = some (.int .i64 (l.getD i zMs).term) ∧ wr.cell? ⟨g, o + i * 11 + 5, none⟩ = some (.int .i64 (l.getD i zMs).at_) ∧ wr.cell? ⟨g, o + i * 11 + 6, none⟩ = some (.int .i64 (l.getD i zMs).att) ∧ wr.cell? ⟨g, o + i * 11 + 7, none⟩ = some (.int .i64 (l.getD i zMs).commit) ∧ wr.cell? ⟨g, o + i * 11 + 8, none⟩ = some (.bool (l.getD i zMs).ok) ∧ wr.cell? ⟨g, o + i * 11 + 9, none⟩ = some (.slice ax.ea (l.getD i zMs).ents.length ax.ec) ∧ wr.cell? ⟨g, o + i * 11 + 10, none⟩ = some (.slice ax.da (l.getD i zMs).data.length ax.dc))) := fun wr i q hi => by
    obtain ⟨g, o, ax, q1, q2, q3, q4⟩ := (hl.below q).msg hi
    obtain ⟨g2, o2, _, r1, r2, _⟩ := hl.msg hi
    rw [q1] at r1
    cases r1
    exact ⟨g, o, ax, q1, q2, r2, fun we qe => May_any (q3.below qe), q4⟩
  have HP : Hid (Cell3 (w.alloc (Obj.cells #[.int .i64 f, .int .i64 t, .slice a l.length c] 24)) w.heap.size (.int .i64 f) (.int .i64 t) (.slice a l.length c)) := HS.1
  clear HS hl
  generalize (if l.all (msFit f t) = true then (0 : Int) else 1) = r at *
  generalize l.length = n at *
  go_enter Try.func14, Try.ntmps14
  go_wp2_with (go_at_call 29; refine (HJ.out _ _).mono ?_; rintro e w1 ⟨rfl, rfl⟩)
  go_loopw [31] (fun x wr => ∃ (i : Nat), i ≤ n ∧ x = .int .i64 i ∧ Hid (Below w.heap.size w wr ∧ Cell3 wr w.heap.size (.int .i64 f) (.int .i64 t) (.slice a n c) ∧ ∀ j, j < i → msFit f t (l.getD j zMs) = true)) (fun x _ => n - (intOf x).toNat)
  case atStart => exact ⟨0, Nat.zero_le _, rfl, HB.out, HP.out, fun j hj => absurd hj (Nat.not_lt_zero _)⟩
  case round =>
    clear p0 p1 p2 pf HB HP
    obtain ⟨i, hi, rfl, HR⟩ := hrel
    obtain ⟨p0, p1, p2, pf⟩ := HR.out.2.1
    have HB : Hid (Below w.heap.size w wr) := HR.out.1
    have hsz := HR.out.2.1.lt
    by_cases hlt : i < n
    · obtain ⟨g, o, ax, rfl, hg, hg2, HS, ⟨q0, q1, q2, q3, q4, q5, q6, q7, q8, q9, q10⟩⟩ := HC.out wr i HR.out.1 hlt
      have HF : Hid (msFit f t (l.getD i zMs) = false → r = 1) := fun q => HN.out i hlt q
      have HG : Hid (msFit f t (l.getD i zMs) = true → ∀ j, j < i + 1 → msFit f t (l.getD j zMs) = true) := fun q j hj => by
        by_cases e : j = i
        · subst e; exact q
        · exact HR.out.2.2 j (by omega)
      have HD : Hid (msFit f t (l.getD i zMs) = (decide ((l.getD i zMs).frm = f) && decide ((l.getD i zMs).to = t) && msOk (l.getD i zMs))) := rfl
      have hne : g ≠ w.heap.size := by omega
      have hne2 : g ≠ wr.heap.size := by omega
      have hne3 : w.heap.size ≠ wr.heap.size := by omega
      have HP : Hid (Cell3 wr w.heap.size (.int .i64 f) (.int .i64 t) (.slice (some ⟨g, o, none⟩) n c)) := HR.out.2.1
      clear HC HN HR HY
      generalize msFit f t (l.getD i zMs) = z at *
      generalize msOk (l.getD i zMs) = y at *
      generalize l.getD i zMs = x at *
      by_cases k1 : x.frm = f
      · have y1 : (x.frm == f) = true := beq_iff_eq.2 k1
        have y2 : (x.frm != f) = false := by rw [bne, y1]; rfl
        by_cases k2 : x.to = t
        · have y3 : (x.to == t) = true := beq_iff_eq.2 k2
          have y4 : (x.to != t) = false := by rw [bne, y3]; rfl
          have HZ : Hid (z = y) := by show _ = _; rw [HD.out, decide_eq_true k1, decide_eq_true k2]; simp
          clear HD k1 k2
          cases y
          · go_wp2_with (go_at_call 30; refine (HS.out _ ((Below.refl _ _).alloc (Nat.le_refl _) _)).mono ?_; rintro e w1 ⟨rfl, qB⟩; have HV : Hid (Below wr.heap.size wr w1) := ((Below.refl _ _).alloc (Nat.le_refl _) _).trans (qB.mono (le_alloc _ _)); clear qB)
            go_ret
            exact ⟨by rw [HF.out (by rw [HZ.out])]; rfl, HB.out.trans (HV.out.mono HB.out.size)⟩
          · go_wp2_with (go_at_call 30; refine (HS.out _ ((Below.refl _ _).alloc (Nat.le_refl _) _)).mono ?_; rintro e w1 ⟨rfl, qB⟩; have HV : Hid (Below wr.heap.size wr w1) := ((Below.refl _ _).alloc (Nat.le_refl _) _).trans (qB.mono (le_alloc _ _)); clear qB)
            go_roundw
            case rel => exact ⟨i + 1, by omega, by go_num, HB.out.trans (HV.out.mono HB.out.size), HP.out.kept (HV.out.block _ hsz), HG.out (by rw [HZ.out])⟩
            case measure => simp [intOf]; omega
        · have y3 : (x.to == t) = false := beq_eq_false_iff_ne.2 k2
          have y4 : (x.to != t) = true := by rw [bne, y3]; rfl
          have HT : Hid (r = 1) := HF.out (by rw [HD.out, decide_eq_true k1, decide_eq_false k2]; rfl)
          clear HD k1 k2 HF HG HS
          go_wp2
          go_ret
          exact ⟨by rw [HT.out]; rfl, HB.out.alloc HB.out.size _⟩
      · have y1 : (x.frm == f) = false := beq_eq_false_iff_ne.2 k1
        have y2 : (x.frm != f) = true := by rw [bne, y1]; rfl
        have HT : Hid (r = 1) := HF.out (by rw [HD.out, decide_eq_false k1]; rfl)
        clear HD k1 HF HG HS
        go_wp2
        go_ret
        exact ⟨by rw [HT.out]; rfl, HB.out.alloc HB.out.size _⟩
    · have HT : Hid (r = 0) := HY.out fun j hj => HR.out.2.2 j (by omega)
      clear HC HN HR HY
      go_wp2
      go_ret
      exact ⟨by rw [HT.out]; rfl, HB.out⟩

theorem Check_any {w : World} {P : Nat → Prop} {f t : Int} {a : Option Addr} {c : Nat} {l : List Ms} (hl : RwV msR w P a c l) : Calls Try.prog 14 #[.agg #[.int .i64 f, .int .i64 t, .slice a l.length c]] w fun e w' => e = .returned (.int .i64 (pchk f t l)) ∧ Below w.heap.size w w' := by
  cases e1 : inI f 1 7
  · exact Check_c0 hl e1
  · cases e2 : inI t 1 7
    · exact Check_c1 hl e1 e2
    · by_cases e3 : f = t
      · exact Check_c2 hl e1 e2 e3
      · by_cases g : 256 < l.length
        · exact Check_c3 hl e1 e2 e3 g
        · exact Check_c4 hl e1 e2 e3 g
end
end Go.Proofs.Ytcaddedkodjgcaa
