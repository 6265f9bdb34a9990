/-
  The document's Msg: its contract.
-/
import Derived.Test.YtcaddedkodjgcaaKwt
namespace Go.Proofs.Ytcaddedkodjgcaa
open Go.RowKit Pack
set_option linter.unusedVariables false
set_option linter.unusedSimpArgs false

theorem all_take {l : List En} {i : Nat} (h : i < l.length) : (l.take (i + 1)).all entOk = ((l.take i).all entOk && entOk (l.getD i zE)) := by
  rw [take_snoc h, List.all_append, List.getD_eq_getElem?_getD, List.getElem?_eq_getElem h]
  simp
theorem all_no {l : List En} {i : Nat} (h : (l.take i).all entOk = false) : l.all entOk = false := by
  cases e : l.all entOk with
  | false => rfl
  | true =>
    have : (l.take i).all entOk = true := List.all_eq_true.2 fun x hx => List.all_eq_true.1 e x (List.mem_of_mem_take hx)
    rw [this] at h; cases h
theorem one_box (w : World) (ax : Ax) (m : Ms) : Xc (w.alloc (Obj.cells #[.int .i64 m.kind, .int .i64 m.grp, .int .i64 m.frm, .int .i64 m.to, .int .i64 m.term, .int .i64 m.at_, .int .i64 m.att, .int .i64 m.commit, .bool m.ok, .slice ax.ea m.ents.length ax.ec, .slice ax.da m.data.length ax.dc] 51)) w.heap.size ax m ∧ Below w.heap.size w (w.alloc (Obj.cells #[.int .i64 m.kind, .int .i64 m.grp, .int .i64 m.frm, .int .i64 m.to, .int .i64 m.term, .int .i64 m.at_, .int .i64 m.att, .int .i64 m.commit, .bool m.ok, .slice ax.ea m.ents.length ax.ec, .slice ax.da m.data.length ax.dc] 51)) := ⟨Cl11.new w _ _ _ _ _ _ _ _ _ _ _ _, (Below.refl _ _).alloc (Nat.le_refl _) _⟩

set_option maxRecDepth 100000 in
set_option maxHeartbeats 800000 in
theorem Msg_c0 {w : World} {ax : Ax} {m : Ms} {P : Nat → Prop} (hx : MsV w P ax m)  (f : inI m.kind 1 7 = false) : Calls Try.prog 32 #[msA ax m] w fun e w' => e = .returned (.bool (msOk m)) ∧ Below w.heap.size w w' := by
  have HF : Hid (msOk m = false) := by
    show _ = _
    unfold msOk
    rw [f]
    simp
  rw [HF.out]
  have HS := one_box w ax m
  have HL := HS.2
  obtain ⟨p0, p1, p2, p3, p4, p5, p6, p7, p8, p9, p10, pf⟩ := HS.1
  have HJ : Hid (∀ n a b wr, Calls Try.prog 31 #[.int .i64 n, .int .i64 a, .int .i64 b] wr fun e w' => e = .returned (.bool (inI n a b)) ∧ w' = wr) := fun n a b wr => in_any n a b wr
  have HB : Hid (Below w.heap.size w (w.alloc (Obj.cells #[.int .i64 m.kind, .int .i64 m.grp, .int .i64 m.frm, .int .i64 m.to, .int .i64 m.term, .int .i64 m.at_, .int .i64 m.att, .int .i64 m.commit, .bool m.ok, .slice ax.ea m.ents.length ax.ec, .slice ax.da m.data.length ax.dc] 51))) := HL
  clear HS HL HF hx 
  unfold msA
  generalize m.ents.length = ne at *
  generalize m.data.length = nd at *
  go_enter Try.func32, Try.ntmps32
  go_wp2_with (go_at_call 31; refine (HJ.out _ _ _ _).mono ?_; rintro e w1 ⟨rfl, rfl⟩)
  refine wp_loop_rounds 1 ?_
  rw [rounds_succ]
  by_cases hz : (0 : Int) < ne
  · go_wp2
    go_ret
    exact ⟨rfl, HB.out⟩
  · go_wp2
    go_ret
    exact ⟨rfl, HB.out⟩

set_option maxRecDepth 100000 in
set_option maxHeartbeats 800000 in
theorem Msg_c1 {w : World} {ax : Ax} {m : Ms} {P : Nat → Prop} (hx : MsV w P ax m) (e0 : inI m.kind 1 7 = true) (f : inI m.grp 0 63 = false) : Calls Try.prog 32 #[msA ax m] w fun e w' => e = .returned (.bool (msOk m)) ∧ Below w.heap.size w w' := by
  have HF : Hid (msOk m = false) := by
    show _ = _
    unfold msOk
    rw [f]
    simp
  rw [HF.out]
  have HS := one_box w ax m
  have HL := HS.2
  obtain ⟨p0, p1, p2, p3, p4, p5, p6, p7, p8, p9, p10, pf⟩ := HS.1
  have HJ : Hid (∀ n a b wr, Calls Try.prog 31 #[.int .i64 n, .int .i64 a, .int .i64 b] wr fun e w' => e = .returned (.bool (inI n a b)) ∧ w' = wr) := fun n a b wr => in_any n a b wr
  have HB : Hid (Below w.heap.size w (w.alloc (Obj.cells #[.int .i64 m.kind, .int .i64 m.grp, .int .i64 m.frm, .int .i64 m.to, .int .i64 m.term, .int .i64 m.at_, .int .i64 m.att, .int .i64 m.commit, .bool m.ok, .slice ax.ea m.ents.length ax.ec, .slice ax.da m.data.length ax.dc] 51))) := HL
  clear HS HL HF hx 
  unfold msA
  generalize m.ents.length = ne at *
  generalize m.data.length = nd at *
  go_enter Try.func32, Try.ntmps32
  go_wp2_with (go_at_call 31; refine (HJ.out _ _ _ _).mono ?_; rintro e w1 ⟨rfl, rfl⟩)
  refine wp_loop_rounds 1 ?_
  rw [rounds_succ]
  by_cases hz : (0 : Int) < ne
  · go_wp2
    go_ret
    exact ⟨rfl, HB.out⟩
  · go_wp2
    go_ret
    exact ⟨rfl, HB.out⟩

set_option maxRecDepth 100000 in
set_option maxHeartbeats 800000 in
theorem Msg_c2 {w : World} {ax : Ax} {m : Ms} {P : Nat → Prop} (hx : MsV w P ax m) (e0 : inI m.kind 1 7 = true) (e1 : inI m.grp 0 63 = true) (f : inI m.term 0 1099511627776 = false) : Calls Try.prog 32 #[msA ax m] w fun e w' => e = .returned (.bool (msOk m)) ∧ Below w.heap.size w w' := by
  have HF : Hid (msOk m = false) := by
    show _ = _
    unfold msOk
    rw [f]
    simp
  rw [HF.out]
  have HS := one_box w ax m
  have HL := HS.2
  obtain ⟨p0, p1, p2, p3, p4, p5, p6, p7, p8, p9, p10, pf⟩ := HS.1
  have HJ : Hid (∀ n a b wr, Calls Try.prog 31 #[.int .i64 n, .int .i64 a, .int .i64 b] wr fun e w' => e = .returned (.bool (inI n a b)) ∧ w' = wr) := fun n a b wr => in_any n a b wr
  have HB : Hid (Below w.heap.size w (w.alloc (Obj.cells #[.int .i64 m.kind, .int .i64 m.grp, .int .i64 m.frm, .int .i64 m.to, .int .i64 m.term, .int .i64 m.at_, .int .i64 m.att, .int .i64 m.commit, .bool m.ok, .slice ax.ea m.ents.length ax.ec, .slice ax.da m.data.length ax.dc] 51))) := HL
  clear HS HL HF hx 
  unfold msA
  generalize m.ents.length = ne at *
  generalize m.data.length = nd at *
  go_enter Try.func32, Try.ntmps32
  go_wp2_with (go_at_call 31; refine (HJ.out _ _ _ _).mono ?_; rintro e w1 ⟨rfl, rfl⟩)
  refine wp_loop_rounds 1 ?_
  rw [rounds_succ]
  by_cases hz : (0 : Int) < ne
  · go_wp2
    go_ret
    exact ⟨rfl, HB.out⟩
  · go_wp2
    go_ret
    exact ⟨rfl, HB.out⟩

set_option maxRecDepth 100000 in
set_option maxHeartbeats 800000 in
theorem Msg_c3 {w : World} {ax : Ax} {m : Ms} {P : Nat → Prop} (hx : MsV w P ax m) (e0 : inI m.kind 1 7 = true) (e1 : inI m.grp 0 63 = true) (e2 : inI m.term 0 1099511627776 = true) (f : inI m.at_ 0 1099511627776 = false) : Calls Try.prog 32 #[msA ax m] w fun e w' => e = .returned (.bool (msOk m)) ∧ Below w.heap.size w w' := by
  have HF : Hid (msOk m = false) := by
    show _ = _
    unfold msOk
    rw [f]
    simp
  rw [HF.out]
  have HS := one_box w ax m
  have HL := HS.2
  obtain ⟨p0, p1, p2, p3, p4, p5, p6, p7, p8, p9, p10, pf⟩ := HS.1
  have HJ : Hid (∀ n a b wr, Calls Try.prog 31 #[.int .i64 n, .int .i64 a, .int .i64 b] wr fun e w' => e = .returned (.bool (inI n a b)) ∧ w' = wr) := fun n a b wr => in_any n a b wr
  have HB : Hid (Below w.heap.size w (w.alloc (Obj.cells #[.int .i64 m.kind, .int .i64 m.grp, .int .i64 m.frm, .int .i64 m.to, .int .i64 m.term, .int .i64 m.at_, .int .i64 m.att, .int .i64 m.commit, .bool m.ok, .slice ax.ea m.ents.length ax.ec, .slice ax.da m.data.length ax.dc] 51))) := HL
  clear HS HL HF hx 
  unfold msA
  generalize m.ents.length = ne at *
  generalize m.data.length = nd at *
  go_enter Try.func32, Try.ntmps32
  go_wp2_with (go_at_call 31; refine (HJ.out _ _ _ _).mono ?_; rintro e w1 ⟨rfl, rfl⟩)
  refine wp_loop_rounds 1 ?_
  rw [rounds_succ]
  by_cases hz : (0 : Int) < ne
  · go_wp2
    go_ret
    exact ⟨rfl, HB.out⟩
  · go_wp2
    go_ret
    exact ⟨rfl, HB.out⟩

set_option maxRecDepth 100000 in
set_option maxHeartbeats 800000 in
theorem Msg_c4 {w : World} {ax : Ax} {m : Ms} {P : Nat → Prop} (hx : MsV w P ax m) (e0 : inI m.kind 1 7 = true) (e1 : inI m.grp 0 63 = true) (e2 : inI m.term 0 1099511627776 = true) (e3 : inI m.at_ 0 1099511627776 = true) (f : inI m.att 0 1099511627776 = false) : Calls Try.prog 32 #[msA ax m] w fun e w' => e = .returned (.bool (msOk m)) ∧ Below w.heap.size w w' := by
  have HF : Hid (msOk m = false) := by
    show _ = _
    unfold msOk
    rw [f]
    simp
  rw [HF.out]
  have HS := one_box w ax m
  have HL := HS.2
  obtain ⟨p0, p1, p2, p3, p4, p5, p6, p7, p8, p9, p10, pf⟩ := HS.1
  have HJ : Hid (∀ n a b wr, Calls Try.prog 31 #[.int .i64 n, .int .i64 a, .int .i64 b] wr fun e w' => e = .returned (.bool (inI n a b)) ∧ w' = wr) := fun n a b wr => in_any n a b wr
  have HB : Hid (Below w.heap.size w (w.alloc (Obj.cells #[.int .i64 m.kind, .int .i64 m.grp, .int .i64 m.frm, .int .i64 m.to, .int .i64 m.term, .int .i64 m.at_, .int .i64 m.att, .int .i64 m.commit, .bool m.ok, .slice ax.ea m.ents.length ax.ec, .slice ax.da m.data.length ax.dc] 51))) := HL
  clear HS HL HF hx 
  unfold msA
  generalize m.ents.length = ne at *
  generalize m.data.length = nd at *
  go_enter Try.func32, Try.ntmps32
  go_wp2_with (go_at_call 31; refine (HJ.out _ _ _ _).mono ?_; rintro e w1 ⟨rfl, rfl⟩)
  refine wp_loop_rounds 1 ?_
  rw [rounds_succ]
  by_cases hz : (0 : Int) < ne
  · go_wp2
    go_ret
    exact ⟨rfl, HB.out⟩
  · go_wp2
    go_ret
    exact ⟨rfl, HB.out⟩

set_option maxRecDepth 100000 in
set_option maxHeartbeats 800000 in
theorem Msg_c5 {w : World} {ax : Ax} {m : Ms} {P : Nat → Prop} (hx : MsV w P ax m) (e0 : inI m.kind 1 7 = true) (e1 : inI m.grp 0 63 = true) (e2 : inI m.term 0 1099511627776 = true) (e3 : inI m.at_ 0 1099511627776 = true) (e4 : inI m.att 0 1099511627776 = true) (f : inI m.commit 0 1099511627776 = false) : Calls Try.prog 32 #[msA ax m] w fun e w' => e = .returned (.bool (msOk m)) ∧ Below w.heap.size w w' := by
  have HF : Hid (msOk m = false) := by
    show _ = _
    unfold msOk
    rw [f]
    simp
  rw [HF.out]
  have HS := one_box w ax m
  have HL := HS.2
  obtain ⟨p0, p1, p2, p3, p4, p5, p6, p7, p8, p9, p10, pf⟩ := HS.1
  have HJ : Hid (∀ n a b wr, Calls Try.prog 31 #[.int .i64 n, .int .i64 a, .int .i64 b] wr fun e w' => e = .returned (.bool (inI n a b)) ∧ w' = wr) := fun n a b wr => in_any n a b wr
  have HB : Hid (Below w.heap.size w (w.alloc (Obj.cells #[.int .i64 m.kind, .int .i64 m.grp, .int .i64 m.frm, .int .i64 m.to, .int .i64 m.term, .int .i64 m.at_, .int .i64 m.att, .int .i64 m.commit, .bool m.ok, .slice ax.ea m.ents.length ax.ec, .slice ax.da m.data.length ax.dc] 51))) := HL
  clear HS HL HF hx 
  unfold msA
  generalize m.ents.length = ne at *
  generalize m.data.length = nd at *
  go_enter Try.func32, Try.ntmps32
  go_wp2_with (go_at_call 31; refine (HJ.out _ _ _ _).mono ?_; rintro e w1 ⟨rfl, rfl⟩)
  refine wp_loop_rounds 1 ?_
  rw [rounds_succ]
  by_cases hz : (0 : Int) < ne
  · go_wp2
    go_ret
    exact ⟨rfl, HB.out⟩
  · go_wp2
    go_ret
    exact ⟨rfl, HB.out⟩

set_option maxRecDepth 100000 in
set_option maxHeartbeats 800000 in
theorem Msg_c6 {w : World} {ax : Ax} {m : Ms} {P : Nat → Prop} (hx : MsV w P ax m) (e0 : inI m.kind 1 7 = true) (e1 : inI m.grp 0 63 = true) (e2 : inI m.term 0 1099511627776 = true) (e3 : inI m.at_ 0 1099511627776 = true) (e4 : inI m.att 0 1099511627776 = true) (e5 : inI m.commit 0 1099511627776 = true) (f : ¬ m.ents.length ≤ 8) : Calls Try.prog 32 #[msA ax m] w fun e w' => e = .returned (.bool (msOk m)) ∧ Below w.heap.size w w' := by
  have HF : Hid (msOk m = false) := by
    show _ = _
    unfold msOk
    rw [decide_eq_false f]
    simp
  rw [HF.out]
  have HS := one_box w ax m
  have HL := HS.2
  obtain ⟨p0, p1, p2, p3, p4, p5, p6, p7, p8, p9, p10, pf⟩ := HS.1
  have HJ : Hid (∀ n a b wr, Calls Try.prog 31 #[.int .i64 n, .int .i64 a, .int .i64 b] wr fun e w' => e = .returned (.bool (inI n a b)) ∧ w' = wr) := fun n a b wr => in_any n a b wr
  have d1 : decide ((m.ents.length : Int) ≤ 8) = false := decide_eq_false (by omega)
  have HB : Hid (Below w.heap.size w (w.alloc (Obj.cells #[.int .i64 m.kind, .int .i64 m.grp, .int .i64 m.frm, .int .i64 m.to, .int .i64 m.term, .int .i64 m.at_, .int .i64 m.att, .int .i64 m.commit, .bool m.ok, .slice ax.ea m.ents.length ax.ec, .slice ax.da m.data.length ax.dc] 51))) := HL
  clear HS HL HF hx f
  unfold msA
  generalize m.ents.length = ne at *
  generalize m.data.length = nd at *
  go_enter Try.func32, Try.ntmps32
  go_wp2_with (go_at_call 31; refine (HJ.out _ _ _ _).mono ?_; rintro e w1 ⟨rfl, rfl⟩)
  refine wp_loop_rounds 1 ?_
  rw [rounds_succ]
  by_cases hz : (0 : Int) < ne
  · go_wp2
    go_ret
    exact ⟨rfl, HB.out⟩
  · go_wp2
    go_ret
    exact ⟨rfl, HB.out⟩

set_option maxRecDepth 100000 in
set_option maxHeartbeats 800000 in
theorem Msg_c7 {w : World} {ax : Ax} {m : Ms} {P : Nat → Prop} (hx : MsV w P ax m) (e0 : inI m.kind 1 7 = true) (e1 : inI m.grp 0 63 = true) (e2 : inI m.term 0 1099511627776 = true) (e3 : inI m.at_ 0 1099511627776 = true) (e4 : inI m.att 0 1099511627776 = true) (e5 : inI m.commit 0 1099511627776 = true) (g : m.ents.length ≤ 8) (f : ¬ m.data.length ≤ 65536) : Calls Try.prog 32 #[msA ax m] w fun e w' => e = .returned (.bool (msOk m)) ∧ Below w.heap.size w w' := by
  have HF : Hid (msOk m = false) := by
    show _ = _
    unfold msOk
    rw [decide_eq_false f]
    simp
  rw [HF.out]
  have HS := one_box w ax m
  have HL := HS.2
  obtain ⟨p0, p1, p2, p3, p4, p5, p6, p7, p8, p9, p10, pf⟩ := HS.1
  have HJ : Hid (∀ n a b wr, Calls Try.prog 31 #[.int .i64 n, .int .i64 a, .int .i64 b] wr fun e w' => e = .returned (.bool (inI n a b)) ∧ w' = wr) := fun n a b wr => in_any n a b wr
  have d1 : decide ((m.ents.length : Int) ≤ 8) = true := decide_eq_true (by omega)
  have d2 : decide ((m.data.length : Int) ≤ 65536) = false := decide_eq_false (by omega)
  have HB : Hid (Below w.heap.size w (w.alloc (Obj.cells #[.int .i64 m.kind, .int .i64 m.grp, .int .i64 m.frm, .int .i64 m.to, .int .i64 m.term, .int .i64 m.at_, .int .i64 m.att, .int .i64 m.commit, .bool m.ok, .slice ax.ea m.ents.length ax.ec, .slice ax.da m.data.length ax.dc] 51))) := HL
  clear HS HL HF hx f g
  unfold msA
  generalize m.ents.length = ne at *
  generalize m.data.length = nd at *
  go_enter Try.func32, Try.ntmps32
  go_wp2_with (go_at_call 31; refine (HJ.out _ _ _ _).mono ?_; rintro e w1 ⟨rfl, rfl⟩)
  refine wp_loop_rounds 1 ?_
  rw [rounds_succ]
  by_cases hz : (0 : Int) < ne
  · go_wp2
    go_ret
    exact ⟨rfl, HB.out⟩
  · go_wp2
    go_ret
    exact ⟨rfl, HB.out⟩

set_option maxRecDepth 100000 in
set_option maxHeartbeats 800000 in
theorem Msg_c8 {w : World} {ax : Ax} {m : Ms} {P : Nat → Prop} (hx : MsV w P ax m) (e0 : inI m.kind 1 7 = true) (e1 : inI m.grp 0 63 = true) (e2 : inI m.term 0 1099511627776 = true) (e3 : inI m.at_ 0 1099511627776 = true) (e4 : inI m.att 0 1099511627776 = true) (e5 : inI m.commit 0 1099511627776 = true) (g1 : m.ents.length ≤ 8) (g2 : m.data.length ≤ 65536) : Calls Try.prog 32 #[msA ax m] w fun e w' => e = .returned (.bool (msOk m)) ∧ Below w.heap.size w w' := by
  have HF : Hid (msOk m = m.ents.all entOk) := by
    show _ = _
    unfold msOk
    rw [e0, e1, e2, e3, e4, e5, decide_eq_true g1, decide_eq_true g2]
    simp
  rw [HF.out]
  have HS := one_box w ax m
  have HL := HS.2
  obtain ⟨p0, p1, p2, p3, p4, p5, p6, p7, p8, p9, p10, pf⟩ := HS.1
  have HJ : Hid (∀ n a b wr, Calls Try.prog 31 #[.int .i64 n, .int .i64 a, .int .i64 b] wr fun e w' => e = .returned (.bool (inI n a b)) ∧ w' = wr) := fun n a b wr => in_any n a b wr
  have d1 : decide ((m.ents.length : Int) ≤ 8) = true := decide_eq_true (by omega)
  have d2 : decide ((m.data.length : Int) ≤ 65536) = true := decide_eq_true (by omega)
  have HB : Hid (Below w.heap.size w (w.alloc (Obj.cells #[.int .i64 m.kind, .int .i64 m.grp, .int .i64 m.frm, .int .i64 m.to, .int .i64 m.term, .int .i64 m.at_, .int .i64 m.att, .int .i64 m.commit, .bool m.ok, .slice ax.ea m.ents.length ax.ec, .slice ax.da m.data.length ax.dc] 51))) := HL
  have c1 := hx.e.cap1
  have c2 := hx.e.cap2
  have HC : Hid (∀ wr, wr = w.alloc (Obj.cells #[.int .i64 m.kind, .int .i64 m.grp, .int .i64 m.frm, .int .i64 m.to, .int .i64 m.term, .int .i64 m.at_, .int .i64 m.att, .int .i64 m.commit, .bool m.ok, .slice ax.ea m.ents.length ax.ec, .slice ax.da m.data.length ax.dc] 51) → wr.cell? ⟨w.heap.size, 9, none⟩ = some (.slice ax.ea m.ents.length ax.ec) ∧ wr.heap.size = w.heap.size + 1 ∧ Below w.heap.size w wr ∧ ∀ i, i < m.ents.length → ∃ (b o : Nat) (ka : Option Addr) (kc : Nat), ax.ea = some ⟨b, o, none⟩ ∧ wr.cell? ⟨b, o + i * 2, none⟩ = some (.int .i64 (m.ents.getD i zE).1) ∧ wr.cell? ⟨b, o + i * 2 + 1, none⟩ = some (.slice ka (m.ents.getD i zE).2.length kc) ∧ b < w.heap.size) := fun wr q => by
    subst q
    refine ⟨p9, size_alloc _ _, HL, fun i hi => ?_⟩
    obtain ⟨b, o, ka, kc, q1, q2, q3, q4, q5, q6, _⟩ := (hx.e.below HL).at_ hi
    obtain ⟨b2, o2, _, _, r1, _, _, _, _, r6, _⟩ := hx.e.at_ hi
    rw [q1] at r1
    cases r1
    exact ⟨b, o, ka, kc, q1, q2, q3, r6⟩
  have HA : Hid (∀ i, i < m.ents.length → (m.ents.take (i + 1)).all entOk = ((m.ents.take i).all entOk && entOk (m.ents.getD i zE))) := fun i hi => all_take hi
  have HN : Hid (∀ i, (m.ents.take i).all entOk = false → m.ents.all entOk = false) := fun i q => all_no q
  have HY : Hid ((m.ents.take m.ents.length).all entOk = m.ents.all entOk) := by show _ = _; rw [List.take_length]
  clear HS HL HF hx g1 g2
  unfold msA
  generalize ax.ea = ea at *
  generalize ax.ec = ec at *
  generalize m.ents.all entOk = r at *
  generalize hn : m.ents.length = n at *
  generalize m.data.length = nd at *
  go_enter Try.func32, Try.ntmps32
  go_wp2_with (go_at_call 31; refine (HJ.out _ _ _ _).mono ?_; rintro e w1 ⟨rfl, rfl⟩)
  go_loopw [3, 4] (fun x y wr => ∃ (i : Nat), i ≤ n ∧ x = .bool ((m.ents.take i).all entOk) ∧ y = .int .i64 i ∧ Hid (wr = w.alloc (Obj.cells #[.int .i64 m.kind, .int .i64 m.grp, .int .i64 m.frm, .int .i64 m.to, .int .i64 m.term, .int .i64 m.at_, .int .i64 m.att, .int .i64 m.commit, .bool m.ok, .slice ea n ec, .slice ax.da nd ax.dc] 51))) (fun x y _ => n - (intOf y).toNat)
  case atStart => exact ⟨0, Nat.zero_le _, rfl, rfl, rfl⟩
  case round =>
    clear p0 p1 p2 p3 p4 p5 p6 p7 p8 p9 p10 pf HB e0 e1 e2 e3 e4 e5
    obtain ⟨i, hi, rfl, rfl, HW⟩ := hrel
    obtain ⟨p9, hsz, hB, hC⟩ := HC.out wr HW.out
    have HB : Hid (Below w.heap.size w wr) := hB
    clear hB HC
    by_cases hlt : i < n
    · have HA2 := HA.out i hlt
      have HN2 := HN.out i
      obtain ⟨b, o, ka, kc, rfl, x1, x2, hb⟩ := hC i hlt
      clear hC
      have hne : b ≠ w.heap.size := by omega
      have hb2 : b < wr.heap.size := by omega
      have HF : Hid ((m.ents.take i).all entOk = false → r = false) := HN2
      have HG : Hid ((m.ents.take (i + 1)).all entOk = ((m.ents.take i).all entOk && entOk (m.ents.getD i zE))) := HA2
      clear HA HN HY HA2 HN2
      generalize (m.ents.take i).all entOk = bv at *
      have HK : Hid (entOk (m.ents.getD i zE) = (inI (m.ents.getD i zE).1 1 1099511627776 && decide ((m.ents.getD i zE).2.length ≤ 65536))) := rfl
      generalize entOk (m.ents.getD i zE) = bx at *
      generalize (m.ents.getD i zE).1 = t at *
      generalize (m.ents.getD i zE).2.length = D at *
      cases bv
      · go_wp2
        go_ret
        exact ⟨by rw [HF.out (by trivial)]; rfl, HB.out⟩
      · cases hin : inI t 1 1099511627776
        · go_wp2_with (go_at_call 31; refine (HJ.out _ _ _ _).mono ?_; rintro e w1 ⟨rfl, rfl⟩)
          go_roundw
          case rel => exact ⟨i + 1, by omega, by rw [HG.out, HK.out, hin]; rfl, by go_num, HW.out⟩
          case measure => simp [intOf]; omega
        · have hd : decide ((D : Int) ≤ 65536) = decide (D ≤ 65536) := by by_cases q : D ≤ 65536 <;> simp [q] <;> omega
          go_wp2_with (go_at_call 31; refine (HJ.out _ _ _ _).mono ?_; rintro e w1 ⟨rfl, rfl⟩)
          go_roundw
          case rel => exact ⟨i + 1, by omega, by rw [HG.out, HK.out, hin]; rfl, by go_num, HW.out⟩
          case measure => simp [intOf]; omega
    · obtain rfl : i = n := by omega
      have HT : Hid ((m.ents.take i).all entOk = r) := HY.out
      clear HA HN HY hC
      generalize (m.ents.take i).all entOk = bv at *
      go_wp2
      go_ret
      exact ⟨by rw [← HT.out]; rfl, HB.out⟩

theorem Msg_any {w : World} {ax : Ax} {m : Ms} {P : Nat → Prop} (hx : MsV w P ax m) : Calls Try.prog 32 #[msA ax m] w fun e w' => e = .returned (.bool (msOk m)) ∧ Below w.heap.size w w' := by
  cases e0 : inI m.kind 1 7
  · exact Msg_c0 hx  e0
  · cases e1 : inI m.grp 0 63
    · exact Msg_c1 hx e0 e1
    · cases e2 : inI m.term 0 1099511627776
      · exact Msg_c2 hx e0 e1 e2
      · cases e3 : inI m.at_ 0 1099511627776
        · exact Msg_c3 hx e0 e1 e2 e3
        · cases e4 : inI m.att 0 1099511627776
          · exact Msg_c4 hx e0 e1 e2 e3 e4
          · cases e5 : inI m.commit 0 1099511627776
            · exact Msg_c5 hx e0 e1 e2 e3 e4 e5
            · by_cases g1 : m.ents.length ≤ 8
              · by_cases g2 : m.data.length ≤ 65536
                · exact Msg_c8 hx e0 e1 e2 e3 e4 e5 g1 g2
                · exact Msg_c7 hx e0 e1 e2 e3 e4 e5 g1 g2
              · exact Msg_c6 hx e0 e1 e2 e3 e4 e5 g1

end Go.Proofs.Ytcaddedkodjgcaa
