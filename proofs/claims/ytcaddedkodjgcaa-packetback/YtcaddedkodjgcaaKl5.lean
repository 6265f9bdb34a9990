/-
  PacketBack: its walk.
-/
import Derived.Test.YtcaddedkodjgcaaKpo
namespace Go.Proofs.Ytcaddedkodjgcaa
open Go.RowKit Pack
set_option linter.unusedVariables false
set_option linter.unusedSimpArgs false

theorem reads_null {w : World} {a : Option Addr} {n c : Nat} (h : ReadsV w (.slice a n c) []) : n = 0 := by
  obtain ⟨a', c', hv, _⟩ := h
  cases hv
  rfl
set_option maxRecDepth 100000 in
set_option maxHeartbeats 1600000 in
theorem back_yes {w : World} {P : Nat → Prop} {f t : Int} {a : Option Addr} {c : Nat} {l : List Ms} (H : PgOk) (HW : ∀ wr, Calls Try.prog 10 #[] wr fun e w' => e = .returned (.bool true) ∧ Below wr.heap.size wr w') (hl : RwV msR w P a c l) (hm : ∀ m ∈ l, MsR m) (hf : InR f) (ht : InR t) (hk : pchk f t l = 0) : Calls Try.prog 5 #[.agg #[.int .i64 f, .int .i64 t, .slice a l.length c]] w fun e w' => e = .returned (.bool true) ∧ Below w.heap.size w w' := by
  have HS := pack_box w f t a l.length c
  have HB0 : Hid (Below w.heap.size w (w.alloc (Obj.cells #[.int .i64 f, .int .i64 t, .slice a l.length c] 24))) := HS.2
  have hsz : (w.alloc (Obj.cells #[.int .i64 f, .int .i64 t, .slice a l.length c] 24)).heap.size = w.heap.size + 1 := size_alloc _ _
  obtain ⟨p0, p1, p2, pf⟩ := id HS.1
  have HX : Hid (∀ wr, Below (w.heap.size + 1) (w.alloc (Obj.cells #[.int .i64 f, .int .i64 t, .slice a l.length c] 24)) wr → Below w.heap.size w wr ∧ (wr.cell? ⟨w.heap.size, 0, none⟩ = some (.int .i64 f) ∧ wr.cell? ⟨w.heap.size, 1, none⟩ = some (.int .i64 t) ∧ wr.cell? ⟨w.heap.size, 2, none⟩ = some (.slice a l.length c)) ∧ w.heap.size + 1 ≤ wr.heap.size) := fun wr q => ⟨HS.2.trans (q.mono (Nat.le_succ _)), ⟨(cell_kept (q.block _ (Nat.lt_succ_self _)) _).trans p0, (cell_kept (q.block _ (Nat.lt_succ_self _)) _).trans p1, (cell_kept (q.block _ (Nat.lt_succ_self _)) _).trans p2⟩, by have := q.size; omega⟩
  have HLt : Hid (Calls Try.prog 9 #[.slice a l.length c] (w.alloc (Obj.cells #[.int .i64 f, .int .i64 t, .slice a l.length c] 24)) fun e w' => ∃ b : Bool, e = .returned (.bool b) ∧ (b = true → wtMs l ≤ 300) ∧ w' = (w.alloc (Obj.cells #[.int .i64 f, .int .i64 t, .slice a l.length c] 24))) := light_any (hl.below HS.2)
  have HPut : Hid (wtMs l ≤ 300 → Calls Try.prog 11 #[.agg #[.int .i64 f, .int .i64 t, .slice a l.length c]] (w.alloc (Obj.cells #[.int .i64 f, .int .i64 t, .slice a l.length c] 24)) fun e w' => ∃ v', e = .returned (.tuple #[v', .int .i64 (pchk f t l)]) ∧ ReadsV w' v' (pput f t l) ∧ Below (w.heap.size + 1) (w.alloc (Obj.cells #[.int .i64 f, .int .i64 t, .slice a l.length c] 24)) w') := fun hw => (H.put (hl.below HS.2) (by omega) hm hf ht).mono fun e w' ⟨v, q1, q2, q3⟩ => ⟨v, q1, q2, q3.mono (Nat.le_of_eq hsz.symm)⟩
  have HWk : Hid (∀ wr, Below w.heap.size w wr → Calls Try.prog 10 #[] wr fun e w' => e = .returned (.bool true) ∧ Below w.heap.size w w') := fun wr q => (HW wr).mono fun e w' ⟨q1, q2⟩ => ⟨q1, q.trans (q2.mono q.size)⟩
  have HWk2 : Hid (∀ wr, Below (w.heap.size + 1) (w.alloc (Obj.cells #[.int .i64 f, .int .i64 t, .slice a l.length c] 24)) wr → Calls Try.prog 10 #[] wr fun e w' => e = .returned (.bool true) ∧ Below (w.heap.size + 1) (w.alloc (Obj.cells #[.int .i64 f, .int .i64 t, .slice a l.length c] 24)) w') := fun wr q => (HW wr).mono fun e w' ⟨q1, q2⟩ => ⟨q1, q.trans (q2.mono (HX.out wr q).2.2)⟩
  have h1 := hl.cap1
  have h2 := hl.cap2
  have HRd : Hid (wtMs l ≤ 300 → ∀ wr v, ReadsV wr v (pput f t l) → Below (w.heap.size + 1) (w.alloc (Obj.cells #[.int .i64 f, .int .i64 t, .slice a l.length c] 24)) wr → Calls Try.prog 16 #[v] wr fun e w' => ∃ a' c', e = .returned (.tuple #[.agg #[.int .i64 f, .int .i64 t, .slice a' l.length c'], .int .i64 0]) ∧ RwV msR w' (fun _ => True) a' c' l ∧ Below (w.heap.size + 1) (w.alloc (Obj.cells #[.int .i64 f, .int .i64 t, .slice a l.length c] 24)) w') := fun hw wr v q1 q => by
    unfold pput at q1
    rw [if_pos hk] at q1
    have := H.rd q1 (pkt_len hk hw)
    replace this := this.mono fun e w' q => ReadP.plain q
    rw [read_put hk] at this
    exact this.mono fun e w' ⟨a', c', h1, h2, h3⟩ => ⟨a', c', h1, h2, q.trans (h3.mono (HX.out wr q).2.2)⟩
  have HSm : Hid (∀ wr a' c', RwV msR wr (fun _ => True) a' c' l → Below (w.heap.size + 1) (w.alloc (Obj.cells #[.int .i64 f, .int .i64 t, .slice a l.length c] 24)) wr → Calls Try.prog 18 #[.agg #[.int .i64 f, .int .i64 t, .slice a l.length c], .agg #[.int .i64 f, .int .i64 t, .slice a' l.length c']] wr fun e w' => e = .returned (.bool true) ∧ Below (w.heap.size + 1) (w.alloc (Obj.cells #[.int .i64 f, .int .i64 t, .slice a l.length c] 24)) w') := fun wr a' c' h q => by
    have := RPSame_any (p := (f, t, l)) (q := (f, t, l)) (hl.below (HX.out wr q).1) h
    rw [eqPk_iff.2 rfl] at this
    exact this.mono fun e w' ⟨q1, q2⟩ => ⟨q1, q.trans (q2.mono (HX.out wr q).2.2)⟩
  rw [hk] at HPut
  generalize pput f t l = pb at *
  clear HS hl hm hf ht H HW hk
  generalize l.length = n at *
  go_enter Try.func5, Try.ntmps5
  go_wp2_with (first
    | (go_at_call 10; refine (HWk.out _ (HX.out _ HB5.out).1).mono ?_; rintro e wz ⟨rfl, qz⟩; have HZ : Hid (Below w.heap.size w wz) := qz; clear qz)
    | (go_at_call 18; refine (HSm.out _ _ _ (HR4.out.below ((Below.refl _ _).alloc (Nat.le_refl _) _)) (HB4.out.alloc hz4 _)).mono ?_; rintro e w5 ⟨rfl, qB⟩; have HB5 : Hid (Below (w.heap.size + 1) _ w5) := qB; clear qB)
    | (go_at_call 16; refine (HRd.out (HLb.out (by trivial)) _ _ HV2.out HB2.out).mono ?_; rintro e w4 ⟨a4, c4, rfl, hr, qB⟩; have HR4 : Hid (RwV msR w4 (fun _ => True) a4 c4 l) := hr; have HB4 : Hid (Below (w.heap.size + 1) _ w4) := qB; obtain ⟨_, ⟨s0, s1, s2⟩, hz4⟩ := HX.out w4 HB4.out; have hne : w.heap.size ≠ w4.heap.size := (by omega); have hlt4 : w.heap.size < w4.heap.size := (by omega); clear qB hr)
    | (go_at_call 11; refine (HPut.out (HLb.out (by trivial))).mono ?_; rintro e w2 ⟨v2, rfl, hr, qB⟩; have HV2 : Hid (ReadsV w2 v2 pb) := hr; have HB2 : Hid (Below (w.heap.size + 1) _ w2) := qB; obtain ⟨_, ⟨r0, r1, r2⟩, hz2⟩ := HX.out w2 HB2.out; clear qB hr)
    | (go_at_call 10; refine (HWk.out _ HB0.out).mono ?_; rintro e wz ⟨rfl, qz⟩; have HZ : Hid (Below w.heap.size w wz) := qz; clear qz)
    | (go_at_call 9; refine HLt.out.mono ?_; rintro e w1 ⟨b, rfl, hb, rfl⟩; have HLb : Hid (b = true → wtMs l ≤ 300) := hb; clear hb; cases b))
  all_goals first | (go_ret; exact ⟨rfl, HZ.out⟩) | skip
set_option maxRecDepth 100000 in
set_option maxHeartbeats 1600000 in
theorem back_no {w : World} {P : Nat → Prop} {f t : Int} {a : Option Addr} {c : Nat} {l : List Ms} (H : PgOk) (HW : ∀ wr, Calls Try.prog 10 #[] wr fun e w' => e = .returned (.bool true) ∧ Below wr.heap.size wr w') (hl : RwV msR w P a c l) (hm : ∀ m ∈ l, MsR m) (hf : InR f) (ht : InR t) (hk : ¬ pchk f t l = 0) : Calls Try.prog 5 #[.agg #[.int .i64 f, .int .i64 t, .slice a l.length c]] w fun e w' => e = .returned (.bool true) ∧ Below w.heap.size w w' := by
  have HS := pack_box w f t a l.length c
  have HB0 : Hid (Below w.heap.size w (w.alloc (Obj.cells #[.int .i64 f, .int .i64 t, .slice a l.length c] 24))) := HS.2
  have hsz : (w.alloc (Obj.cells #[.int .i64 f, .int .i64 t, .slice a l.length c] 24)).heap.size = w.heap.size + 1 := size_alloc _ _
  obtain ⟨p0, p1, p2, pf⟩ := id HS.1
  have HX : Hid (∀ wr, Below (w.heap.size + 1) (w.alloc (Obj.cells #[.int .i64 f, .int .i64 t, .slice a l.length c] 24)) wr → Below w.heap.size w wr ∧ (wr.cell? ⟨w.heap.size, 0, none⟩ = some (.int .i64 f) ∧ wr.cell? ⟨w.heap.size, 1, none⟩ = some (.int .i64 t) ∧ wr.cell? ⟨w.heap.size, 2, none⟩ = some (.slice a l.length c)) ∧ w.heap.size + 1 ≤ wr.heap.size) := fun wr q => ⟨HS.2.trans (q.mono (Nat.le_succ _)), ⟨(cell_kept (q.block _ (Nat.lt_succ_self _)) _).trans p0, (cell_kept (q.block _ (Nat.lt_succ_self _)) _).trans p1, (cell_kept (q.block _ (Nat.lt_succ_self _)) _).trans p2⟩, by have := q.size; omega⟩
  have HLt : Hid (Calls Try.prog 9 #[.slice a l.length c] (w.alloc (Obj.cells #[.int .i64 f, .int .i64 t, .slice a l.length c] 24)) fun e w' => ∃ b : Bool, e = .returned (.bool b) ∧ (b = true → wtMs l ≤ 300) ∧ w' = (w.alloc (Obj.cells #[.int .i64 f, .int .i64 t, .slice a l.length c] 24))) := light_any (hl.below HS.2)
  have HPut : Hid (wtMs l ≤ 300 → Calls Try.prog 11 #[.agg #[.int .i64 f, .int .i64 t, .slice a l.length c]] (w.alloc (Obj.cells #[.int .i64 f, .int .i64 t, .slice a l.length c] 24)) fun e w' => ∃ v', e = .returned (.tuple #[v', .int .i64 (pchk f t l)]) ∧ ReadsV w' v' (pput f t l) ∧ Below (w.heap.size + 1) (w.alloc (Obj.cells #[.int .i64 f, .int .i64 t, .slice a l.length c] 24)) w') := fun hw => (H.put (hl.below HS.2) (by omega) hm hf ht).mono fun e w' ⟨v, q1, q2, q3⟩ => ⟨v, q1, q2, q3.mono (Nat.le_of_eq hsz.symm)⟩
  have HWk : Hid (∀ wr, Below w.heap.size w wr → Calls Try.prog 10 #[] wr fun e w' => e = .returned (.bool true) ∧ Below w.heap.size w w') := fun wr q => (HW wr).mono fun e w' ⟨q1, q2⟩ => ⟨q1, q.trans (q2.mono q.size)⟩
  have HWk2 : Hid (∀ wr, Below (w.heap.size + 1) (w.alloc (Obj.cells #[.int .i64 f, .int .i64 t, .slice a l.length c] 24)) wr → Calls Try.prog 10 #[] wr fun e w' => e = .returned (.bool true) ∧ Below (w.heap.size + 1) (w.alloc (Obj.cells #[.int .i64 f, .int .i64 t, .slice a l.length c] 24)) w') := fun wr q => (HW wr).mono fun e w' ⟨q1, q2⟩ => ⟨q1, q.trans (q2.mono (HX.out wr q).2.2)⟩
  have h1 := hl.cap1
  have h2 := hl.cap2
  have HPut2 : Hid (wtMs l ≤ 300 → Calls Try.prog 11 #[.agg #[.int .i64 f, .int .i64 t, .slice a l.length c]] (w.alloc (Obj.cells #[.int .i64 f, .int .i64 t, .slice a l.length c] 24)) fun e w' => ∃ a' c', e = .returned (.tuple #[.slice a' 0 c', .int .i64 (pchk f t l)]) ∧ Below (w.heap.size + 1) (w.alloc (Obj.cells #[.int .i64 f, .int .i64 t, .slice a l.length c] 24)) w') := fun hw => (HPut.out hw).mono fun e w' ⟨v, q1, q2, q3⟩ => by
    unfold pput at q2
    rw [if_neg hk] at q2
    obtain ⟨a', c', rfl, _⟩ := q2
    exact ⟨a', c', q1, q3⟩
  have HK : Hid (¬ pchk f t l = 0) := hk
  clear HPut hk
  generalize pchk f t l = k at *
  have hk2 : ((k : Int) == 0) = false := beq_false_of_ne HK.out
  clear HS hl hm hf ht H HW
  generalize l.length = n at *
  go_enter Try.func5, Try.ntmps5
  go_wp2_with (first
    | (go_at_call 10; refine (HWk.out _ (HX.out _ HB2.out).1).mono ?_; rintro e wz ⟨rfl, qz⟩; have HZ : Hid (Below w.heap.size w wz) := qz; clear qz)
    | (go_at_call 11; refine (HPut2.out (HLb.out (by trivial))).mono ?_; rintro e w2 ⟨a2, c2, rfl, qB⟩; have HB2 : Hid (Below (w.heap.size + 1) _ w2) := qB; have hk3 : ¬ (k = 0) := HK.out; clear qB)
    | (go_at_call 10; refine (HWk.out _ HB0.out).mono ?_; rintro e wz ⟨rfl, qz⟩; have HZ : Hid (Below w.heap.size w wz) := qz; clear qz)
    | (go_at_call 9; refine HLt.out.mono ?_; rintro e w1 ⟨b, rfl, hb, rfl⟩; have HLb : Hid (b = true → wtMs l ≤ 300) := hb; clear hb; cases b))
  all_goals first | (go_ret; exact ⟨rfl, HZ.out⟩) | skip
theorem back_walk {w : World} {P : Nat → Prop} {f t : Int} {a : Option Addr} {c : Nat} {l : List Ms} (H : PgOk) (HW : ∀ wr, Calls Try.prog 10 #[] wr fun e w' => e = .returned (.bool true) ∧ Below wr.heap.size wr w') (hl : RwV msR w P a c l) (hm : ∀ m ∈ l, MsR m) (hf : InR f) (ht : InR t) : Calls Try.prog 5 #[.agg #[.int .i64 f, .int .i64 t, .slice a l.length c]] w fun e w' => e = .returned (.bool true) ∧ Below w.heap.size w w' := by
  by_cases hk : pchk f t l = 0
  · exact back_yes H HW hl hm hf ht hk
  · exact back_no H HW hl hm hf ht hk
end Go.Proofs.Ytcaddedkodjgcaa
