/-
  PacketPuts: its walk.
-/
import Derived.Test.YtcaddedkodjgcaaKpo
namespace Go.Proofs.Ytcaddedkodjgcaa
open Go.RowKit Pack
set_option linter.unusedVariables false
set_option linter.unusedSimpArgs false

set_option maxRecDepth 100000 in
set_option maxHeartbeats 1600000 in
theorem puts_walk {w : World} {P : Nat → Prop} {f t : Int} {a : Option Addr} {c : Nat} {l : List Ms} (H : PgOk) (HW : ∀ wr, Calls Try.prog 10 #[] wr fun e w' => e = .returned (.bool true) ∧ Below wr.heap.size wr w') (hl : RwV msR w P a c l) (hm : ∀ m ∈ l, MsR m) (hf : InR f) (ht : InR t) : Calls Try.prog 3 #[.agg #[.int .i64 f, .int .i64 t, .slice a l.length c]] w fun e w' => e = .returned (.bool true) ∧ Below w.heap.size w w' := by
  have HS := pack_box w f t a l.length c
  have HB0 : Hid (Below w.heap.size w (w.alloc (Obj.cells #[.int .i64 f, .int .i64 t, .slice a l.length c] 24))) := HS.2
  have hsz : (w.alloc (Obj.cells #[.int .i64 f, .int .i64 t, .slice a l.length c] 24)).heap.size = w.heap.size + 1 := size_alloc _ _
  obtain ⟨p0, p1, p2, pf⟩ := id HS.1
  have HX : Hid (∀ wr, Below (w.heap.size + 1) (w.alloc (Obj.cells #[.int .i64 f, .int .i64 t, .slice a l.length c] 24)) wr → Below w.heap.size w wr ∧ (wr.cell? ⟨w.heap.size, 0, none⟩ = some (.int .i64 f) ∧ wr.cell? ⟨w.heap.size, 1, none⟩ = some (.int .i64 t) ∧ wr.cell? ⟨w.heap.size, 2, none⟩ = some (.slice a l.length c)) ∧ w.heap.size + 1 ≤ wr.heap.size) := fun wr q => ⟨HS.2.trans (q.mono (Nat.le_succ _)), ⟨(cell_kept (q.block _ (Nat.lt_succ_self _)) _).trans p0, (cell_kept (q.block _ (Nat.lt_succ_self _)) _).trans p1, (cell_kept (q.block _ (Nat.lt_succ_self _)) _).trans p2⟩, by have := q.size; omega⟩
  have HLt : Hid (Calls Try.prog 9 #[.slice a l.length c] (w.alloc (Obj.cells #[.int .i64 f, .int .i64 t, .slice a l.length c] 24)) fun e w' => ∃ b : Bool, e = .returned (.bool b) ∧ (b = true → wtMs l ≤ 300) ∧ w' = (w.alloc (Obj.cells #[.int .i64 f, .int .i64 t, .slice a l.length c] 24))) := light_any (hl.below HS.2)
  have HPut : Hid (wtMs l ≤ 300 → Calls Try.prog 11 #[.agg #[.int .i64 f, .int .i64 t, .slice a l.length c]] (w.alloc (Obj.cells #[.int .i64 f, .int .i64 t, .slice a l.length c] 24)) fun e w' => ∃ v', e = .returned (.tuple #[v', .int .i64 (pchk f t l)]) ∧ ReadsV w' v' (pput f t l) ∧ Below (w.heap.size + 1) (w.alloc (Obj.cells #[.int .i64 f, .int .i64 t, .slice a l.length c] 24)) w') := fun hw => (H.put (hl.below HS.2) (by omega) hm hf ht).mono fun e w' ⟨v, q1, q2, q3⟩ => ⟨v, q1, q2, q3.mono (Nat.le_of_eq hsz.symm)⟩
  have HWk : Hid (∀ wr, Below w.heap.size w wr → Calls Try.prog 10 #[] wr fun e w' => e = .returned (.bool true) ∧ Below w.heap.size w w') := fun wr q => (HW wr).mono fun e w' ⟨q1, q2⟩ => ⟨q1, q.trans (q2.mono q.size)⟩
  have HWk2 : Hid (∀ wr, Below (w.heap.size + 1) (w.alloc (Obj.cells #[.int .i64 f, .int .i64 t, .slice a l.length c] 24)) wr → Calls Try.prog 10 #[] wr fun e w' => e = .returned (.bool true) ∧ Below (w.heap.size + 1) (w.alloc (Obj.cells #[.int .i64 f, .int .i64 t, .slice a l.length c] 24)) w') := fun wr q => (HW wr).mono fun e w' ⟨q1, q2⟩ => ⟨q1, q.trans (q2.mono (HX.out wr q).2.2)⟩
  have h1 := hl.cap1
  have h2 := hl.cap2
  have HPr : Hid (wtMs l ≤ 300 → ∀ wr, Below (w.heap.size + 1) (w.alloc (Obj.cells #[.int .i64 f, .int .i64 t, .slice a l.length c] 24)) wr → Calls Try.prog 12 #[.agg #[.int .i64 f, .int .i64 t, .slice a l.length c]] wr fun e w' => ∃ v', e = .returned (.tuple #[v', .int .i64 (pchk f t l)]) ∧ ReadsV w' v' (pput f t l) ∧ Below wr.heap.size wr w' ∧ Below (w.heap.size + 1) (w.alloc (Obj.cells #[.int .i64 f, .int .i64 t, .slice a l.length c] 24)) w') := fun hw wr q => (RPut_any (hl.below (HX.out wr q).1) hw).mono fun e w' ⟨v, q1, q2, q3⟩ => ⟨v, q1, q2, q3, q.trans (q3.mono (HX.out wr q).2.2)⟩
  have HSm : Hid (∀ wr v u, ReadsV wr v (pput f t l) → ReadsV wr u (pput f t l) → Calls Try.prog 13 #[v, u] wr fun e w' => e = .returned (.bool true) ∧ w' = wr) := fun wr v u q1 q2 => by
    have := same_any v u _ _ wr q1 q2
    rw [decide_eq_true rfl] at this
    exact this
  have HCk : Hid (wtMs l ≤ 300 → ∀ wr, Below (w.heap.size + 1) (w.alloc (Obj.cells #[.int .i64 f, .int .i64 t, .slice a l.length c] 24)) wr → Calls Try.prog 14 #[.agg #[.int .i64 f, .int .i64 t, .slice a l.length c]] wr fun e w' => e = .returned (.int .i64 (pchk f t l)) ∧ Below (w.heap.size + 1) (w.alloc (Obj.cells #[.int .i64 f, .int .i64 t, .slice a l.length c] 24)) w') := fun hw wr q => (H.chk (hl.below (HX.out wr q).1) (by have := wtMs_len l; omega) hm hf ht).mono fun e w' ⟨q1, q2⟩ => ⟨q1, q.trans (q2.mono (HX.out wr q).2.2)⟩
  have HRk : Hid (∀ wr, Below (w.heap.size + 1) (w.alloc (Obj.cells #[.int .i64 f, .int .i64 t, .slice a l.length c] 24)) wr → Calls Try.prog 15 #[.agg #[.int .i64 f, .int .i64 t, .slice a l.length c]] wr fun e w' => e = .returned (.int .i64 (pchk f t l)) ∧ Below (w.heap.size + 1) (w.alloc (Obj.cells #[.int .i64 f, .int .i64 t, .slice a l.length c] 24)) w') := fun wr q => (RCheck_any (hl.below (HX.out wr q).1)).mono fun e w' ⟨q1, q2⟩ => ⟨q1, q.trans (q2.mono (HX.out wr q).2.2)⟩
  generalize pchk f t l = k at *
  generalize pput f t l = pb at *
  clear HS hl hm hf ht H HW
  generalize l.length = n at *
  go_enter Try.func3, Try.ntmps3
  go_wp2_with (first
    | (go_at_call 12; refine (HPr.out (HLb.out (by trivial)) _ HB2.out).mono ?_; rintro e w3 ⟨v3, rfl, hr, qA, qB⟩; have HV3 : Hid (ReadsV w3.drew v2 pb ∧ ReadsV w3.drew v3 pb) := ⟨(HV2.out.below qA).below (Below.refl _ _).drew, hr.below (Below.refl _ _).drew⟩; have HB3 : Hid (Below (w.heap.size + 1) _ w3.drew) := qB.drew; obtain ⟨_, ⟨s0, s1, s2⟩, hz3⟩ := HX.out w3 qB; clear qB qA hr)
    | (go_at_call 11; refine (HPut.out (HLb.out (by trivial))).mono ?_; rintro e w2 ⟨v2, rfl, hr, qB⟩; have HV2 : Hid (ReadsV w2 v2 pb) := hr; have HB2 : Hid (Below (w.heap.size + 1) _ w2) := qB; obtain ⟨_, ⟨r0, r1, r2⟩, hz2⟩ := HX.out w2 HB2.out; clear qB hr)
    | (go_at_call 10; refine (HWk.out _ HB0.out).mono ?_; rintro e wz ⟨rfl, qz⟩; have HZ : Hid (Below w.heap.size w wz) := qz; clear qz)
    | (go_at_call 9; refine HLt.out.mono ?_; rintro e w1 ⟨b, rfl, hb, rfl⟩; have HLb : Hid (b = true → wtMs l ≤ 300) := hb; clear hb; cases b))
  all_goals first | (go_ret; exact ⟨rfl, HZ.out⟩) | skip
  go_region_held3 (fun w' => w'.cell? ⟨w.heap.size, 0, none⟩ = some (.int .i64 f) ∧ w'.cell? ⟨w.heap.size, 1, none⟩ = some (.int .i64 t) ∧ w'.cell? ⟨w.heap.size, 2, none⟩ = some (.slice a n c)) (go_keep) (first
    | (go_at_call 10; refine (HWk2.out _ HB5.out).mono ?_; rintro e w6 ⟨rfl, qB⟩; obtain ⟨qz, ⟨x0, x1, x2⟩, hz6⟩ := HX.out w6 qB; have HZ : Hid (Below w.heap.size w w6) := qz; clear qB qz)
    | (go_at_call 15; refine (HRk.out _ HB4.out).mono ?_; rintro e w5 ⟨rfl, qB⟩; have HB5 : Hid (Below (w.heap.size + 1) _ w5) := qB; obtain ⟨_, ⟨u0, u1, u2⟩, hz5⟩ := HX.out w5 HB5.out; clear qB)
    | (go_at_call 14; refine (HCk.out (HLb.out (by trivial)) _ HB3.out).mono ?_; rintro e w4 ⟨rfl, qB⟩; have HB4 : Hid (Below (w.heap.size + 1) _ w4) := qB; obtain ⟨_, ⟨t0, t1, t2⟩, hz4⟩ := HX.out w4 HB4.out; clear qB)
    | (go_at_call 13; refine (HSm.out _ _ _ HV3.out.1 HV3.out.2).mono ?_; rintro e w4 ⟨rfl, h9⟩; have h10 := h9.symm; clear h9; subst h10))
  go_wp2
  go_ret
  exact ⟨rfl, HZ.out⟩
end Go.Proofs.Ytcaddedkodjgcaa
