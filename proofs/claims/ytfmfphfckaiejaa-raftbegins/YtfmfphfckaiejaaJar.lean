/-
  The program's tell: its contract.
-/
import Derived.Test.YtfmfphfckaiejaaJao
import Derived.Test.YtfmfphfckaiejaaJap
import Derived.Test.YtfmfphfckaiejaaJaq
import Derived.Test.YtfmfphfckaiejaaJah
namespace Go.Proofs.Ytfmfphfckaiejaa
section
open Go.RowKit
set_option linter.unusedVariables false


theorem pw_big {w : World} {B M : Nat} {s : Ad} {m : Mb} {v : Value} {ts : List Ms} (h : Wk w B M s m v ts) : ∀ g, w.heap.size ≤ g → Pw B M v g := fun g hg => pw_new h hg
set_option maxRecDepth 100000 in
set_option maxHeartbeats 1600000 in
theorem tell_snap {w : World} {B M : Nat} {s : Ad} {m : Mb} {v : Value} {ts : List Ms} (hW : Wk w B M s m v ts) (who : Int) (h1 : 1 ≤ who) (h2 : who ≤ m.next.length) (h3 : m.next.length ≤ 100) (hs : m.snap.length ≤ 1000) (hl : ts.length ≤ 900) (hq : m.next.getD (who - 1).toNat 0 ≤ m.b) : Calls Try.prog 63 #[.pointer (some ⟨M, 0, none⟩), .int .i64 who] w fun e w' => e = .returned (.tuple #[]) ∧ ∃ v', Wk w' B M s m v' (ts ++ [tellM m who]) ∧ Dn B M v v' w w' := by
  have hM := hW.lt
  have HNx : Hid (∀ wx, Below w.heap.size w wx → Calls Try.prog 78 #[.pointer (some ⟨M, 0, none⟩), .int .i64 who] wx fun e w' => e = .returned (.int .i64 (m.next.getD (who - 1).toNat 0)) ∧ w' = wx) := fun wx h => next_any (hW.below h) who h1 h2 h3
  have HCp : Hid (∀ wx, Below w.heap.size w wx → Calls Try.prog 31 #[.slice s.sa m.snap.length s.sc] wx (CpP m.snap wx)) := fun wx h => copied_any m.snap s.sa s.sc wx (hW.r.sn.below h) (by omega)
  have HCl : Hid (∀ w1, Below w.heap.size w w1 → Wc w1 M s m v) := fun w1 q => hW.c.below q
  have HSe : Hid (∀ wx w1 a c, Below w.heap.size w wx → ReadsV w1 (.slice a m.snap.length c) m.snap → PV (fun g => wx.heap.size ≤ g) a m.snap.length → Below wx.heap.size wx w1 → Calls Try.prog 79 #[.pointer (some ⟨M, 0, none⟩), .int .i64 who, .agg #[.int .i64 7, .int .i64 0, .int .i64 0, .int .i64 0, .int .i64 m.term, .int .i64 m.b, .int .i64 m.bt, .int .i64 m.commit, .bool false, .slice none 0 0, .slice a m.snap.length c]] w1 fun e w' => e = .returned (.tuple #[]) ∧ ∃ v', (Wk w' B M s m v' (ts ++ [tellM m who]) ∧ Dn B M v v' w w')) := fun wx w1 a c q1 q2 q3 q4 => by
    have hx := hW.below q1
    have h9 := hx.below q4
    have e1 : tellM m who = { ({ zMs with kind := 7, term := m.term, commit := m.commit, at_ := m.b, att := m.bt, data := m.snap } : Ms) with frm := m.id, to := who } := by unfold tellM; rw [if_pos hq]
    refine (send_any h9 who ⟨none, 0, a, c⟩ { zMs with kind := 7, term := m.term, commit := m.commit, at_ := m.b, att := m.bt, data := m.snap } ⟨EnsV.nil _ _, q2, fun hn x hx2 => pw_big hx _ (q3 hn x hx2)⟩ (by omega)).mono fun e w' ⟨r1, v', r2, r3⟩ => ⟨r1, v', by rw [e1]; exact r2, ((Dn.below q1 hW.le).trans (Dn.below q4 hx.le)).trans r3⟩
  obtain ⟨c0, c1, c2, c3, c4, c5, c6, c7, c8, c9, c10, c11, c12, c13, c14, c15, c16, cf⟩ := hW.c
  clear hW
  generalize tellM m who = X at *
  generalize m.next.getD (who - 1).toNat 0 = nx at *
  generalize hsl : m.snap.length = sl at *
  go_enter Try.func63, Try.ntmps63
  go_wp2
  go_region_held3 (fun w' => w'.cell? ⟨M, 6, none⟩ = some (.int .i64 m.b)) (go_keep) (first | (go_at_call 78; refine (HNx.out _ (Below.refl _ _).drew).mono ?_; rintro e w1 ⟨rfl, rfl⟩))
  go_wp2
  go_region_held3 (fun w' => w'.cell? ⟨M, 2, none⟩ = some (.int .i64 m.term) ∧ w'.cell? ⟨M, 9, none⟩ = some (.int .i64 m.commit) ∧ w'.cell? ⟨M, 7, none⟩ = some (.int .i64 m.bt) ∧ w'.cell? ⟨M, 10, none⟩ = some (.slice s.sa sl s.sc)) (go_keep) (first
    | (go_at_call 79; have := H1; refine (HSe.out _ _ _ _ (Below.refl _ _).drew.drew H1.out.1 H1.out.2.1 H1.out.2.2).mono ?_; rintro e w2 ⟨rfl, v', HK⟩; have HF : Hid (Wk w2 B M s m v' (ts ++ [X]) ∧ Dn B M v v' w w2) := HK; obtain ⟨f0, f1, f2, f3, f4, f5, f6, f7, f8, f9, f10, f11, f12, f13, f14, f15, f16, ff⟩ := HK.1.c; clear HK)
    | (go_at_call 31; refine (HCp.out _ (Below.refl _ _).drew.drew).mono ?_; rintro e w1 ⟨a, c, rfl, q1, q2, q3⟩; rw [hsl] at q1 q2 ⊢; have H1 : Hid (ReadsV w1 (.slice a sl c) m.snap ∧ PV (fun g => w.drew.drew.heap.size ≤ g) a sl ∧ Below w.drew.drew.heap.size w.drew.drew w1) := ⟨q1, q2, q3⟩; obtain ⟨d0, d1, d2, d3, d4, d5, d6, d7, d8, d9, d10, d11, d12, d13, d14, d15, d16, df⟩ := (HCl.out w1 ((Below.refl _ _).drew.drew.trans q3)); rw [hsl] at d10; clear q1 q2 q3))
  go_wp2
  first | (refine bodyPost_end (results_none rfl _ _ _) rfl ?_) | (refine bodyPost_ret (results_none rfl _ _ _) rfl ?_)
  exact ⟨rfl, v', HF.out⟩
end
section
open Go.RowKit
set_option linter.unusedVariables false


set_option maxRecDepth 100000 in
set_option maxHeartbeats 600000 in
theorem tell_app {w : World} {B M : Nat} {s : Ad} {m : Mb} {v : Value} {ts : List Ms} (hW : Wk w B M s m v ts) (who : Int) (h1 : 1 ≤ who) (h2 : who ≤ m.next.length) (h3 : m.next.length ≤ 100) (hb1 : 0 ≤ m.b) (hb2 : m.b ≤ 2000000) (hes : Small m.es) (hx : m.next.getD (who - 1).toNat 0 ≤ 2000000) (hl : ts.length ≤ 900) (hq : ¬ m.next.getD (who - 1).toNat 0 ≤ m.b) : Calls Try.prog 63 #[.pointer (some ⟨M, 0, none⟩), .int .i64 who] w fun e w' => e = .returned (.tuple #[]) ∧ ∃ v', Wk w' B M s m v' (ts ++ [tellM m who]) ∧ Dn B M v v' w w' := by
  have hM := hW.lt
  have hes1 := hes.1
  have HNx : Hid (∀ wx, Below w.heap.size w wx → Calls Try.prog 78 #[.pointer (some ⟨M, 0, none⟩), .int .i64 who] wx fun e w' => e = .returned (.int .i64 (m.next.getD (who - 1).toNat 0)) ∧ w' = wx) := fun wx h => next_any (hW.below h) who h1 h2 h3
  have HTe : Hid (∀ wx, Below w.heap.size w wx → Calls Try.prog 54 #[.agg #[.int .i64 m.b, .int .i64 m.bt, .slice s.ea m.es.length s.ec], .int .i64 (m.next.getD (who - 1).toNat 0 - 1)] wx fun e w' => e = .returned (.tuple #[.int .i64 (termM m.b m.bt m.es (m.next.getD (who - 1).toNat 0 - 1)).1, .bool (termM m.b m.bt m.es (m.next.getD (who - 1).toNat 0 - 1)).2]) ∧ Below wx.heap.size wx w') := fun wx h => Term_any _ m.b m.bt s.ea s.ec m.es _ wx hb1 (by omega) (by omega) ⟨by omega, by omega⟩ (hW.r.e.below h)
  have HFr : Hid (∀ wx, Below w.heap.size w wx → Calls Try.prog 80 #[.agg #[.int .i64 m.b, .int .i64 m.bt, .slice s.ea m.es.length s.ec], .int .i64 (m.next.getD (who - 1).toNat 0), .int .i64 8] wx (FromP (fromM m.b m.es (m.next.getD (who - 1).toNat 0) 8) wx)) := fun wx h => From_any _ m.b m.bt s.ea s.ec m.es _ 8 wx hb1 (by omega) ⟨by omega, by omega⟩ ⟨by decide, by decide⟩ (hW.r.e.below h) hes
  have HCl : Hid (∀ w1, Below w.heap.size w w1 → Wc w1 M s m v) := fun w1 q => hW.c.below q
  have HSe : Hid (∀ wx w1 a c, Below w.heap.size w wx → EnsV w1 (fun g => wx.heap.size ≤ g) a c (fromM m.b m.es (m.next.getD (who - 1).toNat 0) 8) → Below wx.heap.size wx w1 → ∀ w2, Below w1.heap.size w1 w2 → Calls Try.prog 79 #[.pointer (some ⟨M, 0, none⟩), .int .i64 who, .agg #[.int .i64 5, .int .i64 0, .int .i64 0, .int .i64 0, .int .i64 m.term, .int .i64 (m.next.getD (who - 1).toNat 0 - 1), .int .i64 (termM m.b m.bt m.es (m.next.getD (who - 1).toNat 0 - 1)).1, .int .i64 m.commit, .bool false, .slice a (fromM m.b m.es (m.next.getD (who - 1).toNat 0) 8).length c, .slice none 0 0]] w2 fun e w' => e = .returned (.tuple #[]) ∧ ∃ v', (Wk w' B M s m v' (ts ++ [tellM m who]) ∧ Dn B M v v' w w')) := fun wx w1 a c q1 q2 q4 w2 q5 => by
    have hx := hW.below q1
    have h9 := (hx.below q4).below q5
    have e1 : tellM m who = { ({ zMs with kind := 5, term := m.term, commit := m.commit, at_ := m.next.getD (who - 1).toNat 0 - 1, att := (termM m.b m.bt m.es (m.next.getD (who - 1).toNat 0 - 1)).1, ents := fromM m.b m.es (m.next.getD (who - 1).toNat 0) 8 } : Ms) with frm := m.id, to := who } := by unfold tellM; rw [if_neg hq]
    refine (send_any h9 who ⟨a, c, none, 0⟩ { zMs with kind := 5, term := m.term, commit := m.commit, at_ := m.next.getD (who - 1).toNat 0 - 1, att := (termM m.b m.bt m.es (m.next.getD (who - 1).toNat 0 - 1)).1, ents := fromM m.b m.es (m.next.getD (who - 1).toNat 0) 8 } ⟨(q2.sub fun g hg _ => pw_big hx g hg).below q5, ReadsV.nil _, PV.none _ _⟩ (by omega)).mono fun e w' ⟨r1, v', r2, r3⟩ => ⟨r1, v', by rw [e1]; exact r2, (((Dn.below q1 hW.le).trans (Dn.below q4 hx.le)).trans (Dn.below q5 (hx.below q4).le)).trans r3⟩
  obtain ⟨c0, c1, c2, c3, c4, c5, c6, c7, c8, c9, c10, c11, c12, c13, c14, c15, c16, cf⟩ := hW.c
  clear hW
  generalize tellM m who = X at *
  generalize hnx : m.next.getD (who - 1).toNat 0 = nx at *
  generalize (termM m.b m.bt m.es (nx - 1)).1 = tt at *
  generalize (termM m.b m.bt m.es (nx - 1)).2 = tf at *
  generalize fromM m.b m.es nx 8 = fs at *
  have hwr : IntKind.i64.wrap (nx - 1) = nx - 1 := by rw [IntKind.wrap_i64]; omega
  go_enter Try.func63, Try.ntmps63
  go_wp2
  go_region_held3 (fun w' => w'.cell? ⟨M, 6, none⟩ = some (.int .i64 m.b)) (go_keep) (first | (go_at_call 78; refine (HNx.out _ (Below.refl _ _).drew).mono ?_; rintro e w1 ⟨rfl, rfl⟩))
  go_wp2_with (first
    | (go_at_call 54; refine (HTe.out _ (Below.refl _ _).drew).mono ?_; rintro e w1 ⟨rfl, HB⟩; have H1 : Hid (Below w.heap.size w w1) := (Below.refl _ _).drew.trans HB; obtain ⟨d0, d1, d2, d3, d4, d5, d6, d7, d8, d9, d10, d11, d12, d13, d14, d15, d16, df⟩ := (HCl.out w1 H1.out); clear HB)
    | (go_at_call 80; have := H1; refine (HFr.out _ H1.out).mono ?_; rintro e w2 ⟨ra, rc, rfl, HE, HB⟩; have H2 : Hid (EnsV w2 (fun g => w1.heap.size ≤ g) ra rc fs ∧ Below w1.heap.size w1 w2) := ⟨HE, HB⟩; obtain ⟨f0, f1, f2, f3, f4, f5, f6, f7, f8, f9, f10, f11, f12, f13, f14, f15, f16, ff⟩ := (HCl.out w2 (H1.out.trans (HB.mono H1.out.size))); clear HE HB))
  generalize fs.length = fl at *
  go_region_held3 (fun w' => w'.cell? ⟨M, 2, none⟩ = some (.int .i64 m.term) ∧ w'.cell? ⟨M, 9, none⟩ = some (.int .i64 m.commit)) (go_keep) (first
    | (go_at_call 79; refine (HSe.out _ _ _ _ H1.out H2.out.1 H2.out.2 _ (Below.refl _ _).drew).mono ?_; rintro e w3 ⟨rfl, v', HK⟩; have HF : Hid (Wk w3 B M s m v' (ts ++ [X]) ∧ Dn B M v v' w w3) := HK; obtain ⟨k0, k1, k2, k3, k4, k5, k6, k7, k8, k9, k10, k11, k12, k13, k14, k15, k16, kf⟩ := HK.1.c; clear HK))
  go_wp2
  first | (refine bodyPost_end (results_none rfl _ _ _) rfl ?_) | (refine bodyPost_ret (results_none rfl _ _ _) rfl ?_)
  exact ⟨rfl, v', HF.out⟩
theorem tell_any {w : World} {B M : Nat} {s : Ad} {m : Mb} {v : Value} {ts : List Ms} (hW : Wk w B M s m v ts) (who : Int) (h1 : 1 ≤ who) (h2 : who ≤ m.next.length) (h3 : m.next.length ≤ 100) (hb1 : 0 ≤ m.b) (hb2 : m.b ≤ 2000000) (hes : Small m.es) (hs : m.snap.length ≤ 1000) (hx : m.next.getD (who - 1).toNat 0 ≤ 2000000) (hl : ts.length ≤ 900) : Calls Try.prog 63 #[.pointer (some ⟨M, 0, none⟩), .int .i64 who] w fun e w' => e = .returned (.tuple #[]) ∧ ∃ v', Wk w' B M s m v' (ts ++ [tellM m who]) ∧ Dn B M v v' w w' := by
  by_cases hq : m.next.getD (who - 1).toNat 0 ≤ m.b
  · exact tell_snap hW who h1 h2 h3 hs hl hq
  · exact tell_app hW who h1 h2 h3 hb1 hb2 hes hx hl hq
end
end Go.Proofs.Ytfmfphfckaiejaa
