/-
  The program's Same, case by case.
-/
import Derived.Test.YtfmfphfckaiejaaJbi
namespace Go.Proofs.Ytfmfphfckaiejaa
open Go.RowKit
set_option linter.unusedVariables false
set_option linter.unusedSimpArgs false


set_option maxRecDepth 100000 in
set_option maxHeartbeats 2000000 in
theorem Same_c0 {w : World} {s s2 : Ad} {m m2 : Mb} (hm : MbV w (fun _ => True) s m) (hm2 : MbV w (fun _ => True) s2 m2)  (f0 : ¬ (m.id = m2.id ∧ m.n = m2.n ∧ m.term = m2.term ∧ m.vote = m2.vote ∧ m.role = m2.role ∧ m.lead = m2.lead ∧ m.commit = m2.commit ∧ m.clock = m2.clock ∧ m.wait = m2.wait)) : Calls Try.prog 14 #[mbA s m, mbA s2 m2] w fun e w' => e = .returned (.bool (eqMb m m2)) ∧ Below w.heap.size w w' := by
  have HE : Hid (eqMb m m2 = false) := by
    show _ = _
    unfold eqMb
    rw [decide_eq_false f0]
    rfl
  have q9 : ∀ w, (Op.equalIn 10000 73 (.agg #[.int .i64 m.id, .int .i64 m.n, .int .i64 m.term, .int .i64 m.vote, .int .i64 m.role, .int .i64 m.lead, .int .i64 m.commit, .int .i64 m.clock, .int .i64 m.wait]) (.agg #[.int .i64 m2.id, .int .i64 m2.n, .int .i64 m2.term, .int .i64 m2.vote, .int .i64 m2.role, .int .i64 m2.lead, .int .i64 m2.commit, .int .i64 m2.clock, .int .i64 m2.wait])).run Try.prog w = .ok false w := fun w => by rw [eq9, decide_eq_false f0]
  have g9 := guard9
  rw [HE.out]
  clear hm hm2 HE f0
  unfold mbA
  have HS00 := Sb.first w s m s2 m2
  go_enter Try.func14, Try.ntmps14
  go_upto_region 1 with fail
  refine Ordd.begin_ 40 (fun u => Sb w u s m s2 m2) (by kernel_rfl) ?_
  obtain ⟨w0, hdr⟩ : ∃ q, ((w.alloc (.cells #[.int .i64 m.id, .int .i64 m.n, .int .i64 m.term, .int .i64 m.vote, .int .i64 m.role, .int .i64 m.lead, .int .i64 m.b, .int .i64 m.bt, .slice s.ea m.es.length s.ec, .int .i64 m.commit, .slice s.sa m.snap.length s.sc, .slice s.ga m.granted.length s.gc, .slice s.xa m.next.length s.xc, .slice s.ma m.mtch.length s.mc, .int .i64 m.clock, .int .i64 m.wait] 31)).alloc (.cells #[.int .i64 m2.id, .int .i64 m2.n, .int .i64 m2.term, .int .i64 m2.vote, .int .i64 m2.role, .int .i64 m2.lead, .int .i64 m2.b, .int .i64 m2.bt, .slice s2.ea m2.es.length s2.ec, .int .i64 m2.commit, .slice s2.sa m2.snap.length s2.sc, .slice s2.ga m2.granted.length s2.gc, .slice s2.xa m2.next.length s2.xc, .slice s2.ma m2.mtch.length s2.mc, .int .i64 m2.clock, .int .i64 m2.wait] 31)).drew = q := ⟨_, rfl⟩
  have HSw0 : Hid (Sb w w0 s m s2 m2) := by rw [← hdr]; exact HS00.below (Below.refl _ _).drew
  rw [hdr]
  clear hdr HS00
  have hHeld : (fun u => Sb w u s m s2 m2) w0 := HSw0.out
  refine Ordd.take (i := 0) (oi := smO0) (v := (.agg #[.int .i64 m.id, .int .i64 m.n, .int .i64 m.term, .int .i64 m.vote, .int .i64 m.role, .int .i64 m.lead, .int .i64 m.b, .int .i64 m.bt, .slice s.ea m.es.length s.ec, .int .i64 m.commit, .slice s.sa m.snap.length s.sc, .slice s.ga m.granted.length s.gc, .slice s.xa m.next.length s.xc, .slice s.ma m.mtch.length s.mc, .int .i64 m.clock, .int .i64 m.wait])) rfl rfl (by kernel_rfl) (by decide) (by kernel_rfl) (by kernel_rfl) (by kernel_rfl) (by kernel_rfl) (fun _ _ _ h => h) (Or.inl ⟨by rfl, ?_⟩) hHeld ?_
  · intro wl hSl; have hSm : Sb w wl s m s2 m2 := hSl; clear hSl; have c0 := hSm.p.c0; have c1 := hSm.p.c1; have c2 := hSm.p.c2; have c3 := hSm.p.c3; have c4 := hSm.p.c4; have c5 := hSm.p.c5; have c6 := hSm.p.c6; have c7 := hSm.p.c7; have c8 := hSm.p.c8; have c9 := hSm.p.c9; have c10 := hSm.p.c10; have c11 := hSm.p.c11; have c12 := hSm.p.c12; have c13 := hSm.p.c13; have c14 := hSm.p.c14; have c15 := hSm.p.c15; clear hSm; (try simp only [smO0]); go_simp
  try simp only [smO0, Act.put, List.setIfInBounds_toArray, List.set_cons_zero, List.set_cons_succ]
  refine Ordd.take (i := 2) (oi := smO2) (v := (.agg #[.int .i64 m2.id, .int .i64 m2.n, .int .i64 m2.term, .int .i64 m2.vote, .int .i64 m2.role, .int .i64 m2.lead, .int .i64 m2.b, .int .i64 m2.bt, .slice s2.ea m2.es.length s2.ec, .int .i64 m2.commit, .slice s2.sa m2.snap.length s2.sc, .slice s2.ga m2.granted.length s2.gc, .slice s2.xa m2.next.length s2.xc, .slice s2.ma m2.mtch.length s2.mc, .int .i64 m2.clock, .int .i64 m2.wait])) rfl rfl (by kernel_rfl) (by decide) (by kernel_rfl) (by kernel_rfl) (by kernel_rfl) (by kernel_rfl) (fun _ _ _ h => h) (Or.inl ⟨by rfl, ?_⟩) hHeld ?_
  · intro wl hSl; have hSm : Sb w wl s m s2 m2 := hSl; clear hSl; have c0 := hSm.q.c0; have c1 := hSm.q.c1; have c2 := hSm.q.c2; have c3 := hSm.q.c3; have c4 := hSm.q.c4; have c5 := hSm.q.c5; have c6 := hSm.q.c6; have c7 := hSm.q.c7; have c8 := hSm.q.c8; have c9 := hSm.q.c9; have c10 := hSm.q.c10; have c11 := hSm.q.c11; have c12 := hSm.q.c12; have c13 := hSm.q.c13; have c14 := hSm.q.c14; have c15 := hSm.q.c15; clear hSm; (try simp only [smO2]); go_simp
  try simp only [smO2, Act.put, List.setIfInBounds_toArray, List.set_cons_zero, List.set_cons_succ]
  refine Ordd.ready (rs := [1]) (by kernel_rfl) (by simp) ?_
  refine Nowd.cons (o := smO1) rfl (fun K hK => ?_) Nowd.nil
  try simp only [smO1]
  go_simp
  (go_at_call 37; refine (numbers_any s m _).mono ?_; rintro e w1 ⟨rfl, qB⟩; have HSw1 : Hid (Sb w w1 s m s2 m2) := HSw0.out.below qB; have HD1 : Hid True := trivial; clear qB)
  go_wp2_with fail
  have hHeld2 := HSw1.out
  refine hK.out _ _ (.inr hHeld2) ?_
  clear hK K hHeld
  have hHeld := hHeld2
  clear hHeld2
  try simp only [smO1, Act.put, List.setIfInBounds_toArray, List.set_cons_zero, List.set_cons_succ]
  refine Ordd.ready (rs := [3]) (by kernel_rfl) (by simp) ?_
  refine Nowd.cons (o := smO3) rfl (fun K hK => ?_) Nowd.nil
  try simp only [smO3]
  go_simp
  (go_at_call 37; have := HD1; refine (numbers_any s2 m2 _).mono ?_; rintro e w2 ⟨rfl, qB⟩; have HSw2 : Hid (Sb w w2 s m s2 m2) := HSw1.out.below qB; clear HD1; clear qB)
  go_wp2_with fail
  have hHeld2 := HSw2.out
  refine hK.out _ _ (.inr hHeld2) ?_
  clear hK K hHeld
  have hHeld := hHeld2
  clear hHeld2
  try simp only [smO3, Act.put, List.setIfInBounds_toArray, List.set_cons_zero, List.set_cons_succ]
  refine Ordd.take (i := 4) (oi := smO4) (v := (.bool false)) rfl rfl (by kernel_rfl) (by decide) (by kernel_rfl) (by kernel_rfl) (by kernel_rfl) (by kernel_rfl) (fun _ _ _ h => h) (Or.inl ⟨by rfl, ?_⟩) hHeld ?_
  · intro wl hSl; clear hSl; (try simp only [smO4]); go_simp
  try simp only [smO4, Act.put, List.setIfInBounds_toArray, List.set_cons_zero, List.set_cons_succ]
  refine Ordd.take (i := 5) (oi := smO5) (v := (.bool false)) rfl rfl (by kernel_rfl) (by decide) (by kernel_rfl) (by kernel_rfl) (by kernel_rfl) (by kernel_rfl) (fun _ _ _ h => h) (Or.inl ⟨by rfl, ?_⟩) hHeld ?_
  · intro wl hSl; clear hSl; (try simp only [smO5]); go_simp
  try simp only [smO5, Act.put, List.setIfInBounds_toArray, List.set_cons_zero, List.set_cons_succ]
  refine Ordd.take (i := 6) (oi := smO6) (v := undef) rfl rfl (by kernel_rfl) (by decide) (by kernel_rfl) (by kernel_rfl) (by kernel_rfl) (by kernel_rfl) (fun _ _ _ h => h) (Or.inr ⟨by rfl, rfl⟩) hHeld ?_
  try simp only [smO6, Act.put, List.setIfInBounds_toArray, List.set_cons_zero, List.set_cons_succ]
  refine Ordd.take (i := 7) (oi := smO7) (v := undef) rfl rfl (by kernel_rfl) (by decide) (by kernel_rfl) (by kernel_rfl) (by kernel_rfl) (by kernel_rfl) (fun _ _ _ h => h) (Or.inr ⟨by rfl, rfl⟩) hHeld ?_
  try simp only [smO7, Act.put, List.setIfInBounds_toArray, List.set_cons_zero, List.set_cons_succ]
  refine Ordd.take (i := 8) (oi := smO8) (v := undef) rfl rfl (by kernel_rfl) (by decide) (by kernel_rfl) (by kernel_rfl) (by kernel_rfl) (by kernel_rfl) (fun _ _ _ h => h) (Or.inr ⟨by rfl, rfl⟩) hHeld ?_
  try simp only [smO8, Act.put, List.setIfInBounds_toArray, List.set_cons_zero, List.set_cons_succ]
  refine Ordd.take (i := 9) (oi := smO9) (v := undef) rfl rfl (by kernel_rfl) (by decide) (by kernel_rfl) (by kernel_rfl) (by kernel_rfl) (by kernel_rfl) (fun _ _ _ h => h) (Or.inr ⟨by rfl, rfl⟩) hHeld ?_
  try simp only [smO9, Act.put, List.setIfInBounds_toArray, List.set_cons_zero, List.set_cons_succ]
  refine Ordd.take (i := 10) (oi := smO10) (v := undef) rfl rfl (by kernel_rfl) (by decide) (by kernel_rfl) (by kernel_rfl) (by kernel_rfl) (by kernel_rfl) (fun _ _ _ h => h) (Or.inr ⟨by rfl, rfl⟩) hHeld ?_
  try simp only [smO10, Act.put, List.setIfInBounds_toArray, List.set_cons_zero, List.set_cons_succ]
  refine Ordd.take (i := 11) (oi := smO11) (v := (.bool false)) rfl rfl (by kernel_rfl) (by decide) (by kernel_rfl) (by kernel_rfl) (by kernel_rfl) (by kernel_rfl) (fun _ _ _ h => h) (Or.inl ⟨by rfl, ?_⟩) hHeld ?_
  · intro wl hSl; clear hSl; (try simp only [smO11]); go_simp
  try simp only [smO11, Act.put, List.setIfInBounds_toArray, List.set_cons_zero, List.set_cons_succ]
  refine Ordd.take (i := 12) (oi := smO12) (v := (.bool false)) rfl rfl (by kernel_rfl) (by decide) (by kernel_rfl) (by kernel_rfl) (by kernel_rfl) (by kernel_rfl) (fun _ _ _ h => h) (Or.inl ⟨by rfl, ?_⟩) hHeld ?_
  · intro wl hSl; clear hSl; (try simp only [smO12]); go_simp
  try simp only [smO12, Act.put, List.setIfInBounds_toArray, List.set_cons_zero, List.set_cons_succ]
  refine Ordd.take (i := 13) (oi := smO13) (v := undef) rfl rfl (by kernel_rfl) (by decide) (by kernel_rfl) (by kernel_rfl) (by kernel_rfl) (by kernel_rfl) (fun _ _ _ h => h) (Or.inr ⟨by rfl, rfl⟩) hHeld ?_
  try simp only [smO13, Act.put, List.setIfInBounds_toArray, List.set_cons_zero, List.set_cons_succ]
  refine Ordd.take (i := 14) (oi := smO14) (v := undef) rfl rfl (by kernel_rfl) (by decide) (by kernel_rfl) (by kernel_rfl) (by kernel_rfl) (by kernel_rfl) (fun _ _ _ h => h) (Or.inr ⟨by rfl, rfl⟩) hHeld ?_
  try simp only [smO14, Act.put, List.setIfInBounds_toArray, List.set_cons_zero, List.set_cons_succ]
  refine Ordd.take (i := 15) (oi := smO15) (v := undef) rfl rfl (by kernel_rfl) (by decide) (by kernel_rfl) (by kernel_rfl) (by kernel_rfl) (by kernel_rfl) (fun _ _ _ h => h) (Or.inr ⟨by rfl, rfl⟩) hHeld ?_
  try simp only [smO15, Act.put, List.setIfInBounds_toArray, List.set_cons_zero, List.set_cons_succ]
  refine Ordd.take (i := 16) (oi := smO16) (v := undef) rfl rfl (by kernel_rfl) (by decide) (by kernel_rfl) (by kernel_rfl) (by kernel_rfl) (by kernel_rfl) (fun _ _ _ h => h) (Or.inr ⟨by rfl, rfl⟩) hHeld ?_
  try simp only [smO16, Act.put, List.setIfInBounds_toArray, List.set_cons_zero, List.set_cons_succ]
  refine Ordd.take (i := 17) (oi := smO17) (v := undef) rfl rfl (by kernel_rfl) (by decide) (by kernel_rfl) (by kernel_rfl) (by kernel_rfl) (by kernel_rfl) (fun _ _ _ h => h) (Or.inr ⟨by rfl, rfl⟩) hHeld ?_
  try simp only [smO17, Act.put, List.setIfInBounds_toArray, List.set_cons_zero, List.set_cons_succ]
  refine Ordd.take (i := 18) (oi := smO18) (v := (.bool false)) rfl rfl (by kernel_rfl) (by decide) (by kernel_rfl) (by kernel_rfl) (by kernel_rfl) (by kernel_rfl) (fun _ _ _ h => h) (Or.inl ⟨by rfl, ?_⟩) hHeld ?_
  · intro wl hSl; clear hSl; (try simp only [smO18]); go_simp
  try simp only [smO18, Act.put, List.setIfInBounds_toArray, List.set_cons_zero, List.set_cons_succ]
  refine Ordd.take (i := 19) (oi := smO19) (v := (.bool false)) rfl rfl (by kernel_rfl) (by decide) (by kernel_rfl) (by kernel_rfl) (by kernel_rfl) (by kernel_rfl) (fun _ _ _ h => h) (Or.inl ⟨by rfl, ?_⟩) hHeld ?_
  · intro wl hSl; clear hSl; (try simp only [smO19]); go_simp
  try simp only [smO19, Act.put, List.setIfInBounds_toArray, List.set_cons_zero, List.set_cons_succ]
  refine Ordd.take (i := 20) (oi := smO20) (v := undef) rfl rfl (by kernel_rfl) (by decide) (by kernel_rfl) (by kernel_rfl) (by kernel_rfl) (by kernel_rfl) (fun _ _ _ h => h) (Or.inr ⟨by rfl, rfl⟩) hHeld ?_
  try simp only [smO20, Act.put, List.setIfInBounds_toArray, List.set_cons_zero, List.set_cons_succ]
  refine Ordd.take (i := 21) (oi := smO21) (v := undef) rfl rfl (by kernel_rfl) (by decide) (by kernel_rfl) (by kernel_rfl) (by kernel_rfl) (by kernel_rfl) (fun _ _ _ h => h) (Or.inr ⟨by rfl, rfl⟩) hHeld ?_
  try simp only [smO21, Act.put, List.setIfInBounds_toArray, List.set_cons_zero, List.set_cons_succ]
  refine Ordd.take (i := 22) (oi := smO22) (v := undef) rfl rfl (by kernel_rfl) (by decide) (by kernel_rfl) (by kernel_rfl) (by kernel_rfl) (by kernel_rfl) (fun _ _ _ h => h) (Or.inr ⟨by rfl, rfl⟩) hHeld ?_
  try simp only [smO22, Act.put, List.setIfInBounds_toArray, List.set_cons_zero, List.set_cons_succ]
  refine Ordd.take (i := 23) (oi := smO23) (v := undef) rfl rfl (by kernel_rfl) (by decide) (by kernel_rfl) (by kernel_rfl) (by kernel_rfl) (by kernel_rfl) (fun _ _ _ h => h) (Or.inr ⟨by rfl, rfl⟩) hHeld ?_
  try simp only [smO23, Act.put, List.setIfInBounds_toArray, List.set_cons_zero, List.set_cons_succ]
  refine Ordd.take (i := 24) (oi := smO24) (v := undef) rfl rfl (by kernel_rfl) (by decide) (by kernel_rfl) (by kernel_rfl) (by kernel_rfl) (by kernel_rfl) (fun _ _ _ h => h) (Or.inr ⟨by rfl, rfl⟩) hHeld ?_
  try simp only [smO24, Act.put, List.setIfInBounds_toArray, List.set_cons_zero, List.set_cons_succ]
  refine Ordd.take (i := 25) (oi := smO25) (v := (.bool false)) rfl rfl (by kernel_rfl) (by decide) (by kernel_rfl) (by kernel_rfl) (by kernel_rfl) (by kernel_rfl) (fun _ _ _ h => h) (Or.inl ⟨by rfl, ?_⟩) hHeld ?_
  · intro wl hSl; clear hSl; (try simp only [smO25]); go_simp
  try simp only [smO25, Act.put, List.setIfInBounds_toArray, List.set_cons_zero, List.set_cons_succ]
  refine Ordd.take (i := 26) (oi := smO26) (v := (.bool false)) rfl rfl (by kernel_rfl) (by decide) (by kernel_rfl) (by kernel_rfl) (by kernel_rfl) (by kernel_rfl) (fun _ _ _ h => h) (Or.inl ⟨by rfl, ?_⟩) hHeld ?_
  · intro wl hSl; clear hSl; (try simp only [smO26]); go_simp
  try simp only [smO26, Act.put, List.setIfInBounds_toArray, List.set_cons_zero, List.set_cons_succ]
  refine Ordd.take (i := 27) (oi := smO27) (v := undef) rfl rfl (by kernel_rfl) (by decide) (by kernel_rfl) (by kernel_rfl) (by kernel_rfl) (by kernel_rfl) (fun _ _ _ h => h) (Or.inr ⟨by rfl, rfl⟩) hHeld ?_
  try simp only [smO27, Act.put, List.setIfInBounds_toArray, List.set_cons_zero, List.set_cons_succ]
  refine Ordd.take (i := 28) (oi := smO28) (v := undef) rfl rfl (by kernel_rfl) (by decide) (by kernel_rfl) (by kernel_rfl) (by kernel_rfl) (by kernel_rfl) (fun _ _ _ h => h) (Or.inr ⟨by rfl, rfl⟩) hHeld ?_
  try simp only [smO28, Act.put, List.setIfInBounds_toArray, List.set_cons_zero, List.set_cons_succ]
  refine Ordd.take (i := 29) (oi := smO29) (v := undef) rfl rfl (by kernel_rfl) (by decide) (by kernel_rfl) (by kernel_rfl) (by kernel_rfl) (by kernel_rfl) (fun _ _ _ h => h) (Or.inr ⟨by rfl, rfl⟩) hHeld ?_
  try simp only [smO29, Act.put, List.setIfInBounds_toArray, List.set_cons_zero, List.set_cons_succ]
  refine Ordd.take (i := 30) (oi := smO30) (v := undef) rfl rfl (by kernel_rfl) (by decide) (by kernel_rfl) (by kernel_rfl) (by kernel_rfl) (by kernel_rfl) (fun _ _ _ h => h) (Or.inr ⟨by rfl, rfl⟩) hHeld ?_
  try simp only [smO30, Act.put, List.setIfInBounds_toArray, List.set_cons_zero, List.set_cons_succ]
  refine Ordd.take (i := 31) (oi := smO31) (v := undef) rfl rfl (by kernel_rfl) (by decide) (by kernel_rfl) (by kernel_rfl) (by kernel_rfl) (by kernel_rfl) (fun _ _ _ h => h) (Or.inr ⟨by rfl, rfl⟩) hHeld ?_
  try simp only [smO31, Act.put, List.setIfInBounds_toArray, List.set_cons_zero, List.set_cons_succ]
  refine Ordd.take (i := 32) (oi := smO32) (v := (.bool false)) rfl rfl (by kernel_rfl) (by decide) (by kernel_rfl) (by kernel_rfl) (by kernel_rfl) (by kernel_rfl) (fun _ _ _ h => h) (Or.inl ⟨by rfl, ?_⟩) hHeld ?_
  · intro wl hSl; clear hSl; (try simp only [smO32]); go_simp
  try simp only [smO32, Act.put, List.setIfInBounds_toArray, List.set_cons_zero, List.set_cons_succ]
  refine Ordd.take (i := 33) (oi := smO33) (v := (.bool false)) rfl rfl (by kernel_rfl) (by decide) (by kernel_rfl) (by kernel_rfl) (by kernel_rfl) (by kernel_rfl) (fun _ _ _ h => h) (Or.inl ⟨by rfl, ?_⟩) hHeld ?_
  · intro wl hSl; clear hSl; (try simp only [smO33]); go_simp
  try simp only [smO33, Act.put, List.setIfInBounds_toArray, List.set_cons_zero, List.set_cons_succ]
  refine Ordd.take (i := 34) (oi := smO34) (v := undef) rfl rfl (by kernel_rfl) (by decide) (by kernel_rfl) (by kernel_rfl) (by kernel_rfl) (by kernel_rfl) (fun _ _ _ h => h) (Or.inr ⟨by rfl, rfl⟩) hHeld ?_
  try simp only [smO34, Act.put, List.setIfInBounds_toArray, List.set_cons_zero, List.set_cons_succ]
  refine Ordd.take (i := 35) (oi := smO35) (v := undef) rfl rfl (by kernel_rfl) (by decide) (by kernel_rfl) (by kernel_rfl) (by kernel_rfl) (by kernel_rfl) (fun _ _ _ h => h) (Or.inr ⟨by rfl, rfl⟩) hHeld ?_
  try simp only [smO35, Act.put, List.setIfInBounds_toArray, List.set_cons_zero, List.set_cons_succ]
  refine Ordd.take (i := 36) (oi := smO36) (v := undef) rfl rfl (by kernel_rfl) (by decide) (by kernel_rfl) (by kernel_rfl) (by kernel_rfl) (by kernel_rfl) (fun _ _ _ h => h) (Or.inr ⟨by rfl, rfl⟩) hHeld ?_
  try simp only [smO36, Act.put, List.setIfInBounds_toArray, List.set_cons_zero, List.set_cons_succ]
  refine Ordd.take (i := 37) (oi := smO37) (v := undef) rfl rfl (by kernel_rfl) (by decide) (by kernel_rfl) (by kernel_rfl) (by kernel_rfl) (by kernel_rfl) (fun _ _ _ h => h) (Or.inr ⟨by rfl, rfl⟩) hHeld ?_
  try simp only [smO37, Act.put, List.setIfInBounds_toArray, List.set_cons_zero, List.set_cons_succ]
  refine Ordd.take (i := 38) (oi := smO38) (v := undef) rfl rfl (by kernel_rfl) (by decide) (by kernel_rfl) (by kernel_rfl) (by kernel_rfl) (by kernel_rfl) (fun _ _ _ h => h) (Or.inr ⟨by rfl, rfl⟩) hHeld ?_
  try simp only [smO38, Act.put, List.setIfInBounds_toArray, List.set_cons_zero, List.set_cons_succ]
  refine Ordd.take (i := 39) (oi := smO39) (v := (.bool false)) rfl rfl (by kernel_rfl) (by decide) (by kernel_rfl) (by kernel_rfl) (by kernel_rfl) (by kernel_rfl) (fun _ _ _ h => h) (Or.inl ⟨by rfl, ?_⟩) hHeld ?_
  · intro wl hSl; clear hSl; (try simp only [smO39]); go_simp
  try simp only [smO39, Act.put, List.setIfInBounds_toArray, List.set_cons_zero, List.set_cons_succ]
  refine Ordd.ready (rs := [40]) (by kernel_rfl) (by simp) ?_
  refine Nowd.cons (o := smO40) rfl (fun K hK => ?_) Nowd.nil
  try simp only [smO40]
  go_simp
  refine hK.out _ _ (.inl (by kernel_rfl)) ?_
  clear hK K
  try simp only [smO40, Act.put, List.setIfInBounds_toArray, List.set_cons_zero, List.set_cons_succ]
  refine Ordd.done (by kernel_rfl) ?_ _
  go_wp2
  go_ret
  exact ⟨rfl, HSw2.out.l⟩
set_option maxRecDepth 100000 in
set_option maxHeartbeats 2000000 in
theorem Same_c1 {w : World} {s s2 : Ad} {m m2 : Mb} (hm : MbV w (fun _ => True) s m) (hm2 : MbV w (fun _ => True) s2 m2) (e0 : (m.id = m2.id ∧ m.n = m2.n ∧ m.term = m2.term ∧ m.vote = m2.vote ∧ m.role = m2.role ∧ m.lead = m2.lead ∧ m.commit = m2.commit ∧ m.clock = m2.clock ∧ m.wait = m2.wait)) (f1 : ¬ (sameM m.b m.bt m.es m2.b m2.bt m2.es = true)) : Calls Try.prog 14 #[mbA s m, mbA s2 m2] w fun e w' => e = .returned (.bool (eqMb m m2)) ∧ Below w.heap.size w w' := by
  have HLs : Hid (∀ wx, Below w.heap.size w wx → Calls Try.prog 38 #[.agg #[.int .i64 m.b, .int .i64 m.bt, .slice s.ea m.es.length s.ec], .agg #[.int .i64 m2.b, .int .i64 m2.bt, .slice s2.ea m2.es.length s2.ec]] wx fun e w' => e = .returned (.bool false) ∧ Below wx.heap.size wx w') := fun wx q => by
    have h := LSame_any m.b m.bt m2.b m2.bt (hm.e.below q) (hm2.e.below q)
    rw [show sameM m.b m.bt m.es m2.b m2.bt m2.es = false by simpa using f1] at h
    exact h
  have HE : Hid (eqMb m m2 = false) := by
    show _ = _
    unfold eqMb
    rw [decide_eq_true e0, show sameM m.b m.bt m.es m2.b m2.bt m2.es = false by simpa using f1]
    rfl
  have q9 : ∀ w, (Op.equalIn 10000 73 (.agg #[.int .i64 m.id, .int .i64 m.n, .int .i64 m.term, .int .i64 m.vote, .int .i64 m.role, .int .i64 m.lead, .int .i64 m.commit, .int .i64 m.clock, .int .i64 m.wait]) (.agg #[.int .i64 m2.id, .int .i64 m2.n, .int .i64 m2.term, .int .i64 m2.vote, .int .i64 m2.role, .int .i64 m2.lead, .int .i64 m2.commit, .int .i64 m2.clock, .int .i64 m2.wait])).run Try.prog w = .ok true w := fun w => by rw [eq9, decide_eq_true e0]
  have g9 := guard9
  rw [HE.out]
  clear hm hm2 HE e0 f1
  unfold mbA
  have HS00 := Sb.first w s m s2 m2
  go_enter Try.func14, Try.ntmps14
  go_upto_region 1 with fail
  refine Ordd.begin_ 40 (fun u => Sb w u s m s2 m2) (by kernel_rfl) ?_
  obtain ⟨w0, hdr⟩ : ∃ q, ((w.alloc (.cells #[.int .i64 m.id, .int .i64 m.n, .int .i64 m.term, .int .i64 m.vote, .int .i64 m.role, .int .i64 m.lead, .int .i64 m.b, .int .i64 m.bt, .slice s.ea m.es.length s.ec, .int .i64 m.commit, .slice s.sa m.snap.length s.sc, .slice s.ga m.granted.length s.gc, .slice s.xa m.next.length s.xc, .slice s.ma m.mtch.length s.mc, .int .i64 m.clock, .int .i64 m.wait] 31)).alloc (.cells #[.int .i64 m2.id, .int .i64 m2.n, .int .i64 m2.term, .int .i64 m2.vote, .int .i64 m2.role, .int .i64 m2.lead, .int .i64 m2.b, .int .i64 m2.bt, .slice s2.ea m2.es.length s2.ec, .int .i64 m2.commit, .slice s2.sa m2.snap.length s2.sc, .slice s2.ga m2.granted.length s2.gc, .slice s2.xa m2.next.length s2.xc, .slice s2.ma m2.mtch.length s2.mc, .int .i64 m2.clock, .int .i64 m2.wait] 31)).drew = q := ⟨_, rfl⟩
  have HSw0 : Hid (Sb w w0 s m s2 m2) := by rw [← hdr]; exact HS00.below (Below.refl _ _).drew
  rw [hdr]
  clear hdr HS00
  have hHeld : (fun u => Sb w u s m s2 m2) w0 := HSw0.out
  refine Ordd.take (i := 0) (oi := smO0) (v := (.agg #[.int .i64 m.id, .int .i64 m.n, .int .i64 m.term, .int .i64 m.vote, .int .i64 m.role, .int .i64 m.lead, .int .i64 m.b, .int .i64 m.bt, .slice s.ea m.es.length s.ec, .int .i64 m.commit, .slice s.sa m.snap.length s.sc, .slice s.ga m.granted.length s.gc, .slice s.xa m.next.length s.xc, .slice s.ma m.mtch.length s.mc, .int .i64 m.clock, .int .i64 m.wait])) rfl rfl (by kernel_rfl) (by decide) (by kernel_rfl) (by kernel_rfl) (by kernel_rfl) (by kernel_rfl) (fun _ _ _ h => h) (Or.inl ⟨by rfl, ?_⟩) hHeld ?_
  · intro wl hSl; have hSm : Sb w wl s m s2 m2 := hSl; clear hSl; have c0 := hSm.p.c0; have c1 := hSm.p.c1; have c2 := hSm.p.c2; have c3 := hSm.p.c3; have c4 := hSm.p.c4; have c5 := hSm.p.c5; have c6 := hSm.p.c6; have c7 := hSm.p.c7; have c8 := hSm.p.c8; have c9 := hSm.p.c9; have c10 := hSm.p.c10; have c11 := hSm.p.c11; have c12 := hSm.p.c12; have c13 := hSm.p.c13; have c14 := hSm.p.c14; have c15 := hSm.p.c15; clear hSm; (try simp only [smO0]); go_simp
  try simp only [smO0, Act.put, List.setIfInBounds_toArray, List.set_cons_zero, List.set_cons_succ]
  refine Ordd.take (i := 2) (oi := smO2) (v := (.agg #[.int .i64 m2.id, .int .i64 m2.n, .int .i64 m2.term, .int .i64 m2.vote, .int .i64 m2.role, .int .i64 m2.lead, .int .i64 m2.b, .int .i64 m2.bt, .slice s2.ea m2.es.length s2.ec, .int .i64 m2.commit, .slice s2.sa m2.snap.length s2.sc, .slice s2.ga m2.granted.length s2.gc, .slice s2.xa m2.next.length s2.xc, .slice s2.ma m2.mtch.length s2.mc, .int .i64 m2.clock, .int .i64 m2.wait])) rfl rfl (by kernel_rfl) (by decide) (by kernel_rfl) (by kernel_rfl) (by kernel_rfl) (by kernel_rfl) (fun _ _ _ h => h) (Or.inl ⟨by rfl, ?_⟩) hHeld ?_
  · intro wl hSl; have hSm : Sb w wl s m s2 m2 := hSl; clear hSl; have c0 := hSm.q.c0; have c1 := hSm.q.c1; have c2 := hSm.q.c2; have c3 := hSm.q.c3; have c4 := hSm.q.c4; have c5 := hSm.q.c5; have c6 := hSm.q.c6; have c7 := hSm.q.c7; have c8 := hSm.q.c8; have c9 := hSm.q.c9; have c10 := hSm.q.c10; have c11 := hSm.q.c11; have c12 := hSm.q.c12; have c13 := hSm.q.c13; have c14 := hSm.q.c14; have c15 := hSm.q.c15; clear hSm; (try simp only [smO2]); go_simp
  try simp only [smO2, Act.put, List.setIfInBounds_toArray, List.set_cons_zero, List.set_cons_succ]
  refine Ordd.ready (rs := [1]) (by kernel_rfl) (by simp) ?_
  refine Nowd.cons (o := smO1) rfl (fun K hK => ?_) Nowd.nil
  try simp only [smO1]
  go_simp
  (go_at_call 37; refine (numbers_any s m _).mono ?_; rintro e w1 ⟨rfl, qB⟩; have HSw1 : Hid (Sb w w1 s m s2 m2) := HSw0.out.below qB; have HD1 : Hid True := trivial; clear qB)
  go_wp2_with fail
  have hHeld2 := HSw1.out
  refine hK.out _ _ (.inr hHeld2) ?_
  clear hK K hHeld
  have hHeld := hHeld2
  clear hHeld2
  try simp only [smO1, Act.put, List.setIfInBounds_toArray, List.set_cons_zero, List.set_cons_succ]
  refine Ordd.ready (rs := [3]) (by kernel_rfl) (by simp) ?_
  refine Nowd.cons (o := smO3) rfl (fun K hK => ?_) Nowd.nil
  try simp only [smO3]
  go_simp
  (go_at_call 37; have := HD1; refine (numbers_any s2 m2 _).mono ?_; rintro e w2 ⟨rfl, qB⟩; have HSw2 : Hid (Sb w w2 s m s2 m2) := HSw1.out.below qB; clear HD1; clear qB)
  go_wp2_with fail
  have hHeld2 := HSw2.out
  refine hK.out _ _ (.inr hHeld2) ?_
  clear hK K hHeld
  have hHeld := hHeld2
  clear hHeld2
  try simp only [smO3, Act.put, List.setIfInBounds_toArray, List.set_cons_zero, List.set_cons_succ]
  refine Ordd.take (i := 4) (oi := smO4) (v := (.bool true)) rfl rfl (by kernel_rfl) (by decide) (by kernel_rfl) (by kernel_rfl) (by kernel_rfl) (by kernel_rfl) (fun _ _ _ h => h) (Or.inl ⟨by rfl, ?_⟩) hHeld ?_
  · intro wl hSl; clear hSl; (try simp only [smO4]); go_simp
  try simp only [smO4, Act.put, List.setIfInBounds_toArray, List.set_cons_zero, List.set_cons_succ]
  refine Ordd.take (i := 5) (oi := smO5) (v := (.bool true)) rfl rfl (by kernel_rfl) (by decide) (by kernel_rfl) (by kernel_rfl) (by kernel_rfl) (by kernel_rfl) (fun _ _ _ h => h) (Or.inl ⟨by rfl, ?_⟩) hHeld ?_
  · intro wl hSl; clear hSl; (try simp only [smO5]); go_simp
  try simp only [smO5, Act.put, List.setIfInBounds_toArray, List.set_cons_zero, List.set_cons_succ]
  refine Ordd.take (i := 6) (oi := smO6) (v := (.pointer (some ⟨w.heap.size, 6, none⟩))) rfl rfl (by kernel_rfl) (by decide) (by kernel_rfl) (by kernel_rfl) (by kernel_rfl) (by kernel_rfl) (fun _ _ _ h => h) (Or.inl ⟨by rfl, ?_⟩) hHeld ?_
  · intro wl hSl; clear hSl; (try simp only [smO6]); go_simp
  try simp only [smO6, Act.put, List.setIfInBounds_toArray, List.set_cons_zero, List.set_cons_succ]
  refine Ordd.take (i := 7) (oi := smO7) (v := (.agg #[.int .i64 m.b, .int .i64 m.bt, .slice s.ea m.es.length s.ec])) rfl rfl (by kernel_rfl) (by decide) (by kernel_rfl) (by kernel_rfl) (by kernel_rfl) (by kernel_rfl) (fun _ _ _ h => h) (Or.inl ⟨by rfl, ?_⟩) hHeld ?_
  · intro wl hSl; have hSm : Sb w wl s m s2 m2 := hSl; clear hSl; have c6 := hSm.p.c6; have c7 := hSm.p.c7; have c8 := hSm.p.c8; clear hSm; (try simp only [smO7]); go_simp
  try simp only [smO7, Act.put, List.setIfInBounds_toArray, List.set_cons_zero, List.set_cons_succ]
  refine Ordd.take (i := 8) (oi := smO8) (v := (.pointer (some ⟨w.heap.size + 1, 6, none⟩))) rfl rfl (by kernel_rfl) (by decide) (by kernel_rfl) (by kernel_rfl) (by kernel_rfl) (by kernel_rfl) (fun _ _ _ h => h) (Or.inl ⟨by rfl, ?_⟩) hHeld ?_
  · intro wl hSl; clear hSl; (try simp only [smO8]); go_simp
  try simp only [smO8, Act.put, List.setIfInBounds_toArray, List.set_cons_zero, List.set_cons_succ]
  refine Ordd.take (i := 9) (oi := smO9) (v := (.agg #[.int .i64 m2.b, .int .i64 m2.bt, .slice s2.ea m2.es.length s2.ec])) rfl rfl (by kernel_rfl) (by decide) (by kernel_rfl) (by kernel_rfl) (by kernel_rfl) (by kernel_rfl) (fun _ _ _ h => h) (Or.inl ⟨by rfl, ?_⟩) hHeld ?_
  · intro wl hSl; have hSm : Sb w wl s m s2 m2 := hSl; clear hSl; have c6 := hSm.q.c6; have c7 := hSm.q.c7; have c8 := hSm.q.c8; clear hSm; (try simp only [smO9]); go_simp
  try simp only [smO9, Act.put, List.setIfInBounds_toArray, List.set_cons_zero, List.set_cons_succ]
  refine Ordd.ready (rs := [10]) (by kernel_rfl) (by simp) ?_
  refine Nowd.cons (o := smO10) rfl (fun K hK => ?_) Nowd.nil
  try simp only [smO10]
  go_simp
  (go_at_call 38; refine (HLs.out _ HSw2.out.l).mono ?_; rintro e w3 ⟨rfl, qB⟩; have HSw3 : Hid (Sb w w3 s m s2 m2) := HSw2.out.below qB; clear qB)
  go_wp2_with fail
  have hHeld2 := HSw3.out
  refine hK.out _ _ (.inr hHeld2) ?_
  clear hK K hHeld
  have hHeld := hHeld2
  clear hHeld2
  try simp only [smO10, Act.put, List.setIfInBounds_toArray, List.set_cons_zero, List.set_cons_succ]
  refine Ordd.take (i := 11) (oi := smO11) (v := (.bool false)) rfl rfl (by kernel_rfl) (by decide) (by kernel_rfl) (by kernel_rfl) (by kernel_rfl) (by kernel_rfl) (fun _ _ _ h => h) (Or.inl ⟨by rfl, ?_⟩) hHeld ?_
  · intro wl hSl; clear hSl; (try simp only [smO11]); go_simp
  try simp only [smO11, Act.put, List.setIfInBounds_toArray, List.set_cons_zero, List.set_cons_succ]
  refine Ordd.take (i := 12) (oi := smO12) (v := (.bool false)) rfl rfl (by kernel_rfl) (by decide) (by kernel_rfl) (by kernel_rfl) (by kernel_rfl) (by kernel_rfl) (fun _ _ _ h => h) (Or.inl ⟨by rfl, ?_⟩) hHeld ?_
  · intro wl hSl; clear hSl; (try simp only [smO12]); go_simp
  try simp only [smO12, Act.put, List.setIfInBounds_toArray, List.set_cons_zero, List.set_cons_succ]
  refine Ordd.take (i := 13) (oi := smO13) (v := undef) rfl rfl (by kernel_rfl) (by decide) (by kernel_rfl) (by kernel_rfl) (by kernel_rfl) (by kernel_rfl) (fun _ _ _ h => h) (Or.inr ⟨by rfl, rfl⟩) hHeld ?_
  try simp only [smO13, Act.put, List.setIfInBounds_toArray, List.set_cons_zero, List.set_cons_succ]
  refine Ordd.take (i := 14) (oi := smO14) (v := undef) rfl rfl (by kernel_rfl) (by decide) (by kernel_rfl) (by kernel_rfl) (by kernel_rfl) (by kernel_rfl) (fun _ _ _ h => h) (Or.inr ⟨by rfl, rfl⟩) hHeld ?_
  try simp only [smO14, Act.put, List.setIfInBounds_toArray, List.set_cons_zero, List.set_cons_succ]
  refine Ordd.take (i := 15) (oi := smO15) (v := undef) rfl rfl (by kernel_rfl) (by decide) (by kernel_rfl) (by kernel_rfl) (by kernel_rfl) (by kernel_rfl) (fun _ _ _ h => h) (Or.inr ⟨by rfl, rfl⟩) hHeld ?_
  try simp only [smO15, Act.put, List.setIfInBounds_toArray, List.set_cons_zero, List.set_cons_succ]
  refine Ordd.take (i := 16) (oi := smO16) (v := undef) rfl rfl (by kernel_rfl) (by decide) (by kernel_rfl) (by kernel_rfl) (by kernel_rfl) (by kernel_rfl) (fun _ _ _ h => h) (Or.inr ⟨by rfl, rfl⟩) hHeld ?_
  try simp only [smO16, Act.put, List.setIfInBounds_toArray, List.set_cons_zero, List.set_cons_succ]
  refine Ordd.take (i := 17) (oi := smO17) (v := undef) rfl rfl (by kernel_rfl) (by decide) (by kernel_rfl) (by kernel_rfl) (by kernel_rfl) (by kernel_rfl) (fun _ _ _ h => h) (Or.inr ⟨by rfl, rfl⟩) hHeld ?_
  try simp only [smO17, Act.put, List.setIfInBounds_toArray, List.set_cons_zero, List.set_cons_succ]
  refine Ordd.take (i := 18) (oi := smO18) (v := (.bool false)) rfl rfl (by kernel_rfl) (by decide) (by kernel_rfl) (by kernel_rfl) (by kernel_rfl) (by kernel_rfl) (fun _ _ _ h => h) (Or.inl ⟨by rfl, ?_⟩) hHeld ?_
  · intro wl hSl; clear hSl; (try simp only [smO18]); go_simp
  try simp only [smO18, Act.put, List.setIfInBounds_toArray, List.set_cons_zero, List.set_cons_succ]
  refine Ordd.take (i := 19) (oi := smO19) (v := (.bool false)) rfl rfl (by kernel_rfl) (by decide) (by kernel_rfl) (by kernel_rfl) (by kernel_rfl) (by kernel_rfl) (fun _ _ _ h => h) (Or.inl ⟨by rfl, ?_⟩) hHeld ?_
  · intro wl hSl; clear hSl; (try simp only [smO19]); go_simp
  try simp only [smO19, Act.put, List.setIfInBounds_toArray, List.set_cons_zero, List.set_cons_succ]
  refine Ordd.take (i := 20) (oi := smO20) (v := undef) rfl rfl (by kernel_rfl) (by decide) (by kernel_rfl) (by kernel_rfl) (by kernel_rfl) (by kernel_rfl) (fun _ _ _ h => h) (Or.inr ⟨by rfl, rfl⟩) hHeld ?_
  try simp only [smO20, Act.put, List.setIfInBounds_toArray, List.set_cons_zero, List.set_cons_succ]
  refine Ordd.take (i := 21) (oi := smO21) (v := undef) rfl rfl (by kernel_rfl) (by decide) (by kernel_rfl) (by kernel_rfl) (by kernel_rfl) (by kernel_rfl) (fun _ _ _ h => h) (Or.inr ⟨by rfl, rfl⟩) hHeld ?_
  try simp only [smO21, Act.put, List.setIfInBounds_toArray, List.set_cons_zero, List.set_cons_succ]
  refine Ordd.take (i := 22) (oi := smO22) (v := undef) rfl rfl (by kernel_rfl) (by decide) (by kernel_rfl) (by kernel_rfl) (by kernel_rfl) (by kernel_rfl) (fun _ _ _ h => h) (Or.inr ⟨by rfl, rfl⟩) hHeld ?_
  try simp only [smO22, Act.put, List.setIfInBounds_toArray, List.set_cons_zero, List.set_cons_succ]
  refine Ordd.take (i := 23) (oi := smO23) (v := undef) rfl rfl (by kernel_rfl) (by decide) (by kernel_rfl) (by kernel_rfl) (by kernel_rfl) (by kernel_rfl) (fun _ _ _ h => h) (Or.inr ⟨by rfl, rfl⟩) hHeld ?_
  try simp only [smO23, Act.put, List.setIfInBounds_toArray, List.set_cons_zero, List.set_cons_succ]
  refine Ordd.take (i := 24) (oi := smO24) (v := undef) rfl rfl (by kernel_rfl) (by decide) (by kernel_rfl) (by kernel_rfl) (by kernel_rfl) (by kernel_rfl) (fun _ _ _ h => h) (Or.inr ⟨by rfl, rfl⟩) hHeld ?_
  try simp only [smO24, Act.put, List.setIfInBounds_toArray, List.set_cons_zero, List.set_cons_succ]
  refine Ordd.take (i := 25) (oi := smO25) (v := (.bool false)) rfl rfl (by kernel_rfl) (by decide) (by kernel_rfl) (by kernel_rfl) (by kernel_rfl) (by kernel_rfl) (fun _ _ _ h => h) (Or.inl ⟨by rfl, ?_⟩) hHeld ?_
  · intro wl hSl; clear hSl; (try simp only [smO25]); go_simp
  try simp only [smO25, Act.put, List.setIfInBounds_toArray, List.set_cons_zero, List.set_cons_succ]
  refine Ordd.take (i := 26) (oi := smO26) (v := (.bool false)) rfl rfl (by kernel_rfl) (by decide) (by kernel_rfl) (by kernel_rfl) (by kernel_rfl) (by kernel_rfl) (fun _ _ _ h => h) (Or.inl ⟨by rfl, ?_⟩) hHeld ?_
  · intro wl hSl; clear hSl; (try simp only [smO26]); go_simp
  try simp only [smO26, Act.put, List.setIfInBounds_toArray, List.set_cons_zero, List.set_cons_succ]
  refine Ordd.take (i := 27) (oi := smO27) (v := undef) rfl rfl (by kernel_rfl) (by decide) (by kernel_rfl) (by kernel_rfl) (by kernel_rfl) (by kernel_rfl) (fun _ _ _ h => h) (Or.inr ⟨by rfl, rfl⟩) hHeld ?_
  try simp only [smO27, Act.put, List.setIfInBounds_toArray, List.set_cons_zero, List.set_cons_succ]
  refine Ordd.take (i := 28) (oi := smO28) (v := undef) rfl rfl (by kernel_rfl) (by decide) (by kernel_rfl) (by kernel_rfl) (by kernel_rfl) (by kernel_rfl) (fun _ _ _ h => h) (Or.inr ⟨by rfl, rfl⟩) hHeld ?_
  try simp only [smO28, Act.put, List.setIfInBounds_toArray, List.set_cons_zero, List.set_cons_succ]
  refine Ordd.take (i := 29) (oi := smO29) (v := undef) rfl rfl (by kernel_rfl) (by decide) (by kernel_rfl) (by kernel_rfl) (by kernel_rfl) (by kernel_rfl) (fun _ _ _ h => h) (Or.inr ⟨by rfl, rfl⟩) hHeld ?_
  try simp only [smO29, Act.put, List.setIfInBounds_toArray, List.set_cons_zero, List.set_cons_succ]
  refine Ordd.take (i := 30) (oi := smO30) (v := undef) rfl rfl (by kernel_rfl) (by decide) (by kernel_rfl) (by kernel_rfl) (by kernel_rfl) (by kernel_rfl) (fun _ _ _ h => h) (Or.inr ⟨by rfl, rfl⟩) hHeld ?_
  try simp only [smO30, Act.put, List.setIfInBounds_toArray, List.set_cons_zero, List.set_cons_succ]
  refine Ordd.take (i := 31) (oi := smO31) (v := undef) rfl rfl (by kernel_rfl) (by decide) (by kernel_rfl) (by kernel_rfl) (by kernel_rfl) (by kernel_rfl) (fun _ _ _ h => h) (Or.inr ⟨by rfl, rfl⟩) hHeld ?_
  try simp only [smO31, Act.put, List.setIfInBounds_toArray, List.set_cons_zero, List.set_cons_succ]
  refine Ordd.take (i := 32) (oi := smO32) (v := (.bool false)) rfl rfl (by kernel_rfl) (by decide) (by kernel_rfl) (by kernel_rfl) (by kernel_rfl) (by kernel_rfl) (fun _ _ _ h => h) (Or.inl ⟨by rfl, ?_⟩) hHeld ?_
  · intro wl hSl; clear hSl; (try simp only [smO32]); go_simp
  try simp only [smO32, Act.put, List.setIfInBounds_toArray, List.set_cons_zero, List.set_cons_succ]
  refine Ordd.take (i := 33) (oi := smO33) (v := (.bool false)) rfl rfl (by kernel_rfl) (by decide) (by kernel_rfl) (by kernel_rfl) (by kernel_rfl) (by kernel_rfl) (fun _ _ _ h => h) (Or.inl ⟨by rfl, ?_⟩) hHeld ?_
  · intro wl hSl; clear hSl; (try simp only [smO33]); go_simp
  try simp only [smO33, Act.put, List.setIfInBounds_toArray, List.set_cons_zero, List.set_cons_succ]
  refine Ordd.take (i := 34) (oi := smO34) (v := undef) rfl rfl (by kernel_rfl) (by decide) (by kernel_rfl) (by kernel_rfl) (by kernel_rfl) (by kernel_rfl) (fun _ _ _ h => h) (Or.inr ⟨by rfl, rfl⟩) hHeld ?_
  try simp only [smO34, Act.put, List.setIfInBounds_toArray, List.set_cons_zero, List.set_cons_succ]
  refine Ordd.take (i := 35) (oi := smO35) (v := undef) rfl rfl (by kernel_rfl) (by decide) (by kernel_rfl) (by kernel_rfl) (by kernel_rfl) (by kernel_rfl) (fun _ _ _ h => h) (Or.inr ⟨by rfl, rfl⟩) hHeld ?_
  try simp only [smO35, Act.put, List.setIfInBounds_toArray, List.set_cons_zero, List.set_cons_succ]
  refine Ordd.take (i := 36) (oi := smO36) (v := undef) rfl rfl (by kernel_rfl) (by decide) (by kernel_rfl) (by kernel_rfl) (by kernel_rfl) (by kernel_rfl) (fun _ _ _ h => h) (Or.inr ⟨by rfl, rfl⟩) hHeld ?_
  try simp only [smO36, Act.put, List.setIfInBounds_toArray, List.set_cons_zero, List.set_cons_succ]
  refine Ordd.take (i := 37) (oi := smO37) (v := undef) rfl rfl (by kernel_rfl) (by decide) (by kernel_rfl) (by kernel_rfl) (by kernel_rfl) (by kernel_rfl) (fun _ _ _ h => h) (Or.inr ⟨by rfl, rfl⟩) hHeld ?_
  try simp only [smO37, Act.put, List.setIfInBounds_toArray, List.set_cons_zero, List.set_cons_succ]
  refine Ordd.take (i := 38) (oi := smO38) (v := undef) rfl rfl (by kernel_rfl) (by decide) (by kernel_rfl) (by kernel_rfl) (by kernel_rfl) (by kernel_rfl) (fun _ _ _ h => h) (Or.inr ⟨by rfl, rfl⟩) hHeld ?_
  try simp only [smO38, Act.put, List.setIfInBounds_toArray, List.set_cons_zero, List.set_cons_succ]
  refine Ordd.take (i := 39) (oi := smO39) (v := (.bool false)) rfl rfl (by kernel_rfl) (by decide) (by kernel_rfl) (by kernel_rfl) (by kernel_rfl) (by kernel_rfl) (fun _ _ _ h => h) (Or.inl ⟨by rfl, ?_⟩) hHeld ?_
  · intro wl hSl; clear hSl; (try simp only [smO39]); go_simp
  try simp only [smO39, Act.put, List.setIfInBounds_toArray, List.set_cons_zero, List.set_cons_succ]
  refine Ordd.ready (rs := [40]) (by kernel_rfl) (by simp) ?_
  refine Nowd.cons (o := smO40) rfl (fun K hK => ?_) Nowd.nil
  try simp only [smO40]
  go_simp
  refine hK.out _ _ (.inl (by kernel_rfl)) ?_
  clear hK K
  try simp only [smO40, Act.put, List.setIfInBounds_toArray, List.set_cons_zero, List.set_cons_succ]
  refine Ordd.done (by kernel_rfl) ?_ _
  go_wp2
  go_ret
  exact ⟨rfl, HSw3.out.l⟩
set_option maxRecDepth 100000 in
set_option maxHeartbeats 2000000 in
theorem Same_c2 {w : World} {s s2 : Ad} {m m2 : Mb} (hm : MbV w (fun _ => True) s m) (hm2 : MbV w (fun _ => True) s2 m2) (e0 : (m.id = m2.id ∧ m.n = m2.n ∧ m.term = m2.term ∧ m.vote = m2.vote ∧ m.role = m2.role ∧ m.lead = m2.lead ∧ m.commit = m2.commit ∧ m.clock = m2.clock ∧ m.wait = m2.wait)) (e1 : (sameM m.b m.bt m.es m2.b m2.bt m2.es = true)) (f2 : ¬ (m.snap = m2.snap)) : Calls Try.prog 14 #[mbA s m, mbA s2 m2] w fun e w' => e = .returned (.bool (eqMb m m2)) ∧ Below w.heap.size w w' := by
  have HLs : Hid (∀ wx, Below w.heap.size w wx → Calls Try.prog 38 #[.agg #[.int .i64 m.b, .int .i64 m.bt, .slice s.ea m.es.length s.ec], .agg #[.int .i64 m2.b, .int .i64 m2.bt, .slice s2.ea m2.es.length s2.ec]] wx fun e w' => e = .returned (.bool true) ∧ Below wx.heap.size wx w') := fun wx q => by
    have h := LSame_any m.b m.bt m2.b m2.bt (hm.e.below q) (hm2.e.below q)
    rw [show sameM m.b m.bt m.es m2.b m2.bt m2.es = true by exact e1] at h
    exact h
  have HBy : Hid (∀ wx, Below w.heap.size w wx → Calls Try.prog 39 #[.slice s.sa m.snap.length s.sc, .slice s2.sa m2.snap.length s2.sc] wx fun e w' => e = .returned (.bool false) ∧ Below wx.heap.size wx w') := fun wx q => by
    have h := Equal_any _ _ m.snap m2.snap wx (hm.sn.below q) (hm2.sn.below q)
    rw [show decide (m.snap = m2.snap) = false by exact decide_eq_false f2] at h
    exact h.mono fun e w' z => ⟨z.1, by rw [z.2]; exact Below.refl _ _⟩
  have HE : Hid (eqMb m m2 = false) := by
    show _ = _
    unfold eqMb
    rw [decide_eq_true e0, e1, decide_eq_false f2]
    rfl
  have q9 : ∀ w, (Op.equalIn 10000 73 (.agg #[.int .i64 m.id, .int .i64 m.n, .int .i64 m.term, .int .i64 m.vote, .int .i64 m.role, .int .i64 m.lead, .int .i64 m.commit, .int .i64 m.clock, .int .i64 m.wait]) (.agg #[.int .i64 m2.id, .int .i64 m2.n, .int .i64 m2.term, .int .i64 m2.vote, .int .i64 m2.role, .int .i64 m2.lead, .int .i64 m2.commit, .int .i64 m2.clock, .int .i64 m2.wait])).run Try.prog w = .ok true w := fun w => by rw [eq9, decide_eq_true e0]
  have g9 := guard9
  rw [HE.out]
  clear hm hm2 HE e0 e1 f2
  unfold mbA
  have HS00 := Sb.first w s m s2 m2
  go_enter Try.func14, Try.ntmps14
  go_upto_region 1 with fail
  refine Ordd.begin_ 40 (fun u => Sb w u s m s2 m2) (by kernel_rfl) ?_
  obtain ⟨w0, hdr⟩ : ∃ q, ((w.alloc (.cells #[.int .i64 m.id, .int .i64 m.n, .int .i64 m.term, .int .i64 m.vote, .int .i64 m.role, .int .i64 m.lead, .int .i64 m.b, .int .i64 m.bt, .slice s.ea m.es.length s.ec, .int .i64 m.commit, .slice s.sa m.snap.length s.sc, .slice s.ga m.granted.length s.gc, .slice s.xa m.next.length s.xc, .slice s.ma m.mtch.length s.mc, .int .i64 m.clock, .int .i64 m.wait] 31)).alloc (.cells #[.int .i64 m2.id, .int .i64 m2.n, .int .i64 m2.term, .int .i64 m2.vote, .int .i64 m2.role, .int .i64 m2.lead, .int .i64 m2.b, .int .i64 m2.bt, .slice s2.ea m2.es.length s2.ec, .int .i64 m2.commit, .slice s2.sa m2.snap.length s2.sc, .slice s2.ga m2.granted.length s2.gc, .slice s2.xa m2.next.length s2.xc, .slice s2.ma m2.mtch.length s2.mc, .int .i64 m2.clock, .int .i64 m2.wait] 31)).drew = q := ⟨_, rfl⟩
  have HSw0 : Hid (Sb w w0 s m s2 m2) := by rw [← hdr]; exact HS00.below (Below.refl _ _).drew
  rw [hdr]
  clear hdr HS00
  have hHeld : (fun u => Sb w u s m s2 m2) w0 := HSw0.out
  refine Ordd.take (i := 0) (oi := smO0) (v := (.agg #[.int .i64 m.id, .int .i64 m.n, .int .i64 m.term, .int .i64 m.vote, .int .i64 m.role, .int .i64 m.lead, .int .i64 m.b, .int .i64 m.bt, .slice s.ea m.es.length s.ec, .int .i64 m.commit, .slice s.sa m.snap.length s.sc, .slice s.ga m.granted.length s.gc, .slice s.xa m.next.length s.xc, .slice s.ma m.mtch.length s.mc, .int .i64 m.clock, .int .i64 m.wait])) rfl rfl (by kernel_rfl) (by decide) (by kernel_rfl) (by kernel_rfl) (by kernel_rfl) (by kernel_rfl) (fun _ _ _ h => h) (Or.inl ⟨by rfl, ?_⟩) hHeld ?_
  · intro wl hSl; have hSm : Sb w wl s m s2 m2 := hSl; clear hSl; have c0 := hSm.p.c0; have c1 := hSm.p.c1; have c2 := hSm.p.c2; have c3 := hSm.p.c3; have c4 := hSm.p.c4; have c5 := hSm.p.c5; have c6 := hSm.p.c6; have c7 := hSm.p.c7; have c8 := hSm.p.c8; have c9 := hSm.p.c9; have c10 := hSm.p.c10; have c11 := hSm.p.c11; have c12 := hSm.p.c12; have c13 := hSm.p.c13; have c14 := hSm.p.c14; have c15 := hSm.p.c15; clear hSm; (try simp only [smO0]); go_simp
  try simp only [smO0, Act.put, List.setIfInBounds_toArray, List.set_cons_zero, List.set_cons_succ]
  refine Ordd.take (i := 2) (oi := smO2) (v := (.agg #[.int .i64 m2.id, .int .i64 m2.n, .int .i64 m2.term, .int .i64 m2.vote, .int .i64 m2.role, .int .i64 m2.lead, .int .i64 m2.b, .int .i64 m2.bt, .slice s2.ea m2.es.length s2.ec, .int .i64 m2.commit, .slice s2.sa m2.snap.length s2.sc, .slice s2.ga m2.granted.length s2.gc, .slice s2.xa m2.next.length s2.xc, .slice s2.ma m2.mtch.length s2.mc, .int .i64 m2.clock, .int .i64 m2.wait])) rfl rfl (by kernel_rfl) (by decide) (by kernel_rfl) (by kernel_rfl) (by kernel_rfl) (by kernel_rfl) (fun _ _ _ h => h) (Or.inl ⟨by rfl, ?_⟩) hHeld ?_
  · intro wl hSl; have hSm : Sb w wl s m s2 m2 := hSl; clear hSl; have c0 := hSm.q.c0; have c1 := hSm.q.c1; have c2 := hSm.q.c2; have c3 := hSm.q.c3; have c4 := hSm.q.c4; have c5 := hSm.q.c5; have c6 := hSm.q.c6; have c7 := hSm.q.c7; have c8 := hSm.q.c8; have c9 := hSm.q.c9; have c10 := hSm.q.c10; have c11 := hSm.q.c11; have c12 := hSm.q.c12; have c13 := hSm.q.c13; have c14 := hSm.q.c14; have c15 := hSm.q.c15; clear hSm; (try simp only [smO2]); go_simp
  try simp only [smO2, Act.put, List.setIfInBounds_toArray, List.set_cons_zero, List.set_cons_succ]
  refine Ordd.ready (rs := [1]) (by kernel_rfl) (by simp) ?_
  refine Nowd.cons (o := smO1) rfl (fun K hK => ?_) Nowd.nil
  try simp only [smO1]
  go_simp
  (go_at_call 37; refine (numbers_any s m _).mono ?_; rintro e w1 ⟨rfl, qB⟩; have HSw1 : Hid (Sb w w1 s m s2 m2) := HSw0.out.below qB; have HD1 : Hid True := trivial; clear qB)
  go_wp2_with fail
  have hHeld2 := HSw1.out
  refine hK.out _ _ (.inr hHeld2) ?_
  clear hK K hHeld
  have hHeld := hHeld2
  clear hHeld2
  try simp only [smO1, Act.put, List.setIfInBounds_toArray, List.set_cons_zero, List.set_cons_succ]
  refine Ordd.ready (rs := [3]) (by kernel_rfl) (by simp) ?_
  refine Nowd.cons (o := smO3) rfl (fun K hK => ?_) Nowd.nil
  try simp only [smO3]
  go_simp
  (go_at_call 37; have := HD1; refine (numbers_any s2 m2 _).mono ?_; rintro e w2 ⟨rfl, qB⟩; have HSw2 : Hid (Sb w w2 s m s2 m2) := HSw1.out.below qB; clear HD1; clear qB)
  go_wp2_with fail
  have hHeld2 := HSw2.out
  refine hK.out _ _ (.inr hHeld2) ?_
  clear hK K hHeld
  have hHeld := hHeld2
  clear hHeld2
  try simp only [smO3, Act.put, List.setIfInBounds_toArray, List.set_cons_zero, List.set_cons_succ]
  refine Ordd.take (i := 4) (oi := smO4) (v := (.bool true)) rfl rfl (by kernel_rfl) (by decide) (by kernel_rfl) (by kernel_rfl) (by kernel_rfl) (by kernel_rfl) (fun _ _ _ h => h) (Or.inl ⟨by rfl, ?_⟩) hHeld ?_
  · intro wl hSl; clear hSl; (try simp only [smO4]); go_simp
  try simp only [smO4, Act.put, List.setIfInBounds_toArray, List.set_cons_zero, List.set_cons_succ]
  refine Ordd.take (i := 5) (oi := smO5) (v := (.bool true)) rfl rfl (by kernel_rfl) (by decide) (by kernel_rfl) (by kernel_rfl) (by kernel_rfl) (by kernel_rfl) (fun _ _ _ h => h) (Or.inl ⟨by rfl, ?_⟩) hHeld ?_
  · intro wl hSl; clear hSl; (try simp only [smO5]); go_simp
  try simp only [smO5, Act.put, List.setIfInBounds_toArray, List.set_cons_zero, List.set_cons_succ]
  refine Ordd.take (i := 6) (oi := smO6) (v := (.pointer (some ⟨w.heap.size, 6, none⟩))) rfl rfl (by kernel_rfl) (by decide) (by kernel_rfl) (by kernel_rfl) (by kernel_rfl) (by kernel_rfl) (fun _ _ _ h => h) (Or.inl ⟨by rfl, ?_⟩) hHeld ?_
  · intro wl hSl; clear hSl; (try simp only [smO6]); go_simp
  try simp only [smO6, Act.put, List.setIfInBounds_toArray, List.set_cons_zero, List.set_cons_succ]
  refine Ordd.take (i := 7) (oi := smO7) (v := (.agg #[.int .i64 m.b, .int .i64 m.bt, .slice s.ea m.es.length s.ec])) rfl rfl (by kernel_rfl) (by decide) (by kernel_rfl) (by kernel_rfl) (by kernel_rfl) (by kernel_rfl) (fun _ _ _ h => h) (Or.inl ⟨by rfl, ?_⟩) hHeld ?_
  · intro wl hSl; have hSm : Sb w wl s m s2 m2 := hSl; clear hSl; have c6 := hSm.p.c6; have c7 := hSm.p.c7; have c8 := hSm.p.c8; clear hSm; (try simp only [smO7]); go_simp
  try simp only [smO7, Act.put, List.setIfInBounds_toArray, List.set_cons_zero, List.set_cons_succ]
  refine Ordd.take (i := 8) (oi := smO8) (v := (.pointer (some ⟨w.heap.size + 1, 6, none⟩))) rfl rfl (by kernel_rfl) (by decide) (by kernel_rfl) (by kernel_rfl) (by kernel_rfl) (by kernel_rfl) (fun _ _ _ h => h) (Or.inl ⟨by rfl, ?_⟩) hHeld ?_
  · intro wl hSl; clear hSl; (try simp only [smO8]); go_simp
  try simp only [smO8, Act.put, List.setIfInBounds_toArray, List.set_cons_zero, List.set_cons_succ]
  refine Ordd.take (i := 9) (oi := smO9) (v := (.agg #[.int .i64 m2.b, .int .i64 m2.bt, .slice s2.ea m2.es.length s2.ec])) rfl rfl (by kernel_rfl) (by decide) (by kernel_rfl) (by kernel_rfl) (by kernel_rfl) (by kernel_rfl) (fun _ _ _ h => h) (Or.inl ⟨by rfl, ?_⟩) hHeld ?_
  · intro wl hSl; have hSm : Sb w wl s m s2 m2 := hSl; clear hSl; have c6 := hSm.q.c6; have c7 := hSm.q.c7; have c8 := hSm.q.c8; clear hSm; (try simp only [smO9]); go_simp
  try simp only [smO9, Act.put, List.setIfInBounds_toArray, List.set_cons_zero, List.set_cons_succ]
  refine Ordd.ready (rs := [10]) (by kernel_rfl) (by simp) ?_
  refine Nowd.cons (o := smO10) rfl (fun K hK => ?_) Nowd.nil
  try simp only [smO10]
  go_simp
  (go_at_call 38; refine (HLs.out _ HSw2.out.l).mono ?_; rintro e w3 ⟨rfl, qB⟩; have HSw3 : Hid (Sb w w3 s m s2 m2) := HSw2.out.below qB; clear qB)
  go_wp2_with fail
  have hHeld2 := HSw3.out
  refine hK.out _ _ (.inr hHeld2) ?_
  clear hK K hHeld
  have hHeld := hHeld2
  clear hHeld2
  try simp only [smO10, Act.put, List.setIfInBounds_toArray, List.set_cons_zero, List.set_cons_succ]
  refine Ordd.take (i := 11) (oi := smO11) (v := (.bool true)) rfl rfl (by kernel_rfl) (by decide) (by kernel_rfl) (by kernel_rfl) (by kernel_rfl) (by kernel_rfl) (fun _ _ _ h => h) (Or.inl ⟨by rfl, ?_⟩) hHeld ?_
  · intro wl hSl; clear hSl; (try simp only [smO11]); go_simp
  try simp only [smO11, Act.put, List.setIfInBounds_toArray, List.set_cons_zero, List.set_cons_succ]
  refine Ordd.take (i := 12) (oi := smO12) (v := (.bool true)) rfl rfl (by kernel_rfl) (by decide) (by kernel_rfl) (by kernel_rfl) (by kernel_rfl) (by kernel_rfl) (fun _ _ _ h => h) (Or.inl ⟨by rfl, ?_⟩) hHeld ?_
  · intro wl hSl; clear hSl; (try simp only [smO12]); go_simp
  try simp only [smO12, Act.put, List.setIfInBounds_toArray, List.set_cons_zero, List.set_cons_succ]
  refine Ordd.take (i := 13) (oi := smO13) (v := (.pointer (some ⟨w.heap.size, 10, none⟩))) rfl rfl (by kernel_rfl) (by decide) (by kernel_rfl) (by kernel_rfl) (by kernel_rfl) (by kernel_rfl) (fun _ _ _ h => h) (Or.inl ⟨by rfl, ?_⟩) hHeld ?_
  · intro wl hSl; clear hSl; (try simp only [smO13]); go_simp
  try simp only [smO13, Act.put, List.setIfInBounds_toArray, List.set_cons_zero, List.set_cons_succ]
  refine Ordd.take (i := 14) (oi := smO14) (v := (.slice s.sa m.snap.length s.sc)) rfl rfl (by kernel_rfl) (by decide) (by kernel_rfl) (by kernel_rfl) (by kernel_rfl) (by kernel_rfl) (fun _ _ _ h => h) (Or.inl ⟨by rfl, ?_⟩) hHeld ?_
  · intro wl hSl; have hSm : Sb w wl s m s2 m2 := hSl; clear hSl; have c10 := hSm.p.c10; clear hSm; (try simp only [smO14]); go_simp
  try simp only [smO14, Act.put, List.setIfInBounds_toArray, List.set_cons_zero, List.set_cons_succ]
  refine Ordd.take (i := 15) (oi := smO15) (v := (.pointer (some ⟨w.heap.size + 1, 10, none⟩))) rfl rfl (by kernel_rfl) (by decide) (by kernel_rfl) (by kernel_rfl) (by kernel_rfl) (by kernel_rfl) (fun _ _ _ h => h) (Or.inl ⟨by rfl, ?_⟩) hHeld ?_
  · intro wl hSl; clear hSl; (try simp only [smO15]); go_simp
  try simp only [smO15, Act.put, List.setIfInBounds_toArray, List.set_cons_zero, List.set_cons_succ]
  refine Ordd.take (i := 16) (oi := smO16) (v := (.slice s2.sa m2.snap.length s2.sc)) rfl rfl (by kernel_rfl) (by decide) (by kernel_rfl) (by kernel_rfl) (by kernel_rfl) (by kernel_rfl) (fun _ _ _ h => h) (Or.inl ⟨by rfl, ?_⟩) hHeld ?_
  · intro wl hSl; have hSm : Sb w wl s m s2 m2 := hSl; clear hSl; have c10 := hSm.q.c10; clear hSm; (try simp only [smO16]); go_simp
  try simp only [smO16, Act.put, List.setIfInBounds_toArray, List.set_cons_zero, List.set_cons_succ]
  refine Ordd.ready (rs := [17]) (by kernel_rfl) (by simp) ?_
  refine Nowd.cons (o := smO17) rfl (fun K hK => ?_) Nowd.nil
  try simp only [smO17]
  go_simp
  (go_at_call 39; refine (HBy.out _ HSw3.out.l).mono ?_; rintro e w4 ⟨rfl, qB⟩; have HSw4 : Hid (Sb w w4 s m s2 m2) := HSw3.out.below qB; clear qB)
  go_wp2_with fail
  have hHeld2 := HSw4.out
  refine hK.out _ _ (.inr hHeld2) ?_
  clear hK K hHeld
  have hHeld := hHeld2
  clear hHeld2
  try simp only [smO17, Act.put, List.setIfInBounds_toArray, List.set_cons_zero, List.set_cons_succ]
  refine Ordd.take (i := 18) (oi := smO18) (v := (.bool false)) rfl rfl (by kernel_rfl) (by decide) (by kernel_rfl) (by kernel_rfl) (by kernel_rfl) (by kernel_rfl) (fun _ _ _ h => h) (Or.inl ⟨by rfl, ?_⟩) hHeld ?_
  · intro wl hSl; clear hSl; (try simp only [smO18]); go_simp
  try simp only [smO18, Act.put, List.setIfInBounds_toArray, List.set_cons_zero, List.set_cons_succ]
  refine Ordd.take (i := 19) (oi := smO19) (v := (.bool false)) rfl rfl (by kernel_rfl) (by decide) (by kernel_rfl) (by kernel_rfl) (by kernel_rfl) (by kernel_rfl) (fun _ _ _ h => h) (Or.inl ⟨by rfl, ?_⟩) hHeld ?_
  · intro wl hSl; clear hSl; (try simp only [smO19]); go_simp
  try simp only [smO19, Act.put, List.setIfInBounds_toArray, List.set_cons_zero, List.set_cons_succ]
  refine Ordd.take (i := 20) (oi := smO20) (v := undef) rfl rfl (by kernel_rfl) (by decide) (by kernel_rfl) (by kernel_rfl) (by kernel_rfl) (by kernel_rfl) (fun _ _ _ h => h) (Or.inr ⟨by rfl, rfl⟩) hHeld ?_
  try simp only [smO20, Act.put, List.setIfInBounds_toArray, List.set_cons_zero, List.set_cons_succ]
  refine Ordd.take (i := 21) (oi := smO21) (v := undef) rfl rfl (by kernel_rfl) (by decide) (by kernel_rfl) (by kernel_rfl) (by kernel_rfl) (by kernel_rfl) (fun _ _ _ h => h) (Or.inr ⟨by rfl, rfl⟩) hHeld ?_
  try simp only [smO21, Act.put, List.setIfInBounds_toArray, List.set_cons_zero, List.set_cons_succ]
  refine Ordd.take (i := 22) (oi := smO22) (v := undef) rfl rfl (by kernel_rfl) (by decide) (by kernel_rfl) (by kernel_rfl) (by kernel_rfl) (by kernel_rfl) (fun _ _ _ h => h) (Or.inr ⟨by rfl, rfl⟩) hHeld ?_
  try simp only [smO22, Act.put, List.setIfInBounds_toArray, List.set_cons_zero, List.set_cons_succ]
  refine Ordd.take (i := 23) (oi := smO23) (v := undef) rfl rfl (by kernel_rfl) (by decide) (by kernel_rfl) (by kernel_rfl) (by kernel_rfl) (by kernel_rfl) (fun _ _ _ h => h) (Or.inr ⟨by rfl, rfl⟩) hHeld ?_
  try simp only [smO23, Act.put, List.setIfInBounds_toArray, List.set_cons_zero, List.set_cons_succ]
  refine Ordd.take (i := 24) (oi := smO24) (v := undef) rfl rfl (by kernel_rfl) (by decide) (by kernel_rfl) (by kernel_rfl) (by kernel_rfl) (by kernel_rfl) (fun _ _ _ h => h) (Or.inr ⟨by rfl, rfl⟩) hHeld ?_
  try simp only [smO24, Act.put, List.setIfInBounds_toArray, List.set_cons_zero, List.set_cons_succ]
  refine Ordd.take (i := 25) (oi := smO25) (v := (.bool false)) rfl rfl (by kernel_rfl) (by decide) (by kernel_rfl) (by kernel_rfl) (by kernel_rfl) (by kernel_rfl) (fun _ _ _ h => h) (Or.inl ⟨by rfl, ?_⟩) hHeld ?_
  · intro wl hSl; clear hSl; (try simp only [smO25]); go_simp
  try simp only [smO25, Act.put, List.setIfInBounds_toArray, List.set_cons_zero, List.set_cons_succ]
  refine Ordd.take (i := 26) (oi := smO26) (v := (.bool false)) rfl rfl (by kernel_rfl) (by decide) (by kernel_rfl) (by kernel_rfl) (by kernel_rfl) (by kernel_rfl) (fun _ _ _ h => h) (Or.inl ⟨by rfl, ?_⟩) hHeld ?_
  · intro wl hSl; clear hSl; (try simp only [smO26]); go_simp
  try simp only [smO26, Act.put, List.setIfInBounds_toArray, List.set_cons_zero, List.set_cons_succ]
  refine Ordd.take (i := 27) (oi := smO27) (v := undef) rfl rfl (by kernel_rfl) (by decide) (by kernel_rfl) (by kernel_rfl) (by kernel_rfl) (by kernel_rfl) (fun _ _ _ h => h) (Or.inr ⟨by rfl, rfl⟩) hHeld ?_
  try simp only [smO27, Act.put, List.setIfInBounds_toArray, List.set_cons_zero, List.set_cons_succ]
  refine Ordd.take (i := 28) (oi := smO28) (v := undef) rfl rfl (by kernel_rfl) (by decide) (by kernel_rfl) (by kernel_rfl) (by kernel_rfl) (by kernel_rfl) (fun _ _ _ h => h) (Or.inr ⟨by rfl, rfl⟩) hHeld ?_
  try simp only [smO28, Act.put, List.setIfInBounds_toArray, List.set_cons_zero, List.set_cons_succ]
  refine Ordd.take (i := 29) (oi := smO29) (v := undef) rfl rfl (by kernel_rfl) (by decide) (by kernel_rfl) (by kernel_rfl) (by kernel_rfl) (by kernel_rfl) (fun _ _ _ h => h) (Or.inr ⟨by rfl, rfl⟩) hHeld ?_
  try simp only [smO29, Act.put, List.setIfInBounds_toArray, List.set_cons_zero, List.set_cons_succ]
  refine Ordd.take (i := 30) (oi := smO30) (v := undef) rfl rfl (by kernel_rfl) (by decide) (by kernel_rfl) (by kernel_rfl) (by kernel_rfl) (by kernel_rfl) (fun _ _ _ h => h) (Or.inr ⟨by rfl, rfl⟩) hHeld ?_
  try simp only [smO30, Act.put, List.setIfInBounds_toArray, List.set_cons_zero, List.set_cons_succ]
  refine Ordd.take (i := 31) (oi := smO31) (v := undef) rfl rfl (by kernel_rfl) (by decide) (by kernel_rfl) (by kernel_rfl) (by kernel_rfl) (by kernel_rfl) (fun _ _ _ h => h) (Or.inr ⟨by rfl, rfl⟩) hHeld ?_
  try simp only [smO31, Act.put, List.setIfInBounds_toArray, List.set_cons_zero, List.set_cons_succ]
  refine Ordd.take (i := 32) (oi := smO32) (v := (.bool false)) rfl rfl (by kernel_rfl) (by decide) (by kernel_rfl) (by kernel_rfl) (by kernel_rfl) (by kernel_rfl) (fun _ _ _ h => h) (Or.inl ⟨by rfl, ?_⟩) hHeld ?_
  · intro wl hSl; clear hSl; (try simp only [smO32]); go_simp
  try simp only [smO32, Act.put, List.setIfInBounds_toArray, List.set_cons_zero, List.set_cons_succ]
  refine Ordd.take (i := 33) (oi := smO33) (v := (.bool false)) rfl rfl (by kernel_rfl) (by decide) (by kernel_rfl) (by kernel_rfl) (by kernel_rfl) (by kernel_rfl) (fun _ _ _ h => h) (Or.inl ⟨by rfl, ?_⟩) hHeld ?_
  · intro wl hSl; clear hSl; (try simp only [smO33]); go_simp
  try simp only [smO33, Act.put, List.setIfInBounds_toArray, List.set_cons_zero, List.set_cons_succ]
  refine Ordd.take (i := 34) (oi := smO34) (v := undef) rfl rfl (by kernel_rfl) (by decide) (by kernel_rfl) (by kernel_rfl) (by kernel_rfl) (by kernel_rfl) (fun _ _ _ h => h) (Or.inr ⟨by rfl, rfl⟩) hHeld ?_
  try simp only [smO34, Act.put, List.setIfInBounds_toArray, List.set_cons_zero, List.set_cons_succ]
  refine Ordd.take (i := 35) (oi := smO35) (v := undef) rfl rfl (by kernel_rfl) (by decide) (by kernel_rfl) (by kernel_rfl) (by kernel_rfl) (by kernel_rfl) (fun _ _ _ h => h) (Or.inr ⟨by rfl, rfl⟩) hHeld ?_
  try simp only [smO35, Act.put, List.setIfInBounds_toArray, List.set_cons_zero, List.set_cons_succ]
  refine Ordd.take (i := 36) (oi := smO36) (v := undef) rfl rfl (by kernel_rfl) (by decide) (by kernel_rfl) (by kernel_rfl) (by kernel_rfl) (by kernel_rfl) (fun _ _ _ h => h) (Or.inr ⟨by rfl, rfl⟩) hHeld ?_
  try simp only [smO36, Act.put, List.setIfInBounds_toArray, List.set_cons_zero, List.set_cons_succ]
  refine Ordd.take (i := 37) (oi := smO37) (v := undef) rfl rfl (by kernel_rfl) (by decide) (by kernel_rfl) (by kernel_rfl) (by kernel_rfl) (by kernel_rfl) (fun _ _ _ h => h) (Or.inr ⟨by rfl, rfl⟩) hHeld ?_
  try simp only [smO37, Act.put, List.setIfInBounds_toArray, List.set_cons_zero, List.set_cons_succ]
  refine Ordd.take (i := 38) (oi := smO38) (v := undef) rfl rfl (by kernel_rfl) (by decide) (by kernel_rfl) (by kernel_rfl) (by kernel_rfl) (by kernel_rfl) (fun _ _ _ h => h) (Or.inr ⟨by rfl, rfl⟩) hHeld ?_
  try simp only [smO38, Act.put, List.setIfInBounds_toArray, List.set_cons_zero, List.set_cons_succ]
  refine Ordd.take (i := 39) (oi := smO39) (v := (.bool false)) rfl rfl (by kernel_rfl) (by decide) (by kernel_rfl) (by kernel_rfl) (by kernel_rfl) (by kernel_rfl) (fun _ _ _ h => h) (Or.inl ⟨by rfl, ?_⟩) hHeld ?_
  · intro wl hSl; clear hSl; (try simp only [smO39]); go_simp
  try simp only [smO39, Act.put, List.setIfInBounds_toArray, List.set_cons_zero, List.set_cons_succ]
  refine Ordd.ready (rs := [40]) (by kernel_rfl) (by simp) ?_
  refine Nowd.cons (o := smO40) rfl (fun K hK => ?_) Nowd.nil
  try simp only [smO40]
  go_simp
  refine hK.out _ _ (.inl (by kernel_rfl)) ?_
  clear hK K
  try simp only [smO40, Act.put, List.setIfInBounds_toArray, List.set_cons_zero, List.set_cons_succ]
  refine Ordd.done (by kernel_rfl) ?_ _
  go_wp2
  go_ret
  exact ⟨rfl, HSw4.out.l⟩
end Go.Proofs.Ytfmfphfckaiejaa
