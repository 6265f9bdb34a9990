/-
  The program's Same: its contract.
-/
import Derived.Test.YtfmfphfckaiejaaJck
import Derived.Test.YtfmfphfckaiejaaJcl
import Derived.Test.YtfmfphfckaiejaaJcm
import Derived.Test.YtfmfphfckaiejaaJci
import Derived.Test.YtfmfphfckaiejaaJcj
import Derived.Test.YtfmfphfckaiejaaJcc
namespace Go.Proofs.Ytfmfphfckaiejaa
section
open Go.RowKit
set_option linter.unusedVariables false
set_option linter.unusedSimpArgs false


theorem MSame_any {w : World} {s s2 : Ad} {m m2 : Mb} (hm : MbV w (fun _ => True) s m) (hm2 : MbV w (fun _ => True) s2 m2) : Calls Try.prog 14 #[mbA s m, mbA s2 m2] w fun e w' => e = .returned (.bool (eqMb m m2)) ∧ Below w.heap.size w w' := by
  by_cases e0 : (m.id = m2.id ∧ m.n = m2.n ∧ m.term = m2.term ∧ m.vote = m2.vote ∧ m.role = m2.role ∧ m.lead = m2.lead ∧ m.commit = m2.commit ∧ m.clock = m2.clock ∧ m.wait = m2.wait)
  · by_cases e1 : (sameM m.b m.bt m.es m2.b m2.bt m2.es = true)
    · by_cases e2 : (m.snap = m2.snap)
      · by_cases e3 : (m.granted = m2.granted)
        · by_cases e4 : (m.next = m2.next)
          · by_cases e5 : (m.mtch = m2.mtch)
            · exact Same_c6 hm hm2 e0 e1 e2 e3 e4 e5
            · exact Same_c5 hm hm2 e0 e1 e2 e3 e4 e5
          · exact Same_c4 hm hm2 e0 e1 e2 e3 e4
        · exact Same_c3 hm hm2 e0 e1 e2 e3
      · exact Same_c2 hm hm2 e0 e1 e2
    · exact Same_c1 hm hm2 e0 e1
  · exact Same_c0 hm hm2  e0
end
section
open Go.RowKit
set_option linter.unusedVariables false
set_option linter.unusedSimpArgs false


set_option maxRecDepth 100000 in
set_option maxHeartbeats 2000000 in
theorem works_any (w : World) : Calls Try.prog 8 #[] w fun e w' => e = .returned (.bool true) ∧ Below w.heap.size w w' := by
  obtain ⟨m0, hm0⟩ : ∃ m, tk 0 = m := ⟨_, rfl⟩
  have HNe : Hid (∀ wx, Calls Try.prog 9 #[.int .i64 1, .int .i64 1] wx fun e w' => ∃ s : Ad, e = .returned (.tuple #[.agg #[.int .i64 m0.id, .int .i64 m0.n, .int .i64 m0.term, .int .i64 m0.vote, .int .i64 m0.role, .int .i64 m0.lead, .int .i64 m0.b, .int .i64 m0.bt, .slice s.ea m0.es.length s.ec, .int .i64 m0.commit, .slice s.sa m0.snap.length s.sc, .slice s.ga m0.granted.length s.gc, .slice s.xa m0.next.length s.xc, .slice s.ma m0.mtch.length s.mc, .int .i64 m0.clock, .int .i64 m0.wait], .int .i64 0]) ∧ MbV w' (fun g => g < w'.heap.size) s m0 ∧ Below wx.heap.size wx w') := fun wx => by
    refine (New_any 1 1 wx).mono fun e w' ⟨s', q1, q2, q3⟩ => ⟨s', ?_, ?_, q3⟩
    · rw [q1, tk_0, hm0]; rfl
    · rw [tk_0, hm0] at q2
      exact q2.sub fun g _ h => h
  have HN2 : Hid (∀ wx, Calls Try.prog 9 #[.int .i64 1, .int .i64 8] wx fun e w' => ∃ (s : Ad) (m : Mb), e = .returned (.tuple #[.agg #[.int .i64 m.id, .int .i64 m.n, .int .i64 m.term, .int .i64 m.vote, .int .i64 m.role, .int .i64 m.lead, .int .i64 m.b, .int .i64 m.bt, .slice s.ea m.es.length s.ec, .int .i64 m.commit, .slice s.sa m.snap.length s.sc, .slice s.ga m.granted.length s.gc, .slice s.xa m.next.length s.xc, .slice s.ma m.mtch.length s.mc, .int .i64 m.clock, .int .i64 m.wait], .int .i64 2]) ∧ Below wx.heap.size wx w') := fun wx => by
    refine (New_any 1 8 wx).mono fun e w' ⟨s', q1, q2, q3⟩ => ⟨s', zMb, ?_, q3⟩
    rw [q1, new_18]; rfl
  have HTi : Hid (∀ k : Nat, k < 20 → ∀ wx p s, p < wx.heap.size → MbV wx (fun g => g ≠ p) s (tk k) → Calls Try.prog 22 #[mbA s (tk k), .int .i64 3] wx (TkQ p (tickM (tk k) 3) wx)) := fun k hk wx p s hp hm => by
    have h := tk_k k
    have wf := h.1.wf (by omega)
    exact TickP_any hp hm h.1 h.2 wf.1 3 ⟨by decide, by decide⟩ wf.2
  obtain ⟨mp, hmp⟩ : ∃ m, mA = m := ⟨_, rfl⟩
  obtain ⟨m, hm⟩ : ∃ m, mB_ = m := ⟨_, rfl⟩
  obtain ⟨mc, hmc⟩ : ∃ m, mC_ = m := ⟨_, rfl⟩
  have HLa : Hid (tk 20 = mp) := tk_20.trans hmp
  have kA : WfK 60 mp ∧ WfZ mp := by rw [← hmp, ← tk_20]; exact tk_k 20
  have kB : WfK 61 m ∧ WfZ m := by
    have a := (propose_k kA.1 [7#8] (by decide)).1
    have b := (propose_z kA.1 kA.2 [7#8]).1
    rw [← hmp, prop_A] at a b
    rw [← hm]
    exact ⟨a, b⟩
  have HPr : Hid (∀ p wx s, p < wx.heap.size → MbV wx (fun g => g ≠ p) s mp → Calls Try.prog 23 #[.agg #[.int .i64 mp.id, .int .i64 mp.n, .int .i64 mp.term, .int .i64 mp.vote, .int .i64 mp.role, .int .i64 mp.lead, .int .i64 mp.b, .int .i64 mp.bt, .slice s.ea mp.es.length s.ec, .int .i64 mp.commit, .slice s.sa mp.snap.length s.sc, .slice s.ga mp.granted.length s.gc, .slice s.xa mp.next.length s.xc, .slice s.ma mp.mtch.length s.mc, .int .i64 mp.clock, .int .i64 mp.wait], .slice (some ⟨wx.heap.size, 0, none⟩) 1 1] (wx.alloc (.cells #[.int .u8 7] 5)) fun e w' => ∃ (s2 : Ad) (a : Option Addr) (n c : Nat), e = .returned (.tuple #[.agg #[.int .i64 m.id, .int .i64 m.n, .int .i64 m.term, .int .i64 m.vote, .int .i64 m.role, .int .i64 m.lead, .int .i64 m.b, .int .i64 m.bt, .slice s2.ea m.es.length s2.ec, .int .i64 m.commit, .slice s2.sa m.snap.length s2.sc, .slice s2.ga m.granted.length s2.gc, .slice s2.xa m.next.length s2.xc, .slice s2.ma m.mtch.length s2.mc, .int .i64 m.clock, .int .i64 m.wait], .int .i64 2, .slice a n c, .int .i64 0]) ∧ MbV w' (fun g => g ≠ p) s2 m ∧ Below wx.heap.size wx w') := fun p wx s hp h => by
    have wf := kA.1.wf (by decide)
    have hr : mp.role = 3 := by rw [← hmp]; rfl
    refine (ProposeP_yes (by rw [size_alloc]; omega) (h.below ((Below.refl _ _).alloc (Nat.le_refl _) _)) kA.1 kA.2 wf.1 (some ⟨wx.heap.size, 0, none⟩) 1 [7#8] (byte_row wx 7 (by decide)) (by decide) wf.2 hr).mono fun e w' ⟨s2, a, c, q1, q2, q3, q4⟩ => ⟨s2, a, (proposeM mp [7#8]).2.2.1.length, c, ?_, ?_, ((Below.refl _ _).alloc (Nat.le_refl _) _).trans (q4.mono (le_alloc _ _))⟩
    · rw [q1, ← hmp, prop_A, hm]; rfl
    · rw [← hmp, prop_A, hm] at q2; exact q2
  have HCo : Hid (∀ p wx s, MbV wx (fun g => g ≠ p) s m → Calls Try.prog 24 #[.agg #[.int .i64 m.id, .int .i64 m.n, .int .i64 m.term, .int .i64 m.vote, .int .i64 m.role, .int .i64 m.lead, .int .i64 m.b, .int .i64 m.bt, .slice s.ea m.es.length s.ec, .int .i64 m.commit, .slice s.sa m.snap.length s.sc, .slice s.ga m.granted.length s.gc, .slice s.xa m.next.length s.xc, .slice s.ma m.mtch.length s.mc, .int .i64 m.clock, .int .i64 m.wait], .int .i64 2, .slice (some ⟨wx.heap.size, 0, none⟩) 1 1] (wx.alloc (.cells #[.int .u8 1] 5)) fun e w' => ∃ s2 : Ad, e = .returned (.tuple #[.agg #[.int .i64 mc.id, .int .i64 mc.n, .int .i64 mc.term, .int .i64 mc.vote, .int .i64 mc.role, .int .i64 mc.lead, .int .i64 mc.b, .int .i64 mc.bt, .slice s2.ea mc.es.length s2.ec, .int .i64 mc.commit, .slice s2.sa mc.snap.length s2.sc, .slice s2.ga mc.granted.length s2.gc, .slice s2.xa mc.next.length s2.xc, .slice s2.ma mc.mtch.length s2.mc, .int .i64 mc.clock, .int .i64 mc.wait], .int .i64 0]) ∧ MbV w' (fun _ => True) s2 mc ∧ Below wx.heap.size wx w') := fun p wx s h => by
    have wf := kB.1.wf (by decide)
    refine (Compact_r ((h.sub fun _ _ _ => trivial).below ((Below.refl _ _).alloc (Nat.le_refl _) _)) wf.1 2 ⟨by decide, by decide⟩ (some ⟨wx.heap.size, 0, none⟩) 1 [1#8] (byte_row wx 1 (by decide)) (by decide)).mono fun e w' ⟨s2, q1, q2, q3⟩ => ⟨s2, ?_, ?_, ((Below.refl _ _).alloc (Nat.le_refl _) _).trans (q3.mono (le_alloc _ _))⟩
    · rw [q1, ← hm, comp_B, hmc]; rfl
    · rw [← hm, comp_B, hmc] at q2; exact q2
  have h1 : (m.role == 3) = true := by rw [← hm]; rfl
  have h2 : (m.term == 1) = true := by rw [← hm]; rfl
  have h3 : (m.commit == 2) = true := by rw [← hm]; rfl
  have h4 : (mc.b == 2) = true := by rw [← hmc]; rfl
  have wfB := kB.1.wf (by decide)
  have HCy : Hid (∀ p wx s, MbV wx (fun g => g ≠ p) s m → Calls Try.prog 25 #[.agg #[.int .i64 m.id, .int .i64 m.n, .int .i64 m.term, .int .i64 m.vote, .int .i64 m.role, .int .i64 m.lead, .int .i64 m.b, .int .i64 m.bt, .slice s.ea m.es.length s.ec, .int .i64 m.commit, .slice s.sa m.snap.length s.sc, .slice s.ga m.granted.length s.gc, .slice s.xa m.next.length s.xc, .slice s.ma m.mtch.length s.mc, .int .i64 m.clock, .int .i64 m.wait]] wx fun e w' => ∃ s' : Ad, e = .returned (.agg #[.int .i64 m.id, .int .i64 m.n, .int .i64 m.term, .int .i64 m.vote, .int .i64 m.role, .int .i64 m.lead, .int .i64 m.b, .int .i64 m.bt, .slice s'.ea m.es.length s'.ec, .int .i64 m.commit, .slice s'.sa m.snap.length s'.sc, .slice s'.ga m.granted.length s'.gc, .slice s'.xa m.next.length s'.xc, .slice s'.ma m.mtch.length s'.mc, .int .i64 m.clock, .int .i64 m.wait]) ∧ MbV w' (fun _ => True) s' m ∧ Below wx.heap.size wx w') := fun p wx s h => MCopy_any (h.sub fun _ _ _ => trivial) wfB.1.es (Nat.le_trans wfB.1.sn (by decide)) (Nat.le_trans wfB.1.g2 (by decide)) (Nat.le_trans wfB.1.x2 (by decide)) (Nat.le_trans wfB.1.m2 (by decide))
  have HSa : Hid (∀ p wx s s', MbV wx (fun g => g ≠ p) s m → MbV wx (fun _ => True) s' m → Calls Try.prog 14 #[.agg #[.int .i64 m.id, .int .i64 m.n, .int .i64 m.term, .int .i64 m.vote, .int .i64 m.role, .int .i64 m.lead, .int .i64 m.b, .int .i64 m.bt, .slice s.ea m.es.length s.ec, .int .i64 m.commit, .slice s.sa m.snap.length s.sc, .slice s.ga m.granted.length s.gc, .slice s.xa m.next.length s.xc, .slice s.ma m.mtch.length s.mc, .int .i64 m.clock, .int .i64 m.wait], .agg #[.int .i64 m.id, .int .i64 m.n, .int .i64 m.term, .int .i64 m.vote, .int .i64 m.role, .int .i64 m.lead, .int .i64 m.b, .int .i64 m.bt, .slice s'.ea m.es.length s'.ec, .int .i64 m.commit, .slice s'.sa m.snap.length s'.sc, .slice s'.ga m.granted.length s'.gc, .slice s'.xa m.next.length s'.xc, .slice s'.ma m.mtch.length s'.mc, .int .i64 m.clock, .int .i64 m.wait]] wx fun e w' => e = .returned (.bool true) ∧ Below wx.heap.size wx w') := fun p wx s s' h h' => by
    have := MSame_any (h.sub fun _ _ _ => trivial) h'
    rw [eqMb_self] at this
    exact this
  have HSb : Hid (∀ p wx s s', MbV wx (fun g => g ≠ p) s m → MbV wx (fun _ => True) s' mc → Calls Try.prog 14 #[.agg #[.int .i64 m.id, .int .i64 m.n, .int .i64 m.term, .int .i64 m.vote, .int .i64 m.role, .int .i64 m.lead, .int .i64 m.b, .int .i64 m.bt, .slice s.ea m.es.length s.ec, .int .i64 m.commit, .slice s.sa m.snap.length s.sc, .slice s.ga m.granted.length s.gc, .slice s.xa m.next.length s.xc, .slice s.ma m.mtch.length s.mc, .int .i64 m.clock, .int .i64 m.wait], .agg #[.int .i64 mc.id, .int .i64 mc.n, .int .i64 mc.term, .int .i64 mc.vote, .int .i64 mc.role, .int .i64 mc.lead, .int .i64 mc.b, .int .i64 mc.bt, .slice s'.ea mc.es.length s'.ec, .int .i64 mc.commit, .slice s'.sa mc.snap.length s'.sc, .slice s'.ga mc.granted.length s'.gc, .slice s'.xa mc.next.length s'.xc, .slice s'.ma mc.mtch.length s'.mc, .int .i64 mc.clock, .int .i64 mc.wait]] wx fun e w' => e = .returned (.bool false) ∧ Below wx.heap.size wx w') := fun p wx s s' h h' => by
    have := MSame_any (h.sub fun _ _ _ => trivial) h'
    rw [← hm, ← hmc, eq_BC, hm, hmc] at this
    exact this
  have HM0 : Hid (m0 = tk 0) := hm0.symm
  clear hm0 hmp hm hmc kA kB wfB
  go_enter Try.func8, Try.ntmps8
  go_upto_region 2 with (go_at_call 9; refine (HNe.out _).mono ?_; rintro e w1 ⟨s0, rfl, q1, q2⟩; have H1 : Hid (Below w.heap.size w w1 ∧ MbV w1 (fun g => g < w1.heap.size) s0 m0) := ⟨q2, q1⟩; clear q1 q2)
  have HA : Hid (Ws w (w1.alloc (.cells #[.int .i64 m0.id, .int .i64 m0.n, .int .i64 m0.term, .int .i64 m0.vote, .int .i64 m0.role, .int .i64 m0.lead, .int .i64 m0.b, .int .i64 m0.bt, .slice s0.ea m0.es.length s0.ec, .int .i64 m0.commit, .slice s0.sa m0.snap.length s0.sc, .slice s0.ga m0.granted.length s0.gc, .slice s0.xa m0.next.length s0.xc, .slice s0.ma m0.mtch.length s0.mc, .int .i64 m0.clock, .int .i64 m0.wait] 31)) w1.heap.size s0 m0) := Ws.first H1.out.1 H1.out.2
  obtain ⟨wa, hwa⟩ : ∃ q, (w1.alloc (.cells #[.int .i64 m0.id, .int .i64 m0.n, .int .i64 m0.term, .int .i64 m0.vote, .int .i64 m0.role, .int .i64 m0.lead, .int .i64 m0.b, .int .i64 m0.bt, .slice s0.ea m0.es.length s0.ec, .int .i64 m0.commit, .slice s0.sa m0.snap.length s0.sc, .slice s0.ga m0.granted.length s0.gc, .slice s0.xa m0.next.length s0.xc, .slice s0.ma m0.mtch.length s0.mc, .int .i64 m0.clock, .int .i64 m0.wait] 31)) = q := ⟨_, rfl⟩
  rw [hwa] at HA ⊢
  clear hwa H1
  generalize w1.heap.size = p at *
  go_upto_region 6 with (go_at_call 9; refine (HN2.out _).mono ?_; rintro e w2 ⟨s2, m2, rfl, q⟩; have HB : Hid (Below wa.heap.size wa w2) := q; clear q)
  have HS0 : Hid (Ws w (w2.alloc (.cells #[.int .i64 m2.id, .int .i64 m2.n, .int .i64 m2.term, .int .i64 m2.vote, .int .i64 m2.role, .int .i64 m2.lead, .int .i64 m2.b, .int .i64 m2.bt, .slice s2.ea m2.es.length s2.ec, .int .i64 m2.commit, .slice s2.sa m2.snap.length s2.sc, .slice s2.ga m2.granted.length s2.gc, .slice s2.xa m2.next.length s2.xc, .slice s2.ma m2.mtch.length s2.mc, .int .i64 m2.clock, .int .i64 m2.wait] 31)) p s0 (tk 0)) := by rw [← HM0.out]; exact (HA.out.below HB.out).below ((Below.refl _ _).alloc (Nat.le_refl _) _)
  obtain ⟨wb, hwb⟩ : ∃ q, (w2.alloc (.cells #[.int .i64 m2.id, .int .i64 m2.n, .int .i64 m2.term, .int .i64 m2.vote, .int .i64 m2.role, .int .i64 m2.lead, .int .i64 m2.b, .int .i64 m2.bt, .slice s2.ea m2.es.length s2.ec, .int .i64 m2.commit, .slice s2.sa m2.snap.length s2.sc, .slice s2.ga m2.granted.length s2.gc, .slice s2.xa m2.next.length s2.xc, .slice s2.ma m2.mtch.length s2.mc, .int .i64 m2.clock, .int .i64 m2.wait] 31)) = q := ⟨_, rfl⟩
  rw [hwb] at HS0 ⊢
  clear hwb HA HB HM0 HNe HN2
  generalize w2.heap.size = p3 at *
  go_loopw [5] (fun x wr => ∃ (k : Nat) (s : Ad), k ≤ 20 ∧ x = .int .i64 (k : Int) ∧ Hid (Ws w wr p s (tk k))) (fun x _ => 20 - (intOf x).toNat)
  case atStart => exact ⟨0, s0, by omega, rfl, HS0⟩
  case round =>
    clear HS0
    obtain ⟨k, s, hk, rfl, HR⟩ := hrel
    have hpr : p < wr.heap.size := HR.out.c.lt
    by_cases hlt : k < 20
    · have hk2 : ((k : Nat) : Int) < 20 := by omega
      have hwk : IntKind.i64.wrap ((k : Int) + 1) = (k : Int) + 1 := by rw [IntKind.wrap_i64]; omega
      have HT := HTi.out k hlt
      obtain ⟨mk, hmk⟩ : ∃ m, tk k = m := ⟨_, rfl⟩
      obtain ⟨mn, hmn⟩ : ∃ m, tk (k + 1) = m := ⟨_, rfl⟩
      have hmn2 : (tickM mk 3).1 = mn := by rw [← hmk]; exact hmn
      have HTk : Hid (∀ wx s, p < wx.heap.size → MbV wx (fun g => g ≠ p) s mk → Calls Try.prog 22 #[.agg #[.int .i64 mk.id, .int .i64 mk.n, .int .i64 mk.term, .int .i64 mk.vote, .int .i64 mk.role, .int .i64 mk.lead, .int .i64 mk.b, .int .i64 mk.bt, .slice s.ea mk.es.length s.ec, .int .i64 mk.commit, .slice s.sa mk.snap.length s.sc, .slice s.ga mk.granted.length s.gc, .slice s.xa mk.next.length s.xc, .slice s.ma mk.mtch.length s.mc, .int .i64 mk.clock, .int .i64 mk.wait], .int .i64 3] wx fun e w' => ∃ (s2 : Ad) (a : Option Addr) (n c : Nat), e = .returned (.tuple #[.agg #[.int .i64 mn.id, .int .i64 mn.n, .int .i64 mn.term, .int .i64 mn.vote, .int .i64 mn.role, .int .i64 mn.lead, .int .i64 mn.b, .int .i64 mn.bt, .slice s2.ea mn.es.length s2.ec, .int .i64 mn.commit, .slice s2.sa mn.snap.length s2.sc, .slice s2.ga mn.granted.length s2.gc, .slice s2.xa mn.next.length s2.xc, .slice s2.ma mn.mtch.length s2.mc, .int .i64 mn.clock, .int .i64 mn.wait], .slice a n c]) ∧ MbV w' (fun g => g ≠ p) s2 mn ∧ Below wx.heap.size wx w') := fun wx s q1 q2 => by
        have h := HT wx p s q1 (by rw [hmk]; exact q2)
        rw [hmk] at h
        refine h.mono fun e w' ⟨s2, a, c, z1, z2, z3, z4⟩ => ⟨s2, a, (tickM mk 3).2.length, c, ?_, ?_, z4⟩
        · rw [z1, hmn2]; rfl
        · rw [hmn2] at z2; exact z2
      have HR2 : Hid (Ws w wr p s mk) := by rw [← hmk]; exact HR.out
      have HNx : Hid (mn = tk (k + 1)) := hmn.symm
      clear HR HT hmk hmn hmn2 HTi HPr HCo HCy HSa HSb h1 h2 h3 h4 HLa
      go_upto_region 8 with fail
      refine wk8 HR2 HTk _ _ _ _ _ _ _ _ _ _ _ _ _ _ _ _ _ _ _ _ _ _ _ _ _ _ _ _ _ _ _ _ _ _ _ _ _ _ _ _ _ _ _ _ _ _ _ _ _ _ _ _ _ _ _ _ _ _ _ _ _ _ _ _ _ _ _ _ _ _ _ _ _ _ _ _ _ _ _ _ _ _ _ _ _ _ _ _ _ _ ?_
      show ∀ wz s2 x29 x30 x31 x32 x33, _
      intro wz s2 x29 x30 x31 x32 x33 hF
      have HF : Hid (Ws w wz p s2 mn) := hF
      clear hF
      go_wp2
      go_roundw
      case rel => exact ⟨k + 1, s2, by omega, by go_num, by rw [← HNx.out]; exact HF⟩
      case measure => simp [intOf]; omega
    · obtain rfl : k = 20 := by omega
      have HR2 : Hid (Ws w wr p s mp) := by rw [← HLa.out]; exact HR.out
      clear HR HTi HLa
      go_upto_region 9 with fail
      refine wk9 HR2 (HPr.out p) _ _ _ _ _ _ _ _ _ _ _ _ _ _ _ _ _ _ _ _ _ _ _ _ _ _ _ _ _ _ _ _ _ _ _ _ _ _ _ _ _ _ _ _ _ _ _ _ _ _ _ _ _ _ _ _ _ _ _ _ _ _ _ _ _ _ _ _ _ _ _ _ _ _ _ _ _ _ _ _ _ _ _ _ _ _ _ _ _ _ ?_
      show ∀ wz s2 x7 x34 x35 x36 x37 x38 x39 x40 x41, _
      intro w7 s6 x7 x34 x35 x36 x37 x38 x39 x40 x41 hF
      have H7 : Hid (Ws w w7 p s6 m) := hF
      clear hF
      go_upto_region 10 with fail
      refine wk10 H7 (HCo.out p) _ _ _ _ _ _ _ _ _ _ _ _ _ _ _ _ _ _ _ _ _ _ _ _ _ _ _ _ _ _ _ _ _ _ _ _ _ _ _ _ _ _ _ _ _ _ _ _ _ _ _ _ _ _ _ _ _ _ _ _ _ _ _ _ _ _ _ _ _ _ _ _ _ _ _ _ _ _ _ _ _ _ _ _ _ _ _ _ _ _ ?_
      show ∀ wz p9 s2 x42 x43 x44 x45 x46 x47, _
      intro w8 p9 s8 x42 x43 x44 x45 x46 x47 q1 q2 q3
      have H9 : Hid (Ws w w8 p s6 m ∧ Cl16 w8 p9 (.int .i64 mc.id) (.int .i64 mc.n) (.int .i64 mc.term) (.int .i64 mc.vote) (.int .i64 mc.role) (.int .i64 mc.lead) (.int .i64 mc.b) (.int .i64 mc.bt) (.slice s8.ea mc.es.length s8.ec) (.int .i64 mc.commit) (.slice s8.sa mc.snap.length s8.sc) (.slice s8.ga mc.granted.length s8.gc) (.slice s8.xa mc.next.length s8.xc) (.slice s8.ma mc.mtch.length s8.mc) (.int .i64 mc.clock) (.int .i64 mc.wait) ∧ MbV w8 (fun _ => True) s8 mc) := ⟨q1, q2, q3⟩
      clear q1 q2 q3
      go_upto_region 11 with fail
      refine wkTail H9 h1 h2 h3 h4 (HCy.out p) (HSa.out p) (HSb.out p) (fun _ _ d _ _ h => by cases d <;> exact h) _ _ _ _ _ _ _ _ _ _ _ _ _ _ _ _ _ _ _ _ _ _ _ _ _ _ _ _ _ _ _ _ _ _ _ _ _ _ _ _ _ _ _ ?_
      show ∀ tm wz, _
      intro tm wz z1 z2
      go_wp2
      exact bodyPost_ret (v := .bool true) (by simpa [results, Try.results8] using z1) rfl ⟨rfl, z2⟩
end
end Go.Proofs.Ytfmfphfckaiejaa
