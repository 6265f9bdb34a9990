/-
  The document's Scan: a contract.
-/
import Derived.Test.YtccccclnfimcoaaScan2
import Derived.Test.YtccccclnfimcoaaOne
import Derived.Deep.RegionHeld3
namespace Go.Proofs.Ytccccclnfimcoaa
open Go.RowKit Crc
set_option linter.unusedVariables false

theorem nth_drop (l : Row) (k j : Nat) : nth (l.drop k) j = nth l (k + j) := by simp [nth, List.getD]
theorem wd_take (l : Row) (k : Nat) (h : k + 8 ≤ l.length) : ((wd ((l.drop k).take 4)).toNat : Int) = B (nth l k) + 256 * B (nth l (k + 1)) + 65536 * B (nth l (k + 2)) + 16777216 * B (nth l (k + 3)) := by
  have e : ∀ j, j < 4 → nth ((l.drop k).take 4) j = nth l (k + j) := fun j hj => by
    rw [← nth_drop]
    simp [nth, List.getD, hj]
  unfold wd
  rw [e 0 (by omega), e 1 (by omega), e 2 (by omega), e 3 (by omega), word_nat, Nat.add_zero]
  unfold B
  omega
theorem no_long {l : Row} {N : Nat} (h8 : 8 ≤ l.length) (hN : (wd (l.take 4)).toNat = N) (h : l.length - 8 < N) : NoFirst l := fun r hr => by
  obtain ⟨e1, e2, _⟩ := (first_iff h8).1 hr
  rw [hN] at e1
  rw [List.length_drop] at e2
  omega
theorem no_other {l : Row} {N : Nat} (h8 : 8 ≤ l.length) (hN : (wd (l.take 4)).toNat = N) (h : ¬ recd ((l.drop 8).take N) <+: l) : NoFirst l := fun r hr => by
  obtain ⟨e1, _, e3, _⟩ := (first_iff h8).1 hr
  rw [hN] at e1
  rw [e1] at e3
  obtain ⟨_, t, e⟩ := hr
  apply h
  rw [← e3, e]
  exact List.prefix_append _ _
theorem yes_this {l : Row} {N : Nat} (hN : N < 4294967296) (h : recd ((l.drop 8).take N) <+: l) : First l ((l.drop 8).take N) := by
  obtain ⟨t, e⟩ := h
  exact ⟨by simp; omega, t, e.symm⟩

set_option maxRecDepth 100000 in
set_option maxHeartbeats 2000000 in
theorem rscan_walk (b off n c : Nat) (l : Row) (w : World) (HR : Hid (ReadsV w (.slice (some ⟨b, off, none⟩) n c) l)) (HL : Hid (l.length = n)) (hn : n ≤ 900) (hnc : n ≤ c) (hcm : c ≤ 9223372036854775807) (hp : 0 < n) :
    Calls Try.prog 14 #[.slice (some ⟨b, off, none⟩) n c] w fun e w' => ScanEnd w w' l e := by
  obtain ⟨i22, hi22, z22, s22, b22⟩ := info_parts info22
  have HI : Hid (Try.prog.info? 22 = some i22 ∧ i22.zero = some (.slice none 0 0) ∧ i22.size = 1 ∧ i22.bytes = 24) := ⟨hi22, z22, s22, b22⟩
  clear hi22 z22 s22 b22
  go_enter Try.func14, Try.ntmps14
  go_wp2
  go_loopw [4, 5] (fun v i wr => ∃ k : Nat, k ≤ n ∧ i = .int .i64 k ∧ Hid (ScanI w wr l v k)) (fun _ i _ => n - (intOf i).toNat)
  case atStart => exact ⟨0, Nat.zero_le _, rfl, ScanI.start w l⟩
  case round =>
    obtain ⟨k, hk, rfl, HK⟩ := hrel
    by_cases h8 : k + 8 ≤ n
    · have HL8 : Hid (8 ≤ (l.drop k).length) := by show 8 ≤ (l.drop k).length; rw [List.length_drop, HL.out]; omega
      obtain ⟨N, hN⟩ : ∃ N, (wd ((l.drop k).take 4)).toNat = N := ⟨_, rfl⟩
      have HN : Hid ((wd ((l.drop k).take 4)).toNat = N) := hN
      have hN32 : N < 4294967296 := by rw [← hN]; exact (wd ((l.drop k).take 4)).isLt
      have hval := wd_take l k (by rw [HL.out]; exact h8)
      rw [hN] at hval
      have hval2 := hval.symm
      clear hN hval
      obtain ⟨b', off', e1, hb, hc⟩ := cells_of (HR.out.below HK.out.1) hp
      cases e1
      have c0 := hc k (by omega)
      have c1 := hc (k + 1) (by omega)
      have c2 := hc (k + 2) (by omega)
      have c3 := hc (k + 3) (by omega)
      clear hc
      obtain ⟨l0, u0⟩ := B_range (nth l k)
      obtain ⟨l1, u1⟩ := B_range (nth l (k + 1))
      obtain ⟨l2, u2⟩ := B_range (nth l (k + 2))
      obtain ⟨l3, u3⟩ := B_range (nth l (k + 3))
      have i0 : (k : Int) < (n : Int) := by omega
      have i1 : (k : Int) + 1 < (n : Int) := by omega
      have i2 : (k : Int) + 2 < (n : Int) := by omega
      have i3 : (k : Int) + 3 < (n : Int) := by omega
      generalize B (nth l k) = x0 at *
      generalize B (nth l (k + 1)) = x1 at *
      generalize B (nth l (k + 2)) = x2 at *
      generalize B (nth l (k + 3)) = x3 at *
      have p1 : IntKind.i64.wrap ((k : Int) + 1) = (k : Int) + 1 := by rw [IntKind.wrap_i64]; omega
      have p2 : IntKind.i64.wrap ((k : Int) + 2) = (k : Int) + 2 := by rw [IntKind.wrap_i64]; omega
      have p3 : IntKind.i64.wrap ((k : Int) + 3) = (k : Int) + 3 := by rw [IntKind.wrap_i64]; omega
      have q0 : IntKind.u64.wrap x0 = x0 := by rw [IntKind.wrap_u64]; omega
      have q1 : IntKind.u64.wrap x1 = x1 := by rw [IntKind.wrap_u64]; omega
      have q2 : IntKind.u64.wrap x2 = x2 := by rw [IntKind.wrap_u64]; omega
      have q3 : IntKind.u64.wrap x3 = x3 := by rw [IntKind.wrap_u64]; omega
      have m1 : IntKind.u64.wrap (256 * x1) = 256 * x1 := by rw [IntKind.wrap_u64]; omega
      have m2 : IntKind.u64.wrap (65536 * x2) = 65536 * x2 := by rw [IntKind.wrap_u64]; omega
      have m3 : IntKind.u64.wrap (16777216 * x3) = 16777216 * x3 := by rw [IntKind.wrap_u64]; omega
      have t1 : IntKind.u64.wrap (x0 + 256 * x1) = x0 + 256 * x1 := by rw [IntKind.wrap_u64]; omega
      have t2 : IntKind.u64.wrap (x0 + 256 * x1 + 65536 * x2) = x0 + 256 * x1 + 65536 * x2 := by rw [IntKind.wrap_u64]; omega
      have t3 : IntKind.u64.wrap (x0 + 256 * x1 + 65536 * x2 + 16777216 * x3) = (N : Int) := by rw [IntKind.wrap_u64]; omega
      have HV : Hid (x0 + 256 * x1 + 65536 * x2 + 16777216 * x3 = (N : Int)) := hval2
      clear hval2
      by_cases hbig : n - k - 8 < N
      · have HNo : Hid (NoFirst (l.drop k)) := no_long HL8.out HN.out (by rw [List.length_drop, HL.out]; omega)
        have hb2 : (n : Int) - (k : Int) - 8 < (N : Int) := by omega
        go_wp2
        go_quiet (fail)
        go_wp2
        go_ret2
        exact HK.out.finish HNo.out (below_drewN (Below.refl _ _) _)
      · have hb2 : ¬ (n : Int) - (k : Int) - 8 < (N : Int) := by omega
        have hb3 : (N : Int) ≤ (n : Int) - (k : Int) - 8 := by omega
        have hrc : ReadsV w (.slice (if c = k + 8 then some (⟨b, off, none⟩ : Addr) else some ⟨b, off + (k + 8), none⟩) N (c - (k + 8))) (((l.drop k).drop 8).take N) := by
          have h1 := (HR.out.front (m := k + 8 + N) (by omega)).back (k := k + 8) (by omega)
          rw [show k + 8 + N - (k + 8) = N by omega, show (l.take (k + 8 + N)).drop (k + 8) = ((l.drop k).drop 8).take N by rw [List.drop_take, List.drop_drop]; congr 1; omega] at h1
          simpa [add_plain] using h1
        have HRc : Hid (ReadsV w (.slice (if c = k + 8 then some (⟨b, off, none⟩ : Addr) else some ⟨b, off + (k + 8), none⟩) N (c - (k + 8))) (((l.drop k).drop 8).take N)) := hrc
        clear hrc
        have hbk : ReadsV w (.slice (some ⟨b, off + k, none⟩) (n - k) (c - k)) (l.drop k) := by
          have h1 := HR.out.back (k := k) (by omega)
          rw [if_neg (by omega)] at h1
          simpa [add_plain] using h1
        have HBk : Hid (ReadsV w (.slice (some ⟨b, off + k, none⟩) (n - k) (c - k)) (l.drop k)) := hbk
        clear hbk
        have HrL : Hid ((((l.drop k).drop 8).take N).length = N) := by
          show _ = _
          rw [List.length_take, List.length_drop, List.length_drop, HL.out]; omega
        have hck : ¬ c = k := by omega
        have HNo : Hid (¬ recd (((l.drop k).drop 8).take N) <+: l.drop k → NoFirst (l.drop k)) := fun h => no_other HL8.out HN.out h
        have HYes : Hid (recd (((l.drop k).drop 8).take N) <+: l.drop k → First (l.drop k) (((l.drop k).drop 8).take N)) := fun h => yes_this hN32 h
        generalize ((l.drop k).drop 8).take N = r at HRc HrL HNo HYes
        have HLk : Hid ((l.drop k).length ≤ 9223372036854775807) := by show (l.drop k).length ≤ _; rw [List.length_drop, HL.out]; omega
        have HOne : Hid (∀ w1, Below wr.heap.size wr w1 → Calls Try.prog 10 #[.slice (if c = k + 8 then some (⟨b, off, none⟩ : Addr) else some ⟨b, off + (k + 8), none⟩) N (c - (k + 8))] w1 fun e w2 => ∃ v', e = .returned v' ∧ ReadsV w2 v' (recd r) ∧ Below wr.heap.size wr w2) := fun w1 hB =>
          (one_any _ r w1 (HRc.out.below (HK.out.1.trans (hB.mono HK.out.1.size))) (by rw [HrL.out]; omega)).mono fun e w2 ⟨v', he, hr, h2⟩ => ⟨v', he, hr, hB.trans (h2.mono hB.size)⟩
        have HBeg : Hid (∀ w1 u, Below wr.heap.size wr w1 → ReadsV w1 u (recd r) → Calls Try.prog 24 #[.slice (some ⟨b, off + k, none⟩) (n - k) (c - k), u] w1 fun e w2 => e = .returned (.bool (decide (recd r <+: l.drop k))) ∧ Below wr.heap.size wr w2) := fun w1 u hB hu =>
          (begins_any _ u _ _ w1 (HBk.out.below (HK.out.1.trans (hB.mono HK.out.1.size))) hu HLk.out (by rw [recd_len, HrL.out]; omega)).mono fun e w2 ⟨he, h2⟩ => ⟨he, hB.trans (h2.mono hB.size)⟩
        obtain ⟨N2, vals, hN2, hvl, how⟩ := HK.out.len
        have HN2 : Hid (vals.length = N2 ∧ wr.ownsRow w.heap.size 22 1 u4 N2 vals) := ⟨hvl, how⟩
        rw [HL.out] at hN2
        clear hvl how
        by_cases hpre : recd r <+: l.drop k
        · rw [decide_eq_true hpre] at HBeg
          have HF := HYes.out hpre
          have HF2 : Hid (First (l.drop k) r) := HF
          clear HF HYes HNo hpre
          go_wp2
          go_quiet (fail)
          clear q0 q1 q2 q3 m1 m2 m3 t1 t2 t3 p1 p2 p3 c0 c1 c2 c3 i0 i1 i2 i3
          go_wp2
          all_goals
            first
              | simp only [if_neg (show ¬ c = k + 8 by omega)] at HOne HRc
              | (simp only [if_pos (show c = k + 8 by assumption)] at HOne HRc; rw [show c - (k + 8) = 0 by omega] at HOne HRc; rw [show c - k = 8 by omega] at HBeg)
            go_region_held3 (fun w' => True) (go_keep) (first
              | (go_at_call 24; have := H1; refine (HBeg.out _ _ H1.out.2 H1.out.1).mono ?_; rintro e w2 ⟨rfl, hB⟩; have H2 : Hid (Below wr.heap.size wr w2) := hB; clear hB)
              | (go_at_call 10; refine (HOne.out _ (below_drewN (Below.refl _ _) _).drew).mono ?_; rintro e w1 ⟨v1, rfl, hr, hB⟩; have H1 : Hid (ReadsV w1 v1 (recd r) ∧ Below wr.heap.size wr w1) := ⟨hr, hB⟩; clear hr hB))
            all_goals go_wp2_with (at_builtin; refine wpList_append_own_at _ rfl (.tmp 66) (.tmp 68) 27 rfl w.heap.size 22 i22 (.slice none 0 0) 1 24 Try.underlying27 HI.out.1 HI.out.2.1 HI.out.2.2.1 HI.out.2.2.2 rfl (by decide) _ N2 vals rfl (World.ownsRow.alloc (own_below HN2.out.2 H2.out) _) ⟨w2.heap.size, 0, none⟩ 1 1 [_] rfl rfl (cell_one_new _ _ _) (by simp [Value.oneCell']) (by unfold maxLen; omega) (by omega) (base_le (Nat.le_trans HK.out.1.size H2.out.size) _) ?_; intro vr2 w3 hown hg hnil hloc; have H3 : Hid (ScanI w w3 l vr2 (k + (8 + r.length))) := HK.out.grown HN2.out.1 HN2.out.2 HF2.out HRc.out (H2.out.alloc H2.out.size _) hown hg; clear hown hg hnil hloc)
            all_goals
              have HEnd : Hid (ScanI w w3 l vr2 (k + 8 + N)) := by
                have h := H3.out
                rw [HrL.out, ← Nat.add_assoc] at h
                exact h
              first
                | (refine ⟨⟨k + 8 + N, by omega, by go_num, HEnd.out⟩, ?_⟩; simp [intOf]; omega)
                | (rw [← (show c = k + 8 by assumption)]; go_roundw; (case rel => exact ⟨k + 8 + N, by omega, by go_num, HEnd.out⟩); (case measure => simp [intOf]; omega))
        · rw [decide_eq_false hpre] at HBeg
          have HF2 : Hid (NoFirst (l.drop k)) := HNo.out hpre
          clear HYes HNo hpre
          go_wp2
          go_quiet (fail)
          clear q0 q1 q2 q3 m1 m2 m3 t1 t2 t3 p1 p2 p3 c0 c1 c2 c3 i0 i1 i2 i3
          go_wp2
          all_goals
            first
              | simp only [if_neg (show ¬ c = k + 8 by omega)] at HOne HRc
              | (simp only [if_pos (show c = k + 8 by assumption)] at HOne HRc; rw [show c - (k + 8) = 0 by omega] at HOne HRc; rw [show c - k = 8 by omega] at HBeg)
            go_region_held3 (fun w' => True) (go_keep) (first
              | (go_at_call 24; have := H1; refine (HBeg.out _ _ H1.out.2 H1.out.1).mono ?_; rintro e w2 ⟨rfl, hB⟩; have H2 : Hid (Below wr.heap.size wr w2) := hB; clear hB)
              | (go_at_call 10; refine (HOne.out _ (below_drewN (Below.refl _ _) _).drew).mono ?_; rintro e w1 ⟨v1, rfl, hr, hB⟩; have H1 : Hid (ReadsV w1 v1 (recd r) ∧ Below wr.heap.size wr w1) := ⟨hr, hB⟩; clear hr hB))
            all_goals go_wp2
            all_goals go_ret2
            all_goals exact HK.out.finish HF2.out H2.out
    · have HNo : Hid (NoFirst (l.drop k)) := first_short (by rw [List.length_drop, HL.out]; omega)
      have h8' : ¬ (8 : Int) ≤ (n : Int) - (k : Int) := by omega
      go_wp2
      go_ret2
      exact HK.out.finish HNo.out (Below.refl _ _)

set_option maxRecDepth 100000 in
theorem rscan_empty (a : Option Addr) (c : Nat) (w : World) : Calls Try.prog 14 #[.slice a 0 c] w fun e w' => ScanEnd w w' [] e := by
  go_enter Try.func14, Try.ntmps14
  go_wp2
  refine wp_loop_rounds 1 ?_
  rw [rounds_succ]
  go_wp2
  go_ret2
  exact (ScanI.start w []).finish noFirst_nil (Below.refl _ _)

theorem rscan_any (v : Value) (l : Row) (w : World) (hr : ReadsV w v l) (hl : l.length ≤ 900) : Calls Try.prog 14 #[v] w fun e w' => ScanEnd w w' l e := by
  obtain ⟨a, c, rfl, h1, h2, h3, h4⟩ := id hr
  by_cases hp : 0 < l.length
  · obtain ⟨b, off, rfl, _, _⟩ := cells_of hr hp
    unfold maxLen at h3
    exact rscan_walk b off l.length c l w hr rfl hl h2 (by omega) hp
  · obtain rfl : l = [] := List.length_eq_zero_iff.1 (by omega)
    exact rscan_empty _ _ w

end Go.Proofs.Ytccccclnfimcoaa
