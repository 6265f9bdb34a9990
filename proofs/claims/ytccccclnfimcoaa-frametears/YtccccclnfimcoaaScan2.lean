/-
  The program's Scan: a contract.
-/
import Derived.Test.YtccccclnfimcoaaScan
namespace Go.Proofs.Ytccccclnfimcoaa
open Go.RowKit Crc
set_option linter.unusedVariables false

theorem info22 : (Try.prog.info? 22).map (fun i => (i.zero, i.size, i.bytes)) = some (some (.slice none 0 0), 1, 24) := by kernel_rfl

theorem own_below {w w' : World} {base N e s : Nat} {v : Value} {xs : List Value} (h : w.ownsRow base e s v N xs) (hb : Below w.heap.size w w') : w'.ownsRow base e s v N xs := by
  refine ⟨h.1, ?_⟩
  rcases h.2 with hn | ⟨g, cap, cur, hv, hg, hh, rest⟩
  · exact .inl hn
  · exact .inr ⟨g, cap, cur, hv, hg, (hb.block g (Array.getElem?_eq_some_iff.1 hh).1).trans hh, rest⟩
theorem first_yes (v : Value) (l r : Row) (w : World) (hr : ReadsV w v l) (hf : First l r) : Calls Try.prog 23 #[v] w fun e w' => ∃ a c, e = .returned (.tuple #[.slice a r.length c, .bool true]) ∧ (∀ w2, ReadsV w2 v l → ReadsV w2 (.slice a r.length c) r) ∧ Below w.heap.size w w' :=
  (first_any v l w hr).mono fun e w' ⟨hB, h⟩ => by
    rcases h with ⟨a, c, r', hf', he, h2⟩ | ⟨hno, _⟩
    · obtain rfl := first_one hf hf'
      exact ⟨a, c, he, h2, hB⟩
    · exact absurd hf (hno r)
theorem first_no (v : Value) (l : Row) (w : World) (hr : ReadsV w v l) (hf : NoFirst l) : Calls Try.prog 23 #[v] w fun e w' => e = .returned (.tuple #[.slice none 0 0, .bool false]) ∧ Below w.heap.size w w' :=
  (first_any v l w hr).mono fun e w' ⟨hB, h⟩ => by
    rcases h with ⟨a, c, r', hf', he, h2⟩ | ⟨hno, he⟩
    · exact absurd hf' (hf r')
    · exact ⟨he, hB⟩
theorem row_one {w : World} {base N M : Nat} {v : Value} {xs ys : List Value} (h : w.ownsRow base 22 1 v N xs) (h' : w.ownsRow base 22 1 v M ys) : N = M ∧ xs = ys := by
  have l1 := h.1
  have l2 := h'.1
  have e : N = M := by
    rcases h.2 with ⟨hv, hN⟩ | ⟨g, cap, cur, hv, _⟩
    · rcases h'.2 with ⟨_, hM⟩ | ⟨g', cap', cur', hv', _⟩
      · omega
      · rw [hv] at hv'; simp at hv'
    · rcases h'.2 with ⟨hv', _⟩ | ⟨g', cap', cur', hv', _⟩
      · rw [hv] at hv'; simp at hv'
      · rw [hv] at hv'; simp at hv'; omega
  subst e
  refine ⟨rfl, List.ext_getElem (by omega) fun i h1 h2 => ?_⟩
  rcases h.2 with ⟨_, hN⟩ | ⟨g, cap, cur, hv, _⟩
  · omega
  · subst hv
    have c1 := h.cellAt i (by omega)
    have c2 := h'.cellAt i (by omega)
    rw [c1, List.getElem?_eq_getElem h1, List.getElem?_eq_getElem h2] at c2
    simpa using c2

theorem ScanI.len {w wr : World} {l : Row} {vr : Value} {k : Nat} (h : ScanI w wr l vr k) : ∃ N vals, N ≤ l.length ∧ vals.length = N ∧ wr.ownsRow w.heap.size 22 1 vr N vals := by
  obtain ⟨_, rs, vals, t, _, e, hk, ho, _⟩ := h
  have := recds_many rs
  exact ⟨rs.length, vals, by rw [e, List.length_append]; omega, by have := ho.1; omega, ho⟩
theorem ScanI.grown {w wr w1 w' : World} {l r : Row} {vr v1 vr' : Value} {k N : Nat} {vals : List Value} (h : ScanI w wr l vr k) (hl : vals.length = N) (how : wr.ownsRow w.heap.size 22 1 vr N vals) (hf : First (l.drop k) r) (hr1 : ReadsV w v1 r) (hB1 : Below wr.heap.size wr w1)
    (ho : w'.ownsRow w.heap.size 22 1 vr' (N + 1) (vals ++ [v1])) (hg : w1.grownBy w' vr.ownBlock) : ScanI w w' l vr' (k + (8 + r.length)) := by
  have hb := h.1
  have hb1 : Below w.heap.size w w1 := hb.trans (hB1.mono hb.size)
  have hB : Below w.heap.size w w' := hb1.grown hg hb1.size (fun g e => (World.ownsRow.lt how g e).1)
  refine h.next (w1 := w1) hf hr1 hB (fun rs vals2 h1 h2 => ?_)
  have e1 : rs.length = N ∧ vals2 = vals := row_one h2 how
  rw [e1.1, e1.2]
  exact ho

set_option maxRecDepth 100000 in
set_option maxHeartbeats 400000 in
theorem scan_walk (b off n c : Nat) (l : Row) (w : World) (HR : Hid (ReadsV w (.slice (some ⟨b, off, none⟩) n c) l)) (HL : Hid (l.length = n)) (hn : n ≤ 1000000000) (hnc : n ≤ c) (hcm : c ≤ 9223372036854775807) :
    Calls Try.prog 13 #[.slice (some ⟨b, off, none⟩) n c] w fun e w' => ScanEnd w w' l e := by
  obtain ⟨i22, hi22, z22, s22, b22⟩ := info_parts info22
  have HI : Hid (Try.prog.info? 22 = some i22 ∧ i22.zero = some (.slice none 0 0) ∧ i22.size = 1 ∧ i22.bytes = 24) := ⟨hi22, z22, s22, b22⟩
  clear hi22 z22 s22 b22
  go_enter Try.func13, Try.ntmps13
  go_wp2
  refine wp_scope_jumps 0 (fun a' w' => ∃ (vr : Value) (k : Nat) (u6 u7 u8 u9 u10 u11 u12 u13 u14 u15 u16 u17 u18 u19 u20 u21 u22 u23 u24 u25 u26 : Value), a' = { tmps := #[.slice (some ⟨b, off, none⟩) n c, undef, .slice none 0 0, .int .i64 0, vr, .int .i64 k, u6, u7, u8, u9, u10, u11, u12, u13, u14, u15, u16, u17, u18, u19, u20, u21, u22, u23, u24, u25, u26], defers := [] } ∧ k ≤ n ∧ Hid (ScanI w w' l vr k)) (fun a' _ => n - (intOf (a'.tmps.getD 5 undef)).toNat) rfl ?_ ?_
  · by_cases hex : ∃ r, First l r
    · obtain ⟨r, hf⟩ := hex
      have HF : Hid (First l r) := hf
      have hr8 : 8 + r.length ≤ n := by
        obtain ⟨_, t, e⟩ := hf
        have := congrArg List.length e
        rw [List.length_append, recd_len, HL.out] at this
        omega
      clear hf
      have HC : Hid (Calls Try.prog 23 #[.slice (some ⟨b, off, none⟩) n c] w fun e w' => ∃ a c', e = .returned (.tuple #[.slice a r.length c', .bool true]) ∧ (∀ w2, ReadsV w2 (.slice (some ⟨b, off, none⟩) n c) l → ReadsV w2 (.slice a r.length c') r) ∧ Below w.heap.size w w') := first_yes _ _ _ w HR.out HF.out
      go_wp2
      go_step3
      go_wp2_with (first
        | (at_builtin; have := H1; refine wpList_append_own_at _ rfl (.tmp 16) (.tmp 18) 27 rfl w.heap.size 22 i22 (.slice none 0 0) 1 24 Try.underlying27 HI.out.1 HI.out.2.1 HI.out.2.2.1 HI.out.2.2.2 rfl (by decide) _ 0 [] rfl (World.ownsRow_nil _ _ _ _) ⟨w1.heap.size, 0, none⟩ 1 1 [.slice a1 r.length c1] rfl rfl (cell_one_new _ _ _) (by simp [Value.oneCell']) (by unfold maxLen; omega) (by omega) (base_le H1.out.2.size _) ?_; intro vr2 w2 hown hg hnil hloc; have H2 : Hid (ScanI w w2 l vr2 (0 + (8 + r.length))) := (ScanI.start w l).grown (vals := []) (N := 0) rfl (World.ownsRow_nil _ _ _ _) HF.out H1.out.1 (H1.out.2.alloc H1.out.2.size _) hown hg; clear hown hg hnil hloc)
        | (go_at_call 23; refine HC.out.mono ?_; rintro e w1 ⟨a1, c1, rfl, hrd, hB⟩; have H1 : Hid (ReadsV w (.slice a1 r.length c1) r ∧ Below w.heap.size w w1) := ⟨hrd _ HR.out, hB⟩; clear hrd hB))
      go_step3
      have e0 : (8 : Int) + (r.length : Int) = ((0 + (8 + r.length) : Nat) : Int) := by omega
      rw [e0]
      exact ⟨rfl, vr2, 0 + (8 + r.length), _, _, _, _, _, _, _, _, _, _, _, _, _, _, _, _, _, _, _, _, _, rfl, by omega, H2.out⟩
    · have HNo : Hid (NoFirst l) := fun r hr => hex ⟨r, hr⟩
      have HC : Hid (Calls Try.prog 23 #[.slice (some ⟨b, off, none⟩) n c] w fun e w' => e = .returned (.tuple #[.slice none 0 0, .bool false]) ∧ Below w.heap.size w w') := first_no _ _ w HR.out HNo.out
      clear hex
      go_wp2
      go_step3
      go_wp2_with (go_at_call 23; refine HC.out.mono ?_; rintro e w1 ⟨rfl, hB⟩; have H1 : Hid (Below w.heap.size w w1) := hB; clear hB)
      simp only [Exit.jump]
      go_ret2
      exact (ScanI.start w l).finish HNo.out H1.out
  · rintro a' wr ⟨vr, k, u6, u7, u8, u9, u10, u11, u12, u13, u14, u15, u16, u17, u18, u19, u20, u21, u22, u23, u24, u25, u26, rfl, hk, HSI⟩
    obtain ⟨ra, hra⟩ : ∃ ra, (if c = k then some (⟨b, off, none⟩ : Addr) else some ⟨b, off + k, none⟩) = ra := ⟨_, rfl⟩
    have HRa : Hid (∀ w2, ReadsV w2 (.slice (some ⟨b, off, none⟩) n c) l → ReadsV w2 (.slice ra (n - k) (c - k)) (l.drop k)) := fun w2 h => by
      have h6 := ReadsV.back h hk
      rw [← hra]
      simpa [add_plain] using h6
    have hk2 : (k : Int) ≤ (n : Int) := by omega
    by_cases hex : ∃ r, First (l.drop k) r
    · obtain ⟨r, hf⟩ := hex
      have HF : Hid (First (l.drop k) r) := hf
      have hr8 : k + (8 + r.length) ≤ n := by
        obtain ⟨_, t, e⟩ := hf
        have := congrArg List.length e
        rw [List.length_drop, List.length_append, recd_len, HL.out] at this
        omega
      clear hf
      have hck : ¬ c = k := by omega
      rw [if_neg hck] at hra
      subst hra
      have HC : Hid (Calls Try.prog 23 #[.slice (some ⟨b, off + k, none⟩) (n - k) (c - k)] wr fun e w' => ∃ a c', e = .returned (.tuple #[.slice a r.length c', .bool true]) ∧ (∀ w2, ReadsV w2 (.slice (some ⟨b, off + k, none⟩) (n - k) (c - k)) (l.drop k) → ReadsV w2 (.slice a r.length c') r) ∧ Below wr.heap.size wr w') := first_yes _ _ _ wr (HRa.out _ (HR.out.below HSI.out.1)) HF.out
      obtain ⟨N, vals, hN, hvl, how⟩ := HSI.out.len
      have HN : Hid (vals.length = N ∧ wr.ownsRow w.heap.size 22 1 vr N vals) := ⟨hvl, how⟩
      rw [HL.out] at hN
      clear hvl how
      go_wp2_with (first
        | (at_builtin; have := H1; refine wpList_append_own_at _ rfl (.tmp 16) (.tmp 18) 27 rfl w.heap.size 22 i22 (.slice none 0 0) 1 24 Try.underlying27 HI.out.1 HI.out.2.1 HI.out.2.2.1 HI.out.2.2.2 rfl (by decide) _ N vals rfl (World.ownsRow.alloc (own_below HN.out.2 H1.out.2) _) ⟨w1.heap.size, 0, none⟩ 1 1 [.slice a1 r.length c1] rfl rfl (cell_one_new _ _ _) (by simp [Value.oneCell']) (by unfold maxLen; omega) (by omega) (base_le (Nat.le_trans HSI.out.1.size H1.out.2.size) _) ?_; intro vr2 w2 hown hg hnil hloc; have H2 : Hid (ScanI w w2 l vr2 (k + (8 + r.length))) := HSI.out.grown HN.out.1 HN.out.2 HF.out H1.out.1 (H1.out.2.alloc H1.out.2.size _) hown hg; clear hown hg hnil hloc)
        | (go_at_call 23; refine HC.out.mono ?_; rintro e w1 ⟨a1, c1, rfl, hrd, hB⟩; have H1 : Hid (ReadsV w (.slice a1 r.length c1) r ∧ Below wr.heap.size wr w1) := ⟨hrd _ (HRa.out _ HR.out), hB⟩; clear hrd hB))
      go_step3
      have e0 : (k : Int) + (8 + (r.length : Int)) = ((k + (8 + r.length) : Nat) : Int) := by omega
      rw [e0]
      refine ⟨rfl, ⟨vr2, k + (8 + r.length), _, _, _, _, _, _, _, _, _, _, _, _, _, _, _, _, _, _, _, _, _, rfl, hr8, H2.out⟩, ?_⟩
      simp [intOf]
      omega
    · have HNo : Hid (NoFirst (l.drop k)) := fun r hr => hex ⟨r, hr⟩
      have HC : Hid (Calls Try.prog 23 #[.slice ra (n - k) (c - k)] wr fun e w' => e = .returned (.tuple #[.slice none 0 0, .bool false]) ∧ Below wr.heap.size wr w') := first_no _ _ wr (HRa.out _ (HR.out.below HSI.out.1)) HNo.out
      clear hex
      go_wp2_with (go_at_call 23; (first | rw [hra] | skip); go_loud (refine HC.out.mono ?_); rintro e w1 ⟨rfl, hB⟩; have H1 : Hid (Below wr.heap.size wr w1) := hB; clear hB)
      simp only [Exit.jump]
      go_ret2
      exact HSI.out.finish HNo.out H1.out

set_option maxRecDepth 100000 in
theorem scan_empty (a : Option Addr) (c : Nat) (w : World) : Calls Try.prog 13 #[.slice a 0 c] w fun e w' => ScanEnd w w' [] e := by
  have HC : Hid (∀ x d, Calls Try.prog 23 #[.slice x 0 d] w fun e w' => w' = w ∧ e = .returned (.tuple #[.slice none 0 0, .bool false])) := fun x d => first_short_walk x 0 d w (by omega)
  go_enter Try.func13, Try.ntmps13
  go_wp2
  go_step3
  go_wp2
  go_step3
  go_wp2_with (go_at_call 23; refine (HC.out _ _).mono ?_; rintro e w1 ⟨hw, rfl⟩; have hw2 := hw.symm; clear hw; subst hw2)
  rw [Exit.noGoto_ret]
  go_ret2
  exact (ScanI.start w []).finish noFirst_nil (Below.refl _ _)

theorem scan_any (v : Value) (l : Row) (w : World) (hr : ReadsV w v l) (hl : l.length ≤ 1000000000) : Calls Try.prog 13 #[v] w fun e w' => ScanEnd w w' l e := by
  obtain ⟨a, c, rfl, h1, h2, h3, h4⟩ := id hr
  cases a with
  | none =>
    have h0 := h1 rfl
    subst h0
    obtain rfl : l = [] := List.length_eq_zero_iff.1 (by omega)
    exact scan_empty _ _ w
  | some x =>
    unfold maxLen at h3
    by_cases hp : 0 < l.length
    · obtain ⟨b, off, hx, _, _⟩ := cells_of hr hp
      cases hx
      exact scan_walk b off l.length c l w hr rfl hl h2 (by omega)
    · obtain rfl : l = [] := List.length_eq_zero_iff.1 (by omega)
      exact scan_empty _ _ w

end Go.Proofs.Ytccccclnfimcoaa
