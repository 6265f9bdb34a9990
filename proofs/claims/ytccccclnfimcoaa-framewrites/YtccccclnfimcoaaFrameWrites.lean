/-
  Proved: any record behind any bytes is what the chapter says (5.1). Conditions: none.
  The frame below the walk was written by the guide's program (proof-skeleton); the walk is by hand.
-/
import Derived.Test.YtccccclnfimcoaaRows
import Derived.Test.YtccccclnfimcoaaMore
import Derived.WalkKit
import Derived.ProofKit
import Derived.OpenShut
import Derived.ShutString
import Derived.ChangeOld
import Derived.Below
namespace Go.Proofs.Ytccccclnfimcoaa.frameWrites
open Go.ChangeShapes Go.WideShapes Go.ChangeAt Go.RowKit Crc
open Go.ChangeMaps (open_string shut_string)
set_option linter.unusedVariables false

theorem own : ownKnob Try.prog.godebug = none := by kernel_rfl
theorem laidOut : laidOutB Try.prog = true := by kernel_rfl

/-! ### STEP 1: THE WALK: the Go text returns true, AND WRITES NOTHING THAT WAS THERE: 'Below w.heap.size w w'' (Derived/Below.lean: '.refl', '.alloc', '.drew', '.setCell' at a new block, '.trans'). Open each 'IsRow' by 'rcases' AHEAD of 'go_enter'; part every test ahead of the walk. -/
set_option maxRecDepth 100000 in
set_option maxHeartbeats 400000 in
theorem walk (a0 : Option Addr) (len0 cap0 : Nat) (z0 : List Int) (a1 : Option Addr) (len1 cap1 : Nat) (z1 : List Int) (w : World) (w0 : IsRow .u8 w a0 len0 cap0 z0) (w1 : IsRow .u8 w a1 len1 cap1 z1) :
    Calls Try.prog 3 #[.slice a0 len0 cap0, .slice a1 len1 cap1] w fun e w' => e = .returned (.bool true) ∧ Below w.heap.size w w' := by
  have HW : Hid (∀ w', Below w.heap.size w w' → Calls Try.prog 9 #[] w' fun e w2 => e = .returned (.bool true) ∧ Below w.heap.size w w2) := works_on w
  obtain ⟨l, hl, hrl⟩ := readsV_of w0
  obtain ⟨s, hs, hrs⟩ := readsV_of w1
  have hm0 : len0 ≤ 9223372036854775807 := by obtain ⟨_, _, hv, _, h1, h2, _⟩ := hrl; unfold maxLen at h2; omega
  have hm1 : len1 ≤ 9223372036854775807 := by obtain ⟨_, _, hv, _, h1, h2, _⟩ := hrs; unfold maxLen at h2; omega
  have HR : Hid (ReadsV w (.slice a0 len0 cap0) l ∧ ReadsV w (.slice a1 len1 cap1) s) := ⟨hrl, hrs⟩
  have HL : Hid (l.length = len0 ∧ s.length = len1) := ⟨hl.symm, hs.symm⟩
  clear w0 w1 hl hs hrl hrs
  by_cases hb0 : 600 < len0
  · go_enter Try.func3, Try.ntmps3
    go_wp2_with (go_at_call 9; refine (HW.out _ (Below.refl _ _)).mono ?_; rintro e w2 ⟨rfl, hB⟩)
    go_ret
    exact ⟨rfl, hB⟩
  by_cases hb1 : 600 < len1
  · go_enter Try.func3, Try.ntmps3
    go_wp2_with (go_at_call 9; refine (HW.out _ (Below.refl _ _)).mono ?_; rintro e w2 ⟨rfl, hB⟩)
    go_ret
    exact ⟨rfl, hB⟩
  have HLe : Hid (([] : Row).length + l.length ≤ 140737488355328) := by
    show 0 + l.length ≤ _
    rw [HL.out.1]; omega
  have HLf : Hid (l.length + (recd s).length ≤ 140737488355328) := by
    show l.length + (recd s).length ≤ _
    rw [recd_len, HL.out.1, HL.out.2]; omega
  have HL1 : Hid (l.length ≤ 1000000000) := by show l.length ≤ _; rw [HL.out.1]; omega
  have HL2 : Hid (s.length ≤ 1000000000) := by show s.length ≤ _; rw [HL.out.2]; omega
  have HL3 : Hid (s.length ≤ 1000) := by show s.length ≤ _; rw [HL.out.2]; omega
  go_enter Try.func3, Try.ntmps3
  go_wp2_with (first
    | (go_at_call 9; have := H6; refine (HW.out _ H6.out).mono ?_; rintro e w7 ⟨rfl, hB⟩)
    | (go_at_call 11; have := H5; refine (same_yes _ _ (l ++ recd s) _ (ReadsV.of_own H5.out.1) (ReadsV.of_own H5.out.2.1)).mono ?_; rintro e w6 ⟨rfl, hw⟩; have H6 : Hid (Below w.heap.size w w6) := (show Below w.heap.size w w6 by rw [hw]; exact H5.out.2.2); clear hw)
    | (go_at_call 12; have := H4; refine (put_kept w.heap.size _ _ l s _ (H1.out.1.below H4.out.2) (HR.out.2.below (H1.out.2.trans (H4.out.2.mono H1.out.2.size))) (Nat.le_trans H1.out.2.size H4.out.2.size) HL1.out HL2.out).mono ?_; rintro e w5 ⟨v5, rfl, ho, hB, hk⟩; have H5 : Hid (Owns w5 w.heap.size v5 (l ++ recd s) ∧ Owns w5 w1.heap.size v4 (l ++ recd s) ∧ Below w.heap.size w w5) := ⟨ho, H4.out.1.kept (fun g hg => hk g (World.ownsRow.lt H4.out.1 g hg).2 (fun e => by have h1 := (World.ownsRow.lt H4.out.1 g hg).1; have h2 := (World.ownsRow.lt H1.out.1 g e).2; omega)), (H1.out.2.trans (H4.out.2.mono H1.out.2.size)).trans hB⟩; clear ho hB hk)
    | (at_builtin; have := H3; refine wpList_append_bytes rfl (.tmp 22) (.tmp 24) 22 rfl w1.heap.size Try.underlying22 Try.info5 _ l rfl (H2.out.1.below H3.out.2) _ (recd s) rfl H3.out.1 HLf.out (Nat.le_trans H2.out.2.size H3.out.2.size) ?_; intro v4 w4 hown hB; have H4 : Hid (Owns w4 w1.heap.size v4 (l ++ recd s) ∧ Below w1.heap.size w1 w4) := ⟨hown, (H2.out.2.trans (H3.out.2.mono H2.out.2.size)).trans hB⟩; clear hown hB H3)
    | (go_at_call 10; have := H2; refine (one_any _ s _ (HR.out.2.below (H1.out.2.trans (H2.out.2.mono H1.out.2.size))) HL3.out).mono ?_; rintro e w3 ⟨v3, rfl, hr, hB⟩; have H3 : Hid (ReadsV w3 v3 (recd s) ∧ Below w2.heap.size w2 w3) := ⟨hr, hB⟩; clear hr hB)
    | (at_builtin; have := H1; refine wpList_append_bytes rfl (.tmp 19) (.tmp 20) 22 rfl w1.heap.size Try.underlying22 Try.info5 _ [] rfl (Owns.nil _ _) _ l rfl (HR.out.1.below H1.out.2) HLe.out (Nat.le_refl _) ?_; intro v2 w2 hown hB; have H2 : Hid (Owns w2 w1.heap.size v2 l ∧ Below w1.heap.size w1 w2) := ⟨hown, hB⟩; clear hown hB)
    | (at_builtin; refine wpList_append_bytes rfl (.tmp 16) (.tmp 17) 22 rfl w.heap.size Try.underlying22 Try.info5 _ [] rfl (Owns.nil _ _) _ l rfl HR.out.1 HLe.out (Nat.le_refl _) ?_; intro v1 w1 hown hB; have H1 : Hid (Owns w1 w.heap.size v1 l ∧ Below w.heap.size w w1) := ⟨hown, hB⟩; clear hown hB))
  go_ret
  exact ⟨rfl, hB⟩

/-! ### THE ROW's STEP: WRITTEN OUT: LEAVE IT -/
set_option maxRecDepth 100000 in
theorem lifted (os : Os) (started : os.Started) (H : Type) (enc : TypeId × Value → H) :
    ReturnsInHanded {} Try.checked os 3 .any (Rows.frameWritesSpec.pre6 enc Try.prog Try.f3 Rows.frameWritesRow.domain false) (Rows.frameWritesSpec.post enc Try.prog Try.f3 false true false false) := by
  refine returnsInHanded_of_change (C := Try.checked) own started (by kernel_rfl) Try.func3
    (ChangeSpec.witness6 (enc := enc) (C := Try.checked) false ⟨#[], #[.slice none 0 0, .slice none 0 0], []⟩ 8 (by kernel_rfl) (by kernel_rfl) (by kernel_rfl) (by kernel_rfl)) ?_
  intro W base args ds gs before hval0 hW hcnd _
  have hval : ∀ (j : Nat) t v, Try.f3.params[j]? = some t → args[j]? = some v → Value.okWide Try.prog W .any base t v := hval0
  have hW' := hW
  obtain ⟨p, q, hA0, hV, rfl, hfz, hnd⟩ := hW
  have hA : DataW.TrodAll enc Try.prog W 0 (fun _ => true) true Try.f3.params.toList args.toList ds p := hA0
  rw [Try.params3] at hA hval
  obtain ⟨v0, vs0, d0, ds0, p0, q0, hargs, rfl, rfl, h0, r0⟩ := trodAll_cons hA
  obtain ⟨v1, vs1, d1, ds1, p1, q1, rfl, rfl, rfl, h1, r1⟩ := trodAll_cons r0
  obtain ⟨rfl, rfl, rfl⟩ := trodAll_nil r1
  obtain rfl : args = #[v0, v1] := by cases args; simp_all
  obtain ⟨rfl, rfl⟩ := trodVars_none hV
  obtain ⟨a0, len0, cap0, rfl⟩ := okWide_slice Try.underlying22 (hval 0 22 v0 rfl rfl)
  have k0 := h0
  have lt0 : ∀ x ∈ p0, x.block < W.heap.size := by obtain ⟨m, hm⟩ := k0; exact DataW.trod_lt m _ _ _ hm
  obtain ⟨z0, w0⟩ : ∃ zs, IsRow .u8 W a0 len0 cap0 zs := by
    obtain ⟨fuel, hf⟩ := h0
    rcases open_ints Try.underlying22 Try.underlying5 (by kernel_rfl) hf with ⟨hcs, _⟩ | ⟨x, l, c, zs, hcs, _, hl, hm, hz, _, hcell, hwz⟩
    · simp [Value.cells] at hcs
      obtain ⟨rfl, rfl, rfl⟩ := hcs
      exact ⟨[], .inl ⟨rfl, rfl, rfl, rfl⟩⟩
    · simp [Value.cells] at hcs
      obtain ⟨rfl, rfl, rfl⟩ := hcs
      exact ⟨zs, .inr ⟨_, rfl, hl, hm, by simpa using hz, hcell, hwz⟩⟩
  obtain ⟨a1, len1, cap1, rfl⟩ := okWide_slice Try.underlying22 (hval 1 22 v1 rfl rfl)
  have k1 := h1
  have lt1 : ∀ x ∈ p1, x.block < W.heap.size := by obtain ⟨m, hm⟩ := k1; exact DataW.trod_lt m _ _ _ hm
  obtain ⟨z1, w1⟩ : ∃ zs, IsRow .u8 W a1 len1 cap1 zs := by
    obtain ⟨fuel, hf⟩ := h1
    rcases open_ints Try.underlying22 Try.underlying5 (by kernel_rfl) hf with ⟨hcs, _⟩ | ⟨x, l, c, zs, hcs, _, hl, hm, hz, _, hcell, hwz⟩
    · simp [Value.cells] at hcs
      obtain ⟨rfl, rfl, rfl⟩ := hcs
      exact ⟨[], .inl ⟨rfl, rfl, rfl, rfl⟩⟩
    · simp [Value.cells] at hcs
      obtain ⟨rfl, rfl, rfl⟩ := hcs
      exact ⟨zs, .inr ⟨_, rfl, hl, hm, by simpa using hz, hcell, hwz⟩⟩
  clear hA0 hval0
  refine (walk a0 len0 cap0 z0 a1 len1 cap1 z1 W w0 w1).mono fun e W' ⟨he, bel⟩ => ?_
  subst he
  exact ⟨_, rfl, _, _, _, [], _, [], hW', trodAll_mk1 (shut_bool Try.underlying4 _), (trodAll_cons_mk (Below.trod laidOut (by kernel_rfl) (of_decide_eq_true (by kernel_rfl)) k0 bel lt0) (trodAll_cons_mk (Below.trod laidOut (by kernel_rfl) (of_decide_eq_true (by kernel_rfl)) k1 bel lt1) trodAll_mk0)), rfl, bel.frame _, fun h => by cases h⟩

theorem over : Rows.frameWritesRow.holds Try.pinned (OpenSpec.ofChange Rows.frameWritesSpec) :=
  OpenClaim.holds_of_wide 3 Try.f3 rfl rfl rfl rfl rfl rfl rfl ⟨rfl, rfl, rfl, rfl, rfl⟩ rfl rfl rfl rfl rfl (by kernel_rfl) Try.func3 (by kernel_rfl)
    (of_decide_eq_true (by kernel_rfl)) (by unfold Func.isWrapper; first | (rw [if_pos (by decide +kernel)]; kernel_rfl) | (rw [if_neg (by decide +kernel)]; exact ⟨rfl, rfl⟩))
    (fun os started H enc _ => lifted os started H enc)

/-- ████ THE STATEMENT ████ -/
theorem proved : Rows.FrameWritesSaid := over
#print axioms proved
end Go.Proofs.Ytccccclnfimcoaa.frameWrites
