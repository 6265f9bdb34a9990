/-
  Proved: bytes that are scanned to their end, and others behind, are scanned as both (5.3). Conditions: none.
  The frame below the walk was written by the guide's program (proof-skeleton); the walk is by hand.
-/
import Derived.Test.YtccccclnfimcoaaRows
import Derived.Test.YtccccclnfimcoaaMore
import Derived.WalkKit
import Derived.ProofKit
import Derived.OpenShut
import Derived.ShutString
import Derived.ChangeOld
import Derived.Below
namespace Go.Proofs.Ytccccclnfimcoaa.frameJoins
open Go.ChangeShapes Go.WideShapes Go.ChangeAt Go.RowKit Crc
open Go.ChangeMaps (open_string shut_string)
set_option linter.unusedVariables false

theorem own : ownKnob Try.prog.godebug = none := by kernel_rfl
theorem laidOut : laidOutB Try.prog = true := by kernel_rfl

theorem front_is {w : World} {a : Option Addr} {n c m : Nat} {rs xs : List Row} (h : RowsV w (.slice a n c) rs) (hm : m ≤ n) (e : rs.take m = xs) : RowsV w (.slice a m c) xs := by
  rw [← e]; exact h.front hm

theorem back_is {w : World} {a : Option Addr} {X Y c : Nat} {rs ys : List Row} (h : RowsV w (.slice a (X + Y) c) rs) (e : rs.drop X = ys) : RowsV w (.slice (if c = X then a else Option.map (fun x => x.add X) a) Y (c - X)) ys := by
  have h2 := h.back (k := X) (by omega)
  rw [e, show X + Y - X = Y by omega] at h2
  exact h2

/-! ### STEP 1: THE WALK: the Go text returns true, AND WRITES NOTHING THAT WAS THERE: 'Below w.heap.size w w'' (Derived/Below.lean: '.refl', '.alloc', '.drew', '.setCell' at a new block, '.trans'). Open each 'IsRow' by 'rcases' AHEAD of 'go_enter'; part every test ahead of the walk. -/
set_option maxRecDepth 100000 in
set_option maxHeartbeats 400000 in
theorem walk (a0 : Option Addr) (len0 cap0 : Nat) (z0 : List Int) (a1 : Option Addr) (len1 cap1 : Nat) (z1 : List Int) (w : World) (w0 : IsRow .u8 w a0 len0 cap0 z0) (w1 : IsRow .u8 w a1 len1 cap1 z1) :
    Calls Try.prog 8 #[.slice a0 len0 cap0, .slice a1 len1 cap1] w fun e w' => e = .returned (.bool true) ∧ Below w.heap.size w w' := by
  have HW : Hid (∀ w', Below w.heap.size w w' → Calls Try.prog 9 #[] w' fun e w2 => e = .returned (.bool true) ∧ Below w.heap.size w w2) := works_on w
  obtain ⟨l, hl, hrl⟩ := readsV_of w0
  obtain ⟨s, hs, hrs⟩ := readsV_of w1
  have hm0 : len0 ≤ 9223372036854775807 := by obtain ⟨_, _, hv, _, h1, h2, _⟩ := hrl; unfold maxLen at h2; omega
  have hm1 : len1 ≤ 9223372036854775807 := by obtain ⟨_, _, hv, _, h1, h2, _⟩ := hrs; unfold maxLen at h2; omega
  have HR : Hid (ReadsV w (.slice a0 len0 cap0) l ∧ ReadsV w (.slice a1 len1 cap1) s) := ⟨hrl, hrs⟩
  have HL : Hid (l.length = len0 ∧ s.length = len1) := ⟨hl.symm, hs.symm⟩
  clear w0 w1 hl hs hrl hrs
  by_cases hb0 : 400 < len0
  · go_enter Try.func8, Try.ntmps8
    go_wp2_with (go_at_call 9; refine (HW.out _ (Below.refl _ _)).mono ?_; rintro e w2 ⟨rfl, hB⟩)
    go_ret
    exact ⟨rfl, hB⟩
  by_cases hb1 : 400 < len1
  · go_enter Try.func8, Try.ntmps8
    go_wp2_with (go_at_call 9; refine (HW.out _ (Below.refl _ _)).mono ?_; rintro e w2 ⟨rfl, hB⟩)
    go_ret
    exact ⟨rfl, hB⟩
  obtain ⟨xs, n, hsx⟩ := scans_ex l.length l (Nat.le_refl _)
  obtain ⟨ys, m, hsy⟩ := scans_ex s.length s (Nat.le_refl _)
  have hle1 := scans_le hsx
  have hle2 := scans_le hsy
  rw [HL.out.1] at hle1
  rw [HL.out.2] at hle2
  obtain ⟨X, hX⟩ : ∃ X, xs.length = X := ⟨_, rfl⟩
  obtain ⟨Y, hY⟩ : ∃ Y, ys.length = Y := ⟨_, rfl⟩
  rw [hX] at hle1
  rw [hY] at hle2
  have HX : Hid (xs.length = X ∧ ys.length = Y) := ⟨hX, hY⟩
  have HLe : Hid (([] : Row).length + l.length ≤ 140737488355328) := by
    show 0 + l.length ≤ _
    rw [HL.out.1]; omega
  have HLf : Hid (l.length + s.length ≤ 140737488355328 ∧ (l ++ s).length ≤ 1000000000) := by
    refine ⟨?_, ?_⟩
    · rw [HL.out.1, HL.out.2]; omega
    · rw [List.length_append, HL.out.1, HL.out.2]; omega
  have HS1 : Hid (∀ w', Below w.heap.size w w' → Calls Try.prog 13 #[.slice a0 len0 cap0] w' fun e w2 => ∃ a c, e = .returned (.tuple #[.slice a X c, .int .i64 (n : Nat)]) ∧ RowsV w2 (.slice a X c) xs ∧ Below w.heap.size w w2) := fun w' hB =>
    (scan_is _ _ _ _ w' (HR.out.1.below hB) (by rw [HL.out.1]; omega) hsx).mono fun e w2 ⟨a, c, he, hR, h2⟩ => by
      rw [hX] at he hR
      exact ⟨a, c, he, hR, hB.trans (h2.mono hB.size)⟩
  have HS2 : Hid (∀ w', Below w.heap.size w w' → Calls Try.prog 13 #[.slice a1 len1 cap1] w' fun e w2 => ∃ a c, e = .returned (.tuple #[.slice a Y c, .int .i64 (m : Nat)]) ∧ RowsV w2 (.slice a Y c) ys ∧ Below w'.heap.size w' w2) := fun w' hB =>
    (scan_is _ _ _ _ w' (HR.out.2.below hB) (by rw [HL.out.2]; omega) hsy).mono fun e w2 ⟨a, c, he, hR, h2⟩ => by
      rw [hY] at he hR
      exact ⟨a, c, he, hR, h2⟩
  by_cases hn : n = len0
  case neg =>
    have hn2 : ¬ (n : Int) = (len0 : Int) := by omega
    clear hX hY hsx hsy
    go_enter Try.func8, Try.ntmps8
    go_wp2_with (first
      | (go_at_call 9; have := H2; refine (HW.out _ H2.out).mono ?_; rintro e w3 ⟨rfl, hB⟩)
      | (go_at_call 13; have := H1; refine (HS2.out _ H1.out.2).mono ?_; rintro e w2 ⟨p2, d2, rfl, hR, hB⟩; have H2 : Hid (Below w.heap.size w w2) := H1.out.2.trans (hB.mono H1.out.2.size); clear hR hB)
      | (go_at_call 13; refine (HS1.out _ (Below.refl _ _)).mono ?_; rintro e w1 ⟨p1, d1, rfl, hR, hB⟩; have H1 : Hid (RowsV w1 (.slice p1 X d1) xs ∧ Below w.heap.size w w1) := ⟨hR, hB⟩; clear hR hB))
    go_ret
    exact ⟨rfl, hB⟩
  case pos =>
    subst hn
    have HS3 : Hid (∀ w' v, ReadsV w' v (l ++ s) → Calls Try.prog 13 #[v] w' fun e w2 => ∃ a c, e = .returned (.tuple #[.slice a (X + Y) c, .int .i64 ((n + m : Nat) : Int)]) ∧ RowsV w2 (.slice a (X + Y) c) (xs ++ ys) ∧ Below w'.heap.size w' w2) := fun w' v hr => by
      have hj := scans_join (a := l) (b := s) (by rw [HL.out.1]; exact hsx) hsy
      rw [HL.out.1] at hj
      refine (scan_is _ _ _ _ w' hr HLf.out.2 hj).mono fun e w2 ⟨a, c, he, hR, h2⟩ => ?_
      rw [List.length_append, hX, hY] at he hR
      exact ⟨a, c, he, hR, h2⟩
    clear hX hY hsx hsy
    have HTk : Hid ((xs ++ ys).take X = xs ∧ (xs ++ ys).drop X = ys) := ⟨by rw [← HX.out.1]; exact List.take_left, by rw [← HX.out.1]; exact List.drop_left⟩
    go_enter Try.func8, Try.ntmps8
    go_wp2_with (first
      | (go_at_call 9; have := H7; refine (HW.out _ H7.out).mono ?_; rintro e w8 ⟨rfl, hB⟩)
      | (go_at_call 15; have := H6; refine (sameAll_yes _ _ ys _ (back_is H6.out.1 HTk.out.2) H6.out.2.1).mono ?_; rintro e w7 ⟨rfl, hB⟩; have H7 : Hid (Below w.heap.size w w7) := H6.out.2.2.trans (hB.mono H6.out.2.2.size); clear hB H6)
      | (go_at_call 15; have := H5; refine (sameAll_yes _ _ xs _ (front_is H5.out.1 (by omega) HTk.out.1) H5.out.2.1).mono ?_; rintro e w6 ⟨rfl, hB⟩; have H6 : Hid (RowsV w6 (.slice p5 (X + Y) d5) (xs ++ ys) ∧ RowsV w6 (.slice p2 Y d2) ys ∧ Below w.heap.size w w6) := ⟨H5.out.1.below hB, H5.out.2.2.1.below hB, H5.out.2.2.2.trans (hB.mono H5.out.2.2.2.size)⟩; clear hB)
      | (go_at_call 13; have := H4; refine (HS3.out _ _ (ReadsV.of_own H4.out.1)).mono ?_; rintro e w5 ⟨p5, d5, rfl, hR, hB⟩; have H5 : Hid (RowsV w5 (.slice p5 (X + Y) d5) (xs ++ ys) ∧ RowsV w5 (.slice p1 X d1) xs ∧ RowsV w5 (.slice p2 Y d2) ys ∧ Below w.heap.size w w5) := ⟨hR, H2.out.1.below (H4.out.2.trans (hB.mono H4.out.2.size)), H2.out.2.1.below (H4.out.2.trans (hB.mono H4.out.2.size)), H2.out.2.2.trans ((H4.out.2.trans (hB.mono H4.out.2.size)).mono H2.out.2.2.size)⟩; have hd5 : X + Y ≤ d5 := hR.len.2.1; clear hR hB)
      | (at_builtin; have := H3; refine wpList_append_bytes rfl (.tmp 39) (.tmp 40) 22 rfl w2.heap.size Try.underlying22 Try.info5 _ l rfl H3.out.1 _ s rfl (HR.out.2.below (H2.out.2.2.trans (H3.out.2.mono H2.out.2.2.size))) HLf.out.1 H3.out.2.size ?_; intro v4 w4 hown hB; have H4 : Hid (Owns w4 w2.heap.size v4 (l ++ s) ∧ Below w2.heap.size w2 w4) := ⟨hown, H3.out.2.trans hB⟩; clear hown hB H3)
      | (at_builtin; have := H2; refine wpList_append_bytes rfl (.tmp 36) (.tmp 37) 22 rfl w2.heap.size Try.underlying22 Try.info5 _ [] rfl (Owns.nil _ _) _ l rfl (HR.out.1.below H2.out.2.2) HLe.out (Nat.le_refl _) ?_; intro v3 w3 hown hB; have H3 : Hid (Owns w3 w2.heap.size v3 l ∧ Below w2.heap.size w2 w3) := ⟨hown, hB⟩; clear hown hB)
      | (go_at_call 13; have := H1; refine (HS2.out _ H1.out.2).mono ?_; rintro e w2 ⟨p2, d2, rfl, hR, hB⟩; have H2 : Hid (RowsV w2 (.slice p1 X d1) xs ∧ RowsV w2 (.slice p2 Y d2) ys ∧ Below w.heap.size w w2) := ⟨H1.out.1.below hB, hR, H1.out.2.trans (hB.mono H1.out.2.size)⟩; clear hR hB)
      | (go_at_call 13; refine (HS1.out _ (Below.refl _ _)).mono ?_; rintro e w1 ⟨p1, d1, rfl, hR, hB⟩; have H1 : Hid (RowsV w1 (.slice p1 X d1) xs ∧ Below w.heap.size w w1) := ⟨hR, hB⟩; clear hR hB))
    all_goals go_ret
    all_goals exact ⟨rfl, hB⟩

/-! ### THE ROW's STEP: WRITTEN OUT: LEAVE IT -/
set_option maxRecDepth 100000 in
theorem lifted (os : Os) (started : os.Started) (H : Type) (enc : TypeId × Value → H) :
    ReturnsInHanded {} Try.checked os 8 .any (Rows.frameJoinsSpec.pre6 enc Try.prog Try.f8 Rows.frameJoinsRow.domain false) (Rows.frameJoinsSpec.post enc Try.prog Try.f8 false true false false) := by
  refine returnsInHanded_of_change (C := Try.checked) own started (by kernel_rfl) Try.func8
    (ChangeSpec.witness6 (enc := enc) (C := Try.checked) false ⟨#[], #[.slice none 0 0, .slice none 0 0], []⟩ 8 (by kernel_rfl) (by kernel_rfl) (by kernel_rfl) (by kernel_rfl)) ?_
  intro W base args ds gs before hval0 hW hcnd _
  have hval : ∀ (j : Nat) t v, Try.f8.params[j]? = some t → args[j]? = some v → Value.okWide Try.prog W .any base t v := hval0
  have hW' := hW
  obtain ⟨p, q, hA0, hV, rfl, hfz, hnd⟩ := hW
  have hA : DataW.TrodAll enc Try.prog W 0 (fun _ => true) true Try.f8.params.toList args.toList ds p := hA0
  rw [Try.params8] at hA hval
  obtain ⟨v0, vs0, d0, ds0, p0, q0, hargs, rfl, rfl, h0, r0⟩ := trodAll_cons hA
  obtain ⟨v1, vs1, d1, ds1, p1, q1, rfl, rfl, rfl, h1, r1⟩ := trodAll_cons r0
  obtain ⟨rfl, rfl, rfl⟩ := trodAll_nil r1
  obtain rfl : args = #[v0, v1] := by cases args; simp_all
  obtain ⟨rfl, rfl⟩ := trodVars_none hV
  obtain ⟨a0, len0, cap0, rfl⟩ := okWide_slice Try.underlying22 (hval 0 22 v0 rfl rfl)
  have k0 := h0
  have lt0 : ∀ x ∈ p0, x.block < W.heap.size := by obtain ⟨m, hm⟩ := k0; exact DataW.trod_lt m _ _ _ hm
  obtain ⟨z0, w0⟩ : ∃ zs, IsRow .u8 W a0 len0 cap0 zs := by
    obtain ⟨fuel, hf⟩ := h0
    rcases open_ints Try.underlying22 Try.underlying5 (by kernel_rfl) hf with ⟨hcs, _⟩ | ⟨x, l, c, zs, hcs, _, hl, hm, hz, _, hcell, hwz⟩
    · simp [Value.cells] at hcs
      obtain ⟨rfl, rfl, rfl⟩ := hcs
      exact ⟨[], .inl ⟨rfl, rfl, rfl, rfl⟩⟩
    · simp [Value.cells] at hcs
      obtain ⟨rfl, rfl, rfl⟩ := hcs
      exact ⟨zs, .inr ⟨_, rfl, hl, hm, by simpa using hz, hcell, hwz⟩⟩
  obtain ⟨a1, len1, cap1, rfl⟩ := okWide_slice Try.underlying22 (hval 1 22 v1 rfl rfl)
  have k1 := h1
  have lt1 : ∀ x ∈ p1, x.block < W.heap.size := by obtain ⟨m, hm⟩ := k1; exact DataW.trod_lt m _ _ _ hm
  obtain ⟨z1, w1⟩ : ∃ zs, IsRow .u8 W a1 len1 cap1 zs := by
    obtain ⟨fuel, hf⟩ := h1
    rcases open_ints Try.underlying22 Try.underlying5 (by kernel_rfl) hf with ⟨hcs, _⟩ | ⟨x, l, c, zs, hcs, _, hl, hm, hz, _, hcell, hwz⟩
    · simp [Value.cells] at hcs
      obtain ⟨rfl, rfl, rfl⟩ := hcs
      exact ⟨[], .inl ⟨rfl, rfl, rfl, rfl⟩⟩
    · simp [Value.cells] at hcs
      obtain ⟨rfl, rfl, rfl⟩ := hcs
      exact ⟨zs, .inr ⟨_, rfl, hl, hm, by simpa using hz, hcell, hwz⟩⟩
  clear hA0 hval0
  refine (walk a0 len0 cap0 z0 a1 len1 cap1 z1 W w0 w1).mono fun e W' ⟨he, bel⟩ => ?_
  subst he
  exact ⟨_, rfl, _, _, _, [], _, [], hW', trodAll_mk1 (shut_bool Try.underlying4 _), (trodAll_cons_mk (Below.trod laidOut (by kernel_rfl) (of_decide_eq_true (by kernel_rfl)) k0 bel lt0) (trodAll_cons_mk (Below.trod laidOut (by kernel_rfl) (of_decide_eq_true (by kernel_rfl)) k1 bel lt1) trodAll_mk0)), rfl, bel.frame _, fun h => by cases h⟩

theorem over : Rows.frameJoinsRow.holds Try.pinned (OpenSpec.ofChange Rows.frameJoinsSpec) :=
  OpenClaim.holds_of_wide 8 Try.f8 rfl rfl rfl rfl rfl rfl rfl ⟨rfl, rfl, rfl, rfl, rfl⟩ rfl rfl rfl rfl rfl (by kernel_rfl) Try.func8 (by kernel_rfl)
    (of_decide_eq_true (by kernel_rfl)) (by unfold Func.isWrapper; first | (rw [if_pos (by decide +kernel)]; kernel_rfl) | (rw [if_neg (by decide +kernel)]; exact ⟨rfl, rfl⟩))
    (fun os started H enc _ => lifted os started H enc)

/-- ████ THE STATEMENT ████ -/
theorem proved : Rows.FrameJoinsSaid := over
#print axioms proved
end Go.Proofs.Ytccccclnfimcoaa.frameJoins
