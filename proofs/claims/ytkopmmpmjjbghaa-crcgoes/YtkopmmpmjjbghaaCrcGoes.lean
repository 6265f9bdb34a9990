/-
  Proved: for every two slices of bytes the law CrcGoes (the sum of one text goes on over another as the sum of both together) returns true, and both slices read behind the call as they read before. Conditions: none.
  The frame below the walk was written by the guide's program (proof-skeleton); the walk is by hand.
-/
import Derived.Test.YtkopmmpmjjbghaaRows
import Derived.Test.YtkopmmpmjjbghaaOwn
import Derived.WalkKit
import Derived.ProofKit
import Derived.OpenShut
import Derived.ShutString
import Derived.ChangeOld
import Derived.Below
namespace Go.Proofs.Ytkopmmpmjjbghaa.crcGoes
open Go.ChangeShapes Go.WideShapes Go.ChangeAt Go.RowKit Crc
open Go.ChangeMaps (open_string shut_string)
set_option linter.unusedVariables false

theorem own : ownKnob Try.prog.godebug = none := by kernel_rfl
theorem laidOut : laidOutB Try.prog = true := by kernel_rfl

theorem update_goes (v : Value) (k l : List (BitVec 8)) (w : World) (hr : ReadsV w v l) : Calls Try.prog 11 #[.int .u32 (W (sum k)), v] w fun e w' => e = .returned (.int .u32 (W (sum (k ++ l)))) ∧ w' = w := by
  have := update_row (sum k) v l w hr
  rw [go_sum] at this
  exact this

/-! ### STEP 1: THE WALK: the Go text returns true, AND WRITES NOTHING THAT WAS THERE: 'Below w.heap.size w w'' (Derived/Below.lean: '.refl', '.alloc', '.drew', '.setCell' at a new block, '.trans'). Open each 'IsRow' by 'rcases' AHEAD of 'go_enter'; part every test ahead of the walk. -/
theorem walk (a0 : Option Addr) (len0 cap0 : Nat) (z0 : List Int) (a1 : Option Addr) (len1 cap1 : Nat) (z1 : List Int) (w : World) (w0 : IsRow .u8 w a0 len0 cap0 z0) (w1 : IsRow .u8 w a1 len1 cap1 z1) :
    Calls Try.prog 4 #[.slice a0 len0 cap0, .slice a1 len1 cap1] w fun e w' => e = .returned (.bool true) ∧ Below w.heap.size w w' := by
  obtain ⟨l, hl, hr⟩ := readsV_of w0
  obtain ⟨m, hk, hq⟩ := readsV_of w1
  clear w0 w1
  have hlm : len0 ≤ 9223372036854775807 := by obtain ⟨_, _, _, _, h⟩ := hr; have := h.1; unfold maxLen at this; omega
  have hmm : len1 ≤ 9223372036854775807 := by obtain ⟨_, _, _, _, h⟩ := hq; have := h.1; unfold maxLen at this; omega
  by_cases hbig : 5000 < len0
  · clear hr hq hl hk
    go_enter Try.func4, Try.ntmps4
    go_wp2_with (go_at_call 8; refine (works_any _).mono ?_; rintro e w' ⟨rfl, hb⟩)
    go_ret
    exact ⟨rfl, hb⟩
  · by_cases hbig2 : 5000 < len1
    · clear hr hq hl hk
      go_enter Try.func4, Try.ntmps4
      go_wp2_with (go_at_call 8; refine (works_any _).mono ?_; rintro e w' ⟨rfl, hb⟩)
      go_ret
      exact ⟨rfl, hb⟩
    · have HL : Hid (len0 = l.length) := hl
      have HK : Hid (len1 = m.length) := hk
      have HR : Hid (ReadsV w (.slice a0 len0 cap0) l) := hr
      have HQ : Hid (ReadsV w (.slice a1 len1 cap1) m) := hq
      have HX : Hid (l.length ≤ 5000 ∧ m.length ≤ 5000) := by constructor <;> omega
      clear hr hq hl hk
      go_enter Try.func4, Try.ntmps4
      go_wp2_with (first
        | (at_builtin; refine wpList_append_bytes rfl (.tmp 15) (.tmp 16) 22 rfl w.heap.size 5 Try.underlying22 Try.info5 _ [] rfl (World.ownsRow_nil _ _ _ _) _ l rfl HR.out (by have := HX.out; simp; omega) (Nat.le_refl _) ?_; intro v1 w1 hown1 hg1; have O1 : Hid (w1.ownsRow w.heap.size 5 1 v1 l.length (bytesV l)) := hown1; have B1 : Hid (Below w.heap.size w w1) := below_nil hg1; clear hown1 hg1)
        | (at_builtin; refine wpList_append_bytes rfl (.tmp 18) (.tmp 19) 22 rfl w.heap.size 5 Try.underlying22 Try.info5 _ l rfl O1.out _ m rfl (HQ.out.below B1.out) (by have := HX.out; omega) B1.out.size ?_; intro v2 w2 hown2 hg2; have O2 : Hid (w2.ownsRow w.heap.size 5 1 v2 (l ++ m).length (bytesV (l ++ m))) := hown2; have B2 : Hid (Below w.heap.size w w2) := below_own B1.out O1.out hg2; clear hown2 hg2)
        | (go_at_call 9; refine (sum_row _ l _ (HR.out.below B2.out)).mono ?_; rintro e w' ⟨rfl, rfl⟩)
        | (go_at_call 9; refine (sum_row _ (l ++ m) _ (ReadsV.of_own O2.out)).mono ?_; rintro e w' ⟨rfl, rfl⟩)
        | (go_at_call 11; refine (update_goes _ l m _ (HQ.out.below B2.out)).mono ?_; rintro e w' ⟨rfl, rfl⟩)
        | (go_at_call 8; refine (works_any _).mono ?_; rintro e w3 ⟨rfl, hb⟩))
      go_ret
      exact ⟨rfl, B2.out.trans (hb.mono B2.out.size)⟩

/-! ### THE ROW's STEP: WRITTEN OUT: LEAVE IT -/
set_option maxRecDepth 100000 in
theorem lifted (os : Os) (started : os.Started) (H : Type) (enc : TypeId × Value → H) :
    ReturnsInHanded {} Try.checked os 4 .any (Rows.crcGoesSpec.pre6 enc Try.prog Try.f4 Rows.crcGoesRow.domain false) (Rows.crcGoesSpec.post enc Try.prog Try.f4 false true false false) := by
  refine returnsInHanded_of_change (C := Try.checked) own started (by kernel_rfl) Try.func4
    (ChangeSpec.witness6 (enc := enc) (C := Try.checked) false ⟨#[], #[.slice none 0 0, .slice none 0 0], []⟩ 8 (by kernel_rfl) (by kernel_rfl) (by kernel_rfl) (by kernel_rfl)) ?_
  intro W base args ds gs before hval0 hW hcnd _
  have hval : ∀ (j : Nat) t v, Try.f4.params[j]? = some t → args[j]? = some v → Value.okWide Try.prog W .any base t v := hval0
  have hW' := hW
  obtain ⟨p, q, hA0, hV, rfl, hfz, hnd⟩ := hW
  have hA : DataW.TrodAll enc Try.prog W 0 (fun _ => true) true Try.f4.params.toList args.toList ds p := hA0
  rw [Try.params4] at hA hval
  obtain ⟨v0, vs0, d0, ds0, p0, q0, hargs, rfl, rfl, h0, r0⟩ := trodAll_cons hA
  obtain ⟨v1, vs1, d1, ds1, p1, q1, rfl, rfl, rfl, h1, r1⟩ := trodAll_cons r0
  obtain ⟨rfl, rfl, rfl⟩ := trodAll_nil r1
  obtain rfl : args = #[v0, v1] := by cases args; simp_all
  obtain ⟨rfl, rfl⟩ := trodVars_none hV
  obtain ⟨a0, len0, cap0, rfl⟩ := okWide_slice Try.underlying22 (hval 0 22 v0 rfl rfl)
  have k0 := h0
  have lt0 : ∀ x ∈ p0, x.block < W.heap.size := by obtain ⟨m, hm⟩ := k0; exact DataW.trod_lt m _ _ _ hm
  obtain ⟨z0, w0⟩ : ∃ zs, IsRow .u8 W a0 len0 cap0 zs := by
    obtain ⟨fuel, hf⟩ := h0
    rcases open_ints Try.underlying22 Try.underlying5 (by kernel_rfl) hf with ⟨hcs, _⟩ | ⟨x, l, c, zs, hcs, _, hl, hm, hz, _, hcell, hwz⟩
    · simp [Value.cells] at hcs
      obtain ⟨rfl, rfl, rfl⟩ := hcs
      exact ⟨[], .inl ⟨rfl, rfl, rfl, rfl⟩⟩
    · simp [Value.cells] at hcs
      obtain ⟨rfl, rfl, rfl⟩ := hcs
      exact ⟨zs, .inr ⟨_, rfl, hl, hm, by simpa using hz, hcell, hwz⟩⟩
  obtain ⟨a1, len1, cap1, rfl⟩ := okWide_slice Try.underlying22 (hval 1 22 v1 rfl rfl)
  have k1 := h1
  have lt1 : ∀ x ∈ p1, x.block < W.heap.size := by obtain ⟨m, hm⟩ := k1; exact DataW.trod_lt m _ _ _ hm
  obtain ⟨z1, w1⟩ : ∃ zs, IsRow .u8 W a1 len1 cap1 zs := by
    obtain ⟨fuel, hf⟩ := h1
    rcases open_ints Try.underlying22 Try.underlying5 (by kernel_rfl) hf with ⟨hcs, _⟩ | ⟨x, l, c, zs, hcs, _, hl, hm, hz, _, hcell, hwz⟩
    · simp [Value.cells] at hcs
      obtain ⟨rfl, rfl, rfl⟩ := hcs
      exact ⟨[], .inl ⟨rfl, rfl, rfl, rfl⟩⟩
    · simp [Value.cells] at hcs
      obtain ⟨rfl, rfl, rfl⟩ := hcs
      exact ⟨zs, .inr ⟨_, rfl, hl, hm, by simpa using hz, hcell, hwz⟩⟩
  clear hA0 hval0
  refine (walk a0 len0 cap0 z0 a1 len1 cap1 z1 W w0 w1).mono fun e W' ⟨he, bel⟩ => ?_
  subst he
  exact ⟨_, rfl, _, _, _, [], _, [], hW', trodAll_mk1 (shut_bool Try.underlying4 _), (trodAll_cons_mk (Below.trod laidOut (by kernel_rfl) (of_decide_eq_true (by kernel_rfl)) k0 bel lt0) (trodAll_cons_mk (Below.trod laidOut (by kernel_rfl) (of_decide_eq_true (by kernel_rfl)) k1 bel lt1) trodAll_mk0)), rfl, bel.frame _, fun h => by cases h⟩

theorem over : Rows.crcGoesRow.holds Try.pinned (OpenSpec.ofChange Rows.crcGoesSpec) :=
  OpenClaim.holds_of_wide 4 Try.f4 rfl rfl rfl rfl rfl rfl rfl ⟨rfl, rfl, rfl, rfl, rfl⟩ rfl rfl rfl rfl rfl (by kernel_rfl) Try.func4 (by kernel_rfl)
    (of_decide_eq_true (by kernel_rfl)) (by unfold Func.isWrapper; first | (rw [if_pos (by decide +kernel)]; kernel_rfl) | (rw [if_neg (by decide +kernel)]; exact ⟨rfl, rfl⟩))
    (fun os started H enc _ => lifted os started H enc)

/-- ████ THE STATEMENT ████ -/
theorem proved : Rows.CrcGoesSaid := over
#print axioms proved
end Go.Proofs.Ytkopmmpmjjbghaa.crcGoes
