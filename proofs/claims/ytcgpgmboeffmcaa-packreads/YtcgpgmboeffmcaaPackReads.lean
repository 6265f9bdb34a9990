/-
  Proved: for every slice of bytes the law PackReads (which number, which bytes any bytes begin with, and what is behind, is what the document's own reading says) returns true, and the slice reads behind the call as it read before. Conditions: none.
  The frame below the walk was written by the guide's program (proof-skeleton); the walk is by hand.
-/
import Derived.Test.YtcgpgmboeffmcaaRows
import Derived.Test.YtcgpgmboeffmcaaReadsA
import Derived.WalkKit
import Derived.ProofKit
import Derived.OpenShut
import Derived.ShutString
import Derived.ChangeOld
import Derived.Below
namespace Go.Proofs.Ytcgpgmboeffmcaa.packReads
open Go.ChangeShapes Go.WideShapes Go.ChangeAt Go.RowKit Pack
open Go.ChangeMaps (open_string shut_string)
set_option linter.unusedVariables false

theorem own : ownKnob Try.prog.godebug = none := by kernel_rfl
theorem laidOut : laidOutB Try.prog = true := by kernel_rfl

/-! ### STEP 1: THE WALK: the Go text returns true, AND WRITES NOTHING THAT WAS THERE: 'Below w.heap.size w w'' (Derived/Below.lean: '.refl', '.alloc', '.drew', '.setCell' at a new block, '.trans'). Open each 'IsRow' by 'rcases' AHEAD of 'go_enter'; part every test ahead of the walk. -/
set_option maxHeartbeats 400000 in
set_option maxRecDepth 100000 in
theorem walk (a0 : Option Addr) (len0 cap0 : Nat) (z0 : List Int) (w : World) (w0 : IsRow .u8 w a0 len0 cap0 z0) :
    Calls Try.prog 4 #[.slice a0 len0 cap0] w fun e w' => e = .returned (.bool true) ∧ Below w.heap.size w w' := by
  obtain ⟨l, hl, hr⟩ := readsV_of w0
  clear w0
  have hnc : len0 ≤ cap0 := hr.cap
  have hcm : cap0 ≤ 9223372036854775807 := by obtain ⟨_, _, hv, _, _, h, _⟩ := hr; simp only [Value.slice.injEq] at hv; rw [maxLen_eq] at h; omega
  by_cases hbig : 3000 < len0
  · clear hr hl
    go_enter Try.func4, Try.ntmps4
    go_wp2_with (go_at_call 8; refine (works_any _).mono ?_; rintro e w' ⟨rfl, hb⟩)
    go_ret
    exact ⟨rfl, hb⟩
  by_cases hok : ∃ k, rd 0 l = .ok k
  case neg =>
    have HR : Hid (ReadsV w (.slice a0 len0 cap0) l) := hr
    have HK : Hid (∀ k, rd 0 l ≠ .ok k) := fun k h => hok ⟨k, h⟩
    obtain ⟨c, hc⟩ : ∃ c, code (rd 0 l) = c := ⟨_, rfl⟩
    have HC : Hid (code (rd 0 l) = c) := hc
    have hc2 : c = 2 ∨ c = 5 := by rw [← hc]; exact code_ne HK.out
    have hne : (c == 0) = false := by simp; omega
    have hne2 : (c != 0) = true := by simp; omega
    clear hok hc hr hl hc2
    go_enter Try.func4, Try.ntmps4
    go_wp2_with (first
      | (go_at_call 19; refine (readUint_err _ l c _ HR.out HK.out HC.out).mono ?_; rintro e w1 ⟨rfl, hB⟩; have HB1 : Hid (Below w.heap.size w w1) := hB; have HR1 : Hid (ReadsV w1 (.slice a0 len0 cap0) l) := HR.out.below HB1.out; clear hB)
      | (go_at_call 20; refine (rreadUint_err _ l c _ HR1.out HK.out HC.out).mono ?_; rintro e w' ⟨rfl, rfl⟩)
      | (go_at_call 21; refine (readInt_err _ l c _ HR1.out HK.out HC.out).mono ?_; rintro e w2 ⟨rfl, hB⟩; have HB2 : Hid (Below w.heap.size w w2) := HB1.out.trans (hB.mono HB1.out.size); have HR2 : Hid (ReadsV w2 (.slice a0 len0 cap0) l) := HR.out.below HB2.out; clear hB)
      | (go_at_call 22; refine (rreadInt_err _ l c _ HR2.out HK.out HC.out).mono ?_; rintro e w' ⟨rfl, rfl⟩)
      | (go_at_call 23; refine (readBytes_err _ l c _ HR2.out HK.out HC.out).mono ?_; rintro e w3 ⟨rfl, hB⟩; have HB3 : Hid (Below w.heap.size w w3) := HB2.out.trans (hB.mono HB2.out.size); have HR3 : Hid (ReadsV w3 (.slice a0 len0 cap0) l) := HR.out.below HB3.out; clear hB)
      | (go_at_call 24; refine (rreadBytes_err _ l c _ HR3.out HK.out HC.out).mono ?_; rintro e w' ⟨rfl, rfl⟩)
      | (go_at_call 16; refine (same_yes _ _ [] _ (ReadsV.nil _) (ReadsV.nil _)).mono ?_; rintro e w' ⟨rfl, rfl⟩)
      | (go_at_call 8; refine (works_any _).mono ?_; rintro e w4 ⟨rfl, hB⟩))
    go_ret
    exact ⟨rfl, HB3.out.trans (hB.mono HB3.out.size)⟩
  case pos =>
    obtain ⟨k, hk⟩ := hok
    obtain ⟨hk0, hkl, hk10, _, hv⟩ := rd0_ok hk
    rw [← hl] at hkl
    obtain ⟨m, hm⟩ : ∃ m, val (l.take k) = m := ⟨_, rfl⟩
    rw [hm] at hv
    by_cases hle : m ≤ len0 - k
    · by_cases hck : cap0 = k
      · have e1 : len0 = k := by omega
        have e2 : m = 0 := by omega
        subst e2
        rw [e1] at hl hr hbig ⊢
        rw [hck] at hr ⊢
        exact reads_end0 a0 k l w hr hk hm (show _ = _ by omega) (Nat.zero_le _) hbig
      · by_cases hckm : cap0 = k + m
        · have e1 : len0 = k + m := by omega
          rw [e1] at hl hr hbig ⊢
          rw [hckm] at hr ⊢
          exact reads_full a0 k m l w hr hk hm (show _ = _ by omega) (show _ ≤ _ by omega) hbig (by omega) hv
        · exact reads_ok a0 len0 cap0 k m l w hr hk hm (show _ = _ by rw [hl]) (show _ ≤ _ by omega) hkl hnc hcm hbig hck hle hckm hv
    · by_cases hck : cap0 = k
      · have e1 : len0 = k := by omega
        rw [e1] at hl hr hbig hle ⊢
        rw [hck] at hr ⊢
        exact reads_end a0 k m l w hr hk hm (show _ = _ by omega) (show _ < _ by omega) hbig (by omega) hv
      · exact reads_short a0 len0 cap0 k m l w hr hk hm (show _ = _ by rw [hl]) (show _ < _ by omega) hkl hnc hcm hbig hck hv

/-! ### THE ROW's STEP: WRITTEN OUT: LEAVE IT -/
set_option maxRecDepth 100000 in
theorem lifted (os : Os) (started : os.Started) (H : Type) (enc : TypeId × Value → H) :
    ReturnsInHanded {} Try.checked os 4 .any (Rows.packReadsSpec.pre6 enc Try.prog Try.f4 Rows.packReadsRow.domain false) (Rows.packReadsSpec.post enc Try.prog Try.f4 false true false false) := by
  refine returnsInHanded_of_change (C := Try.checked) own started (by kernel_rfl) Try.func4
    (ChangeSpec.witness6 (enc := enc) (C := Try.checked) false ⟨#[], #[.slice none 0 0], []⟩ 8 (by kernel_rfl) (by kernel_rfl) (by kernel_rfl) (by kernel_rfl)) ?_
  intro W base args ds gs before hval0 hW hcnd _
  have hval : ∀ (j : Nat) t v, Try.f4.params[j]? = some t → args[j]? = some v → Value.okWide Try.prog W .any base t v := hval0
  have hW' := hW
  obtain ⟨p, q, hA0, hV, rfl, hfz, hnd⟩ := hW
  have hA : DataW.TrodAll enc Try.prog W 0 (fun _ => true) true Try.f4.params.toList args.toList ds p := hA0
  rw [Try.params4] at hA hval
  obtain ⟨v0, vs0, d0, ds0, p0, q0, hargs, rfl, rfl, h0, r0⟩ := trodAll_cons hA
  obtain ⟨rfl, rfl, rfl⟩ := trodAll_nil r0
  obtain rfl : args = #[v0] := by cases args; simp_all
  obtain ⟨rfl, rfl⟩ := trodVars_none hV
  obtain ⟨a0, len0, cap0, rfl⟩ := okWide_slice Try.underlying22 (hval 0 22 v0 rfl rfl)
  have k0 := h0
  have lt0 : ∀ x ∈ p0, x.block < W.heap.size := by obtain ⟨m, hm⟩ := k0; exact DataW.trod_lt m _ _ _ hm
  obtain ⟨z0, w0⟩ : ∃ zs, IsRow .u8 W a0 len0 cap0 zs := by
    obtain ⟨fuel, hf⟩ := h0
    rcases open_ints Try.underlying22 Try.underlying5 (by kernel_rfl) hf with ⟨hcs, _⟩ | ⟨x, l, c, zs, hcs, _, hl, hm, hz, _, hcell, hwz⟩
    · simp [Value.cells] at hcs
      obtain ⟨rfl, rfl, rfl⟩ := hcs
      exact ⟨[], .inl ⟨rfl, rfl, rfl, rfl⟩⟩
    · simp [Value.cells] at hcs
      obtain ⟨rfl, rfl, rfl⟩ := hcs
      exact ⟨zs, .inr ⟨_, rfl, hl, hm, by simpa using hz, hcell, hwz⟩⟩
  clear hA0 hval0
  refine (walk a0 len0 cap0 z0 W w0).mono fun e W' ⟨he, bel⟩ => ?_
  subst he
  exact ⟨_, rfl, _, _, _, [], _, [], hW', trodAll_mk1 (shut_bool Try.underlying4 _), (trodAll_cons_mk (Below.trod laidOut (by kernel_rfl) (of_decide_eq_true (by kernel_rfl)) k0 bel lt0) trodAll_mk0), rfl, bel.frame _, fun h => by cases h⟩

theorem over : Rows.packReadsRow.holds Try.pinned (OpenSpec.ofChange Rows.packReadsSpec) :=
  OpenClaim.holds_of_wide 4 Try.f4 rfl rfl rfl rfl rfl rfl rfl ⟨rfl, rfl, rfl, rfl, rfl⟩ rfl rfl rfl rfl rfl (by kernel_rfl) Try.func4 (by kernel_rfl)
    (of_decide_eq_true (by kernel_rfl)) (by unfold Func.isWrapper; first | (rw [if_pos (by decide +kernel)]; kernel_rfl) | (rw [if_neg (by decide +kernel)]; exact ⟨rfl, rfl⟩))
    (fun os started H enc _ => lifted os started H enc)

/-- ████ THE STATEMENT ████ -/
theorem proved : Rows.PackReadsSaid := over
#print axioms proved
end Go.Proofs.Ytcgpgmboeffmcaa.packReads
