/-
  LogsChecks: Whether any log may be, whether two are the same, and a copy, are what the chapter says. (13.1, 13.8)
  The frame below the walk follows the guide's program (proof-skeleton), by hand; the walk is by hand.
-/
import Derived.Test.YtmpmbgjdbahmbaaRows
import Derived.Test.YtmpmbgjdbahmbaaChW
import Derived.Test.YtmpmbgjdbahmbaaTak
import Derived.WalkKit
import Derived.ProofKit
import Derived.OpenShut
import Derived.ShutString
import Derived.ChangeOld
import Derived.Below
import Derived.SizedLaws
import Derived.Carry
namespace Go.Proofs.Ytmpmbgjdbahmbaa.logsChecks
open Go.ChangeShapes Go.WideShapes Go.ChangeAt Go.RowKit
set_option linter.unusedVariables false

theorem own : ownKnob Try.prog.godebug = none := by kernel_rfl
theorem laidOut : laidOutB Try.prog = true := by kernel_rfl

theorem walk (b0 bt0 : Int) (l0 : List En) (a0 : Option Addr) (cap0 : Nat) (b1 bt1 : Int) (l1 : List En) (a1 : Option Addr) (cap1 : Nat) (w : World) (hb0 : InR b0) (hbt0 : InR bt0) (w0 : EnsV w (fun _ => True) a0 cap0 l0) (hb1 : InR b1) (hbt1 : InR bt1) (w1 : EnsV w (fun _ => True) a1 cap1 l1) :
    Calls Try.prog 3 #[.agg #[.int .i64 b0, .int .i64 bt0, .slice a0 l0.length cap0], .agg #[.int .i64 b1, .int .i64 bt1, .slice a1 l1.length cap1]] w fun e w' => e = .returned (.bool true) ∧ Below w.heap.size w w' :=
  checks_walk b0 bt0 l0 a0 cap0 b1 bt1 l1 a1 cap1 w hb0 hbt0 w0 hb1 hbt1 w1

set_option maxRecDepth 100000 in
theorem lifted (os : Os) (started : os.Started) (H : Type) (enc : TypeId × Value → H) :
    ReturnsInHanded {} Try.checked os 3 .any (Rows.logsChecksSpec.pre6 enc Try.prog Try.f3 Rows.logsChecksRow.domain false) (Rows.logsChecksSpec.post enc Try.prog Try.f3 false true false false) := by
  refine returnsInHanded_of_change (C := Try.checked) own started (by kernel_rfl) Try.func3
    (ChangeSpec.witness6 (enc := enc) (C := Try.checked) false ⟨#[], #[.agg #[.int .i64 0, .int .i64 0, .slice none 0 0], .agg #[.int .i64 0, .int .i64 0, .slice none 0 0]], []⟩ 8 (by kernel_rfl) (by kernel_rfl) (by kernel_rfl) (by kernel_rfl)) ?_
  intro W base args ds gs before hval0 hW hcnd _
  have hval : ∀ (j : Nat) t v, Try.f3.params[j]? = some t → args[j]? = some v → Value.okWide Try.prog W .any base t v := hval0
  have hW' := hW
  obtain ⟨p, q, hA0, hV, rfl, hfz, hnd⟩ := hW
  have hA : DataW.TrodAll enc Try.prog W 0 (fun _ => true) true Try.f3.params.toList args.toList ds p := hA0
  rw [Try.params3] at hA hval
  obtain ⟨v0, vs0, d0, ds0, p0, q0, hargs, rfl, rfl, h0, r0⟩ := trodAll_cons hA
  obtain ⟨v1, vs1, d1, ds1, p1, q1, rfl, rfl, rfl, h1, r1⟩ := trodAll_cons r0
  obtain ⟨rfl, rfl, rfl⟩ := trodAll_nil r1
  obtain rfl : args = #[v0, v1] := by cases args; simp_all
  obtain ⟨rfl, rfl⟩ := trodVars_none hV
  have k0 := h0
  have lt0 : ∀ x ∈ p0, x.block < W.heap.size := by obtain ⟨m, hm⟩ := k0; exact DataW.trod_lt m _ _ _ hm
  obtain ⟨b0, bt0, l0, a0, cap0, rfl, hb0, hbt0, w0⟩ := log_of_Trod h0
  have k1 := h1
  have lt1 : ∀ x ∈ p1, x.block < W.heap.size := by obtain ⟨m, hm⟩ := k1; exact DataW.trod_lt m _ _ _ hm
  obtain ⟨b1, bt1, l1, a1, cap1, rfl, hb1, hbt1, w1⟩ := log_of_Trod h1
  clear hA0 hval0
  refine (walk b0 bt0 l0 a0 cap0 b1 bt1 l1 a1 cap1 W hb0 hbt0 w0 hb1 hbt1 w1).mono fun e W' ⟨he, bel⟩ => ?_
  subst he
  exact ⟨_, rfl, _, _, _, [], _, [], hW', trodAll_mk1 (shut_bool Try.underlying4 _), (trodAll_cons_mk (Below.trod laidOut (by kernel_rfl) (of_decide_eq_true (by kernel_rfl)) k0 bel lt0) (trodAll_cons_mk (Below.trod laidOut (by kernel_rfl) (of_decide_eq_true (by kernel_rfl)) k1 bel lt1) trodAll_mk0)), rfl, bel.frame _, fun h => by cases h⟩

theorem over : Rows.logsChecksRow.holds Try.pinned (OpenSpec.ofChange Rows.logsChecksSpec) :=
  OpenClaim.holds_of_wide 3 Try.f3 rfl rfl rfl rfl rfl rfl rfl ⟨rfl, rfl, rfl, rfl, rfl⟩ rfl rfl rfl rfl rfl (by kernel_rfl) Try.func3 (by kernel_rfl)
    (of_decide_eq_true (by kernel_rfl)) (by unfold Func.isWrapper; first | (rw [if_pos (by decide +kernel)]; kernel_rfl) | (rw [if_neg (by decide +kernel)]; exact ⟨rfl, rfl⟩))
    (fun os started H enc _ => lifted os started H enc)

/-- ████ THE STATEMENT ████ -/
theorem proved : Rows.LogsChecksSaid :=
  over
#print axioms proved
end Go.Proofs.Ytmpmbgjdbahmbaa.logsChecks
