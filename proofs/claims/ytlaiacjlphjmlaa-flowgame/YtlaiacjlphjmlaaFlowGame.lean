/-
  FlowGame: however tokens go on in a balanced definition, each stands within as many plays of forks as its place is deep, no join waits for more than come, and when one comes to an end it is the last one, for every definition, every row of moves and every row of flows: no condition.
  The frame below the walk follows the guide's program (proof-skeleton), by hand; the walk is by hand.
-/
import Derived.Test.YtlaiacjlphjmlaaRows
import Derived.Test.YtlaiacjlphjmlaaGmF
import Derived.Test.YtlaiacjlphjmlaaGmG
import Derived.WalkKit
import Derived.ProofKit
import Derived.OpenShut
import Derived.ShutString
import Derived.ChangeOld
import Derived.Below
import Derived.SizedLaws
import Derived.Carry
namespace Go.Proofs.Ytlaiacjlphjmlaa.flowGame
open Go.ChangeShapes Go.WideShapes Go.ChangeAt Go.RowKit
open Go.ChangeMaps (open_string shut_string)
set_option linter.unusedVariables false

theorem own : ownKnob Try.prog.godebug = none := by kernel_rfl
theorem laidOut : laidOutB Try.prog = true := by kernel_rfl

theorem moves (d : Df) (a : Option Addr) (c : Nat) (w : World) (w0 : DfV w (fun _ => True) d a c) (h0 : ofE d = 0) : MovesOk w (ba d.id) a d.places.length c d.places (ofS d) ∧ Gpl d.places d.places.length (ofS d) ∧ kindP d.places 0 = 1 :=
  ⟨fun wx ta tn tc ca cn cc g k b fo ou hb hg hi hk h16 ht hc => Move_ok d _ a c wx ta tn tc ca cn cc g k b fo ou (of_check2 h0) h0 (w0.kept (kept_below hb)) hg hi hk h16 ht hc,
    gpl_of (of_check2 h0) h0, (kind_start (of_check2 h0) (def_facts (of_check2 h0)).pos).mpr rfl⟩

set_option maxRecDepth 100000 in
set_option maxHeartbeats 1000000 in
theorem walk (d0 : Df) (a0 : Option Addr) (cap0 : Nat) (a1 : Option Addr) (n1 c1 : Nat) (a2 : Option Addr) (n2 c2 : Nat) (w : World) (w0 : DfV w (fun _ => True) d0 a0 cap0) (w1 : IzV w a1 n1 c1) (w2 : IzV w a2 n2 c2) :
    Calls Try.prog 5 #[dfA d0 a0 cap0, .slice a1 n1 c1, .slice a2 n2 c2] w fun e w' => e = .returned (.bool true) ∧ Below w.heap.size w w' := by
  exact game_walk d0 a0 cap0 _ a1 n1 c1 a2 n2 c2 w w0 rfl w1 w2 (fun h => moves d0 a0 cap0 w w0 h)

set_option maxRecDepth 100000 in
theorem lifted (os : Os) (started : os.Started) (H : Type) (enc : TypeId × Value → H) :
    ReturnsInHanded {} Try.checked os 5 .any (Rows.flowGameSpec.pre6 enc Try.prog Try.f5 Rows.flowGameRow.domain false) (Rows.flowGameSpec.post enc Try.prog Try.f5 false true false false) := by
  refine returnsInHanded_of_change (C := Try.checked) own started (by kernel_rfl) Try.func5
    (ChangeSpec.witness6 (enc := enc) (C := Try.checked) false ⟨#[], #[.agg #[.string ByteArray.empty, .slice none 0 0], .slice none 0 0, .slice none 0 0], []⟩ 8 (by kernel_rfl) (by kernel_rfl) (by kernel_rfl) (by kernel_rfl)) ?_
  intro W base args ds gs before hval0 hW hcnd _
  have hval : ∀ (j : Nat) t v, Try.f5.params[j]? = some t → args[j]? = some v → Value.okWide Try.prog W .any base t v := hval0
  have hW' := hW
  obtain ⟨p, q, hA0, hV, rfl, hfz, hnd⟩ := hW
  have hA : DataW.TrodAll enc Try.prog W 0 (fun _ => true) true Try.f5.params.toList args.toList ds p := hA0
  rw [Try.params5] at hA hval
  obtain ⟨v0, vs0, d0, ds0, p0, q0, hargs, rfl, rfl, h0, r0⟩ := trodAll_cons hA
  obtain ⟨v1, vs1, d1, ds1, p1, q1, rfl, rfl, rfl, h1, r1⟩ := trodAll_cons r0
  obtain ⟨v2, vs2, d2, ds2, p2, q2, rfl, rfl, rfl, h2, r2⟩ := trodAll_cons r1
  obtain ⟨rfl, rfl, rfl⟩ := trodAll_nil r2
  obtain rfl : args = #[v0, v1, v2] := by cases args; simp_all
  obtain ⟨rfl, rfl⟩ := trodVars_none hV
  have k0 := h0
  have lt0 : ∀ x ∈ p0, x.block < W.heap.size := by obtain ⟨m, hm⟩ := k0; exact DataW.trod_lt m _ _ _ hm
  have k1 := h1
  have lt1 : ∀ x ∈ p1, x.block < W.heap.size := by obtain ⟨m, hm⟩ := k1; exact DataW.trod_lt m _ _ _ hm
  have k2 := h2
  have lt2 : ∀ x ∈ p2, x.block < W.heap.size := by obtain ⟨m, hm⟩ := k2; exact DataW.trod_lt m _ _ _ hm
  obtain ⟨f0, a0, cap0, rfl, w0⟩ := df_of_Trod h0
  obtain ⟨a1, n1, c1, rfl, w1⟩ := ints_of_Trod h1 (okWide_slice Try.underlying27 (hval 1 27 v1 rfl rfl))
  obtain ⟨a2, n2, c2, rfl, w2⟩ := ints_of_Trod h2 (okWide_slice Try.underlying27 (hval 2 27 v2 rfl rfl))
  clear hA0 hval0
  refine (walk f0 a0 cap0 a1 n1 c1 a2 n2 c2 W w0 w1 w2).mono fun e W' ⟨he, bel⟩ => ?_
  subst he
  exact ⟨_, rfl, _, _, _, [], _, [], hW', trodAll_mk1 (shut_bool Try.underlying4 _), (trodAll_cons_mk (Below.trod laidOut (by kernel_rfl) (of_decide_eq_true (by kernel_rfl)) k0 bel lt0) (trodAll_cons_mk (Below.trod laidOut (by kernel_rfl) (of_decide_eq_true (by kernel_rfl)) k1 bel lt1) (trodAll_cons_mk (Below.trod laidOut (by kernel_rfl) (of_decide_eq_true (by kernel_rfl)) k2 bel lt2) trodAll_mk0))), rfl, bel.frame _, fun h => by cases h⟩

theorem over : Rows.flowGameRow.holds Try.pinned (OpenSpec.ofChange Rows.flowGameSpec) :=
  OpenClaim.holds_of_wide 5 Try.f5 rfl rfl rfl rfl rfl rfl rfl ⟨rfl, rfl, rfl, rfl, rfl⟩ rfl rfl rfl rfl rfl (by kernel_rfl) Try.func5 (by kernel_rfl)
    (of_decide_eq_true (by kernel_rfl)) (by unfold Func.isWrapper; first | (rw [if_pos (by decide +kernel)]; kernel_rfl) | (rw [if_neg (by decide +kernel)]; exact ⟨rfl, rfl⟩))
    (fun os started H enc _ => lifted os started H enc)

/-- ████ THE STATEMENT ████ -/
theorem proved : Rows.FlowGameSaid :=
  over
#print axioms proved
end Go.Proofs.Ytlaiacjlphjmlaa.flowGame
