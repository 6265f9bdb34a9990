/-
  Proved: for bytes of a packet of which some within four were turned are none; the law PacketTurned returns true, and all arguments read behind the call as they read before. Conditions: none.
  The frame below the walk follows the guide's program (proof-skeleton), by hand; the walk is by hand.
-/
import Derived.Test.YtcaddedkodjgcaaRows
import Derived.Test.YtcaddedkodjgcaaKl7
import Derived.Test.YtcaddedkodjgcaaKwk
import Derived.Test.YtcaddedkodjgcaaKjf
import Derived.WalkKit
import Derived.ProofKit
import Derived.OpenShut
import Derived.ShutString
import Derived.ChangeOld
import Derived.Below
import Derived.SizedLaws
import Derived.Carry
namespace Go.Proofs.Ytcaddedkodjgcaa.packetTurned
open Go.ChangeShapes Go.WideShapes Go.ChangeAt Go.RowKit Pack
set_option linter.unusedVariables false

theorem own : ownKnob Try.prog.godebug = none := by kernel_rfl
theorem laidOut : laidOutB Try.prog = true := by kernel_rfl

theorem walk (hpg : PgOk) (f0 t0 : Int) (l0 : List Ms) (a0 : Option Addr) (cap0 : Nat) (a1 : Int) (a2 : Int) (w : World) (hf0 : InR f0) (ht0 : InR t0) (w0 : RwV msR w (fun _ => True) a0 cap0 l0) (m0 : ∀ x ∈ l0, MsR x) (w1 : InR a1) (w2 : ∃ b : BitVec 32, a2 = Crc.W b) :
    Calls Try.prog 7 #[.agg #[.int .i64 f0, .int .i64 t0, .slice a0 l0.length cap0], .int .i64 a1, .int .u32 a2] w fun e w' => e = .returned (.bool true) ∧ Below w.heap.size w w' :=
  (by obtain ⟨b2, rfl⟩ := w2; exact turned_walk hpg (fun wr => works_any hpg wr) w0 m0 hf0 ht0 a1 b2)

set_option maxRecDepth 100000 in
theorem lifted (hpg : PgOk) (os : Os) (started : os.Started) (H : Type) (enc : TypeId × Value → H) :
    ReturnsInHanded {} Try.checked os 7 .any (Rows.packetTurnedSpec.pre6 enc Try.prog Try.f7 Rows.packetTurnedRow.domain false) (Rows.packetTurnedSpec.post enc Try.prog Try.f7 false true false false) := by
  refine returnsInHanded_of_change (C := Try.checked) own started (by kernel_rfl) Try.func7
    (ChangeSpec.witness6 (enc := enc) (C := Try.checked) false ⟨#[], #[.agg #[.int .i64 0, .int .i64 0, .slice none 0 0], .int .i64 0, .int .u32 0], []⟩ 8 (by kernel_rfl) (by kernel_rfl) (by kernel_rfl) (by kernel_rfl)) ?_
  intro W base args ds gs before hval0 hW hcnd _
  have hval : ∀ (j : Nat) t v, Try.f7.params[j]? = some t → args[j]? = some v → Value.okWide Try.prog W .any base t v := hval0
  have hW' := hW
  obtain ⟨p, q, hA0, hV, rfl, hfz, hnd⟩ := hW
  have hA : DataW.TrodAll enc Try.prog W 0 (fun _ => true) true Try.f7.params.toList args.toList ds p := hA0
  rw [Try.params7] at hA hval
  obtain ⟨v0, vs0, d0, ds0, p0, q0, hargs, rfl, rfl, h0, r0⟩ := trodAll_cons hA
  obtain ⟨v1, vs1, d1, ds1, p1, q1, rfl, rfl, rfl, h1, r1⟩ := trodAll_cons r0
  obtain ⟨v2, vs2, d2, ds2, p2, q2, rfl, rfl, rfl, h2, r2⟩ := trodAll_cons r1
  obtain ⟨rfl, rfl, rfl⟩ := trodAll_nil r2
  obtain rfl : args = #[v0, v1, v2] := by cases args; simp_all
  obtain ⟨rfl, rfl⟩ := trodVars_none hV
  have k0 := h0
  have lt0 : ∀ x ∈ p0, x.block < W.heap.size := by obtain ⟨m, hm⟩ := k0; exact DataW.trod_lt m _ _ _ hm
  obtain ⟨f0, t0, l0, a0, cap0, rfl, hf0, ht0, w0, m0⟩ := pkt_of_Trod h0
  obtain ⟨a1, rfl, rfl, rfl, wf1⟩ := open_int Try.underlying3 (hval 1 3 v1 rfl rfl) h1
  have w1 := in_of_wf wf1
  obtain ⟨a2, rfl, rfl, rfl, wf2⟩ := open_int Try.underlying39 (hval 2 39 v2 rfl rfl) h2
  have w2 : ∃ b : BitVec 32, a2 = Crc.W b := Crc.word_of_int wf2
  clear hA0 hval0
  refine (walk hpg f0 t0 l0 a0 cap0 a1 a2 W hf0 ht0 w0 m0 w1 w2).mono fun e W' ⟨he, bel⟩ => ?_
  subst he
  exact ⟨_, rfl, _, _, _, [], _, [], hW', trodAll_mk1 (shut_bool Try.underlying4 _), (trodAll_cons_mk (Below.trod laidOut (by kernel_rfl) (of_decide_eq_true (by kernel_rfl)) k0 bel lt0) (trodAll_cons_mk (shut_int Try.underlying3 wf1) (trodAll_cons_mk (shut_int Try.underlying39 wf2) trodAll_mk0))), rfl, bel.frame _, fun h => by cases h⟩

theorem over (hpg : PgOk) : Rows.packetTurnedRow.holds Try.pinned (OpenSpec.ofChange Rows.packetTurnedSpec) :=
  OpenClaim.holds_of_wide 7 Try.f7 rfl rfl rfl rfl rfl rfl rfl ⟨rfl, rfl, rfl, rfl, rfl⟩ rfl rfl rfl rfl rfl (by kernel_rfl) Try.func7 (by kernel_rfl)
    (of_decide_eq_true (by kernel_rfl)) (by unfold Func.isWrapper; first | (rw [if_pos (by decide +kernel)]; kernel_rfl) | (rw [if_neg (by decide +kernel)]; exact ⟨rfl, rfl⟩))
    (fun os started H enc _ => lifted hpg os started H enc)

/-- ████ THE STATEMENT ████ -/
theorem proved : Rows.PacketTurnedSaid :=
  over pgok
#print axioms proved
end Go.Proofs.Ytcaddedkodjgcaa.packetTurned
