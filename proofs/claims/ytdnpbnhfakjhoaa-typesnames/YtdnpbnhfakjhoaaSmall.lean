/-
  The small functions of lex: contracts.
-/
import Derived.Test.YtdnpbnhfakjhoaaBase
import Derived.Test.YtdnpbnhfakjhoaaRows
import Derived.Laws.BitsAllLaws
import Derived.OpenShut
import Derived.WalkKit
import Derived.ProofKit
import Derived.WalkLawsBesides
import Derived.Outline
import Derived.ChangeOld
import Derived.OwnWalk
import Derived.Deep.RegionLaw
namespace Go.Proofs.Ytdnpbnhfakjhoaa
open Go.RowKit
set_option linter.unusedVariables false


set_option maxRecDepth 100000 in
theorem rdigit_any (c : UInt8) (w : World) : Calls Try.prog 84 #[.int .u8 c.toNat] w fun e w' => e = .returned (.bool (digit c)) ∧ w' = w := by
  have hb : c.toNat < 256 := UInt8.toNat_lt _
  have HD : Hid (digit c = (decide (48 ≤ c.toNat) && decide (c.toNat ≤ 57))) := rfl
  have HE : Hid (decide (c.toNat ≤ 57) = decide ((c.toNat : Int) ≤ 57)) := decide_eq_decide.2 (by omega)
  generalize c.toNat = n at *
  by_cases h1 : 48 ≤ n
  · go_enter Try.func84, Try.ntmps84
    go_wp2
    go_ret
    refine ⟨?_, rfl⟩
    rw [HD.out, decide_eq_true h1, HE.out, Bool.true_and]; rfl
  · go_enter Try.func84, Try.ntmps84
    go_wp2
    go_ret
    refine ⟨?_, rfl⟩
    rw [HD.out, decide_eq_false h1]; rfl
set_option maxRecDepth 100000 in
theorem rletter_any (c : UInt8) (w : World) : Calls Try.prog 86 #[.int .u8 c.toNat] w fun e w' => e = .returned (.bool (letter c)) ∧ w' = w := by
  have hb : c.toNat < 256 := UInt8.toNat_lt _
  have HD : Hid (letter c = (decide (97 ≤ c.toNat) && decide (c.toNat ≤ 122))) := rfl
  have HE : Hid (decide (c.toNat ≤ 122) = decide ((c.toNat : Int) ≤ 122)) := decide_eq_decide.2 (by omega)
  generalize c.toNat = n at *
  by_cases h1 : 97 ≤ n
  · go_enter Try.func86, Try.ntmps86
    go_wp2
    go_ret
    refine ⟨?_, rfl⟩
    rw [HD.out, decide_eq_true h1, HE.out, Bool.true_and]; rfl
  · go_enter Try.func86, Try.ntmps86
    go_wp2
    go_ret
    refine ⟨?_, rfl⟩
    rw [HD.out, decide_eq_false h1]; rfl
end Go.Proofs.Ytdnpbnhfakjhoaa
