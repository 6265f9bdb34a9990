/-
  The sign that stands next, names, rows: contracts.
-/
import Derived.Test.YtjafjheffbbkmaaMem
import Derived.Test.YtjafjheffbbkmaaBase
import Derived.Test.YtjafjheffbbkmaaRows
import Derived.Laws.BitsAllLaws
import Derived.OpenShut
import Derived.WalkKit
import Derived.ProofKit
import Derived.WalkLawsBesides
import Derived.Outline
import Derived.ChangeOld
import Derived.OwnWalk
import Derived.Deep.RegionLaw
namespace Go.Proofs.Ytjafjheffbbkmaa
open Go.RowKit
set_option linter.unusedVariables false



theorem ba_toList (t : Bs) : (ba t).toList = t := by unfold ba; rw [ByteArray.toList_mk]
theorem ba_ne {t l : Bs} (h : ¬ t = l) : ((ba t).toList == l) = false := by rw [ba_toList]; simpa using h
theorem ba_eq {t l : Bs} (h : t = l) : ((ba t).toList == l) = true := by rw [ba_toList]; simpa using h
end Go.Proofs.Ytjafjheffbbkmaa
