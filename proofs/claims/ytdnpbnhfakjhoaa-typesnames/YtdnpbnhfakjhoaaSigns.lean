/-
  The sign that stands next, names, rows: contracts.
-/
import Derived.Test.YtdnpbnhfakjhoaaReader
namespace Go.Proofs.Ytdnpbnhfakjhoaa
open Go.RowKit
set_option linter.unusedVariables false


theorem ba_toList (t : Bs) : (ba t).toList = t := by unfold ba; rw [ByteArray.toList_mk]
theorem ba_ne {t l : Bs} (h : ¬ t = l) : ((ba t).toList == l) = false := by rw [ba_toList]; simpa using h
theorem ba_eq {t l : Bs} (h : t = l) : ((ba t).toList == l) = true := by rw [ba_toList]; simpa using h
end Go.Proofs.Ytdnpbnhfakjhoaa
