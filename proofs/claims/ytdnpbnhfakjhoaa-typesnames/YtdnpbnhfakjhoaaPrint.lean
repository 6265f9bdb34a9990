/-
  Print: a contract.
-/
import Derived.Test.YtdnpbnhfakjhoaaPut
import Derived.Test.YtdnpbnhfakjhoaaSide
import Derived.Test.YtdnpbnhfakjhoaaParse
import Derived.Test.YtdnpbnhfakjhoaaSame
namespace Go.Proofs.Ytdnpbnhfakjhoaa
open Go.RowKit
set_option linter.unusedVariables false


/-- The world that stands at the door: the error's variable and the table. -/
structure Ready (w : World) : Prop where
  held : Held w
  tab : Lib.TabIs Try.prog w "internal/strconv.uint64pow10" .u64 Lib.pow10Tab
theorem Ready.below {w w' : World} (h : Ready w) (hb : Below w.heap.size w w') : Ready w' := ⟨h.held.below (Nat.le_refl _) hb, Lib.tabBelow_of_tabIs h.tab w' hb⟩
theorem Ready.alloc {w : World} (h : Ready w) (o : Obj) : Ready (w.alloc o) := h.below ((Below.refl _ _).alloc (Nat.le_refl _) o)
end Go.Proofs.Ytdnpbnhfakjhoaa
