/-
  A number's digits behind bytes: contracts with a sharp frame.
-/
import Derived.Test.YtdnpbnhfakjhoaaRowb
import Derived.Test.YtdnpbnhfakjhoaaRows
import Derived.Lib.ItoaWalk
import Derived.Lib.ItoaMem
import Derived.Lib.Walk
import Derived.Lib.BufferKept
import Derived.Lib.Hide
import Derived.Lib.Slices
import Derived.BigCall
import Derived.BigGuard
import Derived.CellFam
namespace Go.Proofs.Ytdnpbnhfakjhoaa
open Go.RowKit Go.Sort
set_option linter.unusedVariables false


theorem Ob.below {w w' : World} {B : Nat} {v : Value} {l : Bs} (h : Ob w B v l) (hb : Below w.heap.size w w') : Ob w' B v l := by
  refine ⟨h.1, ?_⟩
  rcases h.2 with h0 | ⟨g, cap, cur, h1, h2, h3, h4⟩
  · exact .inl h0
  · exact .inr ⟨g, cap, cur, h1, h2, (hb.block g (Array.getElem?_eq_some_iff.1 h3).1).trans h3, h4⟩
end Go.Proofs.Ytdnpbnhfakjhoaa
