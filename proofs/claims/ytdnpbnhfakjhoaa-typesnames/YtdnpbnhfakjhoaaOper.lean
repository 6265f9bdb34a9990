/-
  An operand: contracts.
-/
import Derived.Test.YtdnpbnhfakjhoaaSigns
namespace Go.Proofs.Ytdnpbnhfakjhoaa
open Go.RowKit
set_option linter.unusedVariables false


/-- The result's cells, still as they were made. -/
abbrev Zero4 (w : World) (b : Nat) : Prop := Cell4 w b (.int .i64 0) (.int .i64 0) (.string ⟨#[]⟩) (.slice none 0 0)
abbrev zeroObj : Obj := .cells #[.int .i64 0, .int .i64 0, .string ⟨#[]⟩, .slice none 0 0] 24
end Go.Proofs.Ytdnpbnhfakjhoaa
