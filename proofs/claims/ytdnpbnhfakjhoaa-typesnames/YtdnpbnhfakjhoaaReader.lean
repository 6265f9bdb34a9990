/-
  The reader's small methods: contracts.
-/
import Derived.Test.YtdnpbnhfakjhoaaMem
import Derived.Test.YtdnpbnhfakjhoaaSmall
namespace Go.Proofs.Ytdnpbnhfakjhoaa
open Go.RowKit
set_option linter.unusedVariables false


def wordV (x : W) : Value := .agg #[.int .i64 x.kind, .string (ba x.text), .int .i64 x.n, .int .i64 x.pos]
end Go.Proofs.Ytdnpbnhfakjhoaa
