/-
  The laws' own helpers on slices of structs of two texts (Decl): how great, a copy, whether two are the same.
-/
import Derived.Test.YtdpbiaomhndpcaaPairs
import Derived.Test.YtdpbiaomhndpcaaQuiet
import Derived.Deep.SlicePairs
import Derived.Lib.SmallJoins
namespace Go.Proofs.Ytdpbiaomhndpcaa.pairs
open Go.ChangeShapes Go.WideShapes Go.ChangeAt Go.RowKit
set_option linter.unusedVariables false
end Go.Proofs.Ytdpbiaomhndpcaa.pairs
