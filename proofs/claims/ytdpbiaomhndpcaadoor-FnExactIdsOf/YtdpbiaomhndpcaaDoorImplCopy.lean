/-
  What the program's copyNode answers (slices.Clone at its three lists).
-/
import Derived.Test.YtdpbiaomhndpcaaDoorCopyP
import Derived.Deep.RegionWith
namespace Go.Proofs.YtdpbiaomhndpcaaDoor.trees
open Go.ChangeShapes Go.WideShapes Go.ChangeAt Go.RowKit
open pairs (Pair at0 PairsAt)
set_option linter.unusedVariables false
end Go.Proofs.YtdpbiaomhndpcaaDoor.trees
