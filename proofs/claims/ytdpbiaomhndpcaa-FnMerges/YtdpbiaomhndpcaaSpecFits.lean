/-
  What the specification's FitsIn answers.
-/
import Derived.Test.YtdpbiaomhndpcaaFitsP
import Derived.Test.YtdpbiaomhndpcaaScope
namespace Go.Proofs.Ytdpbiaomhndpcaa.trees
open Go.ChangeShapes Go.WideShapes Go.ChangeAt Go.RowKit
open pairs (Pair at0 PairsAt)
open scopes (spaceR)
set_option linter.unusedVariables false
theorem ret_bool {a b : Bool} (h : a = b) : Ending.returned (.bool a) = .returned (.bool b) := by rw [h]
end Go.Proofs.Ytdpbiaomhndpcaa.trees
