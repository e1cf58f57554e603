/-
  The laws' own helpers on Attrs: how great, a copy, whether two are the same.
-/
import Derived.Test.YtekbpekfomblbaaGreatDoorTreeP
import Derived.Test.YtekbpekfomblbaaGreatDoorQuiet
import Derived.Lib.SmallJoins
namespace Go.Proofs.YtekbpekfomblbaaGreatDoor.trees
open Go.ChangeShapes Go.WideShapes Go.ChangeAt Go.RowKit
set_option linter.unusedVariables false
def Att.size (x : Att) : Nat := x.pre.size + x.loc.size + x.uri.size + x.val.size
def asizeTo (L : List Att) : Nat → Nat
  | 0 => 0
  | k + 1 => asizeTo L k + (att0 L k).size
theorem asizeTo_one (L : List Att) : ∀ {k i : Nat}, i < k → (att0 L i).size ≤ asizeTo L k
  | 0, i, h => by omega
  | k + 1, i, h => by
    rw [asizeTo]
    by_cases e : i = k
    · rw [e]; omega
    · have := asizeTo_one L (k := k) (i := i) (by omega)
      omega
def smallA (L : List Att) : Nat := L.length + asizeTo L L.length
end Go.Proofs.YtekbpekfomblbaaGreatDoor.trees
