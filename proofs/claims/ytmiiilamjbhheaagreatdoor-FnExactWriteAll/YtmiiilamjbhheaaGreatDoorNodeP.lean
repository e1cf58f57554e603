/-
  Which nodes are right: plain.
-/
import Derived.Test.YtmiiilamjbhheaaGreatDoorCountP
import Derived.Test.YtmiiilamjbhheaaGreatDoorDeclP
import Derived.Test.YtmiiilamjbhheaaGreatDoorBlank
namespace Go.Proofs.YtmiiilamjbhheaaGreatDoor.trees
open Go.RowKit
open pairs (Pair at0 PairsAt)
open scopes (xmlB textB declsB)
set_option linter.unusedVariables false
/-! ### Attrs -/
def l5PreB (s : ByteArray) : Bool := s.toList.isEmpty || (names.plainB s && !xmlB s)
def uriB (u : ByteArray) : Bool := textB u && decide (u.size ≤ 40)
def xmlnsB (s : ByteArray) : Bool := s.toList == [120, 109, 108, 110, 115]
def attB (x : Att) : Bool := (l5PreB x.pre && ((x.pre.toList.isEmpty == x.uri.toList.isEmpty) && (names.plainB x.loc && !(x.pre.toList.isEmpty && xmlnsB x.loc)))) && (textB x.val && uriB x.uri)
def lessB (x y : Att) : Bool := Op.bytesLess x.uri.toList y.uri.toList || ((x.uri.toList == y.uri.toList) && Op.bytesLess x.loc.toList y.loc.toList)
/-! ### Texts -/
def hasAt (s t : ByteArray) (i : Nat) : Bool := decide (i + t.size ≤ s.size) && ((s.extract i (i + t.size)).toList == t.toList)
def hasB (s t : ByteArray) : Bool := (List.range (s.size + 1)).any (hasAt s t)
theorem has_yes {s t : ByteArray} {i : Nat} (hi : i + t.size ≤ s.size) (h : ((s.extract i (i + t.size)).toList == t.toList) = true) : hasB s t = true := by
  unfold hasB
  rw [List.any_eq_true]
  exact ⟨i, List.mem_range.2 (by omega), by unfold hasAt; rw [decide_eq_true hi, h]; rfl⟩
theorem has_no {s t : ByteArray} (h : ∀ i, i + t.size ≤ s.size → ((s.extract i (i + t.size)).toList == t.toList) = false) : hasB s t = false := by
  unfold hasB
  rw [List.any_eq_false]
  intro i _
  unfold hasAt
  by_cases hi : i + t.size ≤ s.size
  · rw [decide_eq_true hi, h i hi]; decide
  · rw [decide_eq_false hi, Bool.false_and]; decide
end Go.Proofs.YtmiiilamjbhheaaGreatDoor.trees
