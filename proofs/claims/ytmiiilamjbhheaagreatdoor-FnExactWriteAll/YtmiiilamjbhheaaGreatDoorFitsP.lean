/-
  Whether a node fits, plain.
-/
import Derived.Test.YtmiiilamjbhheaaGreatDoorNodeFns
import Derived.Test.YtmiiilamjbhheaaGreatDoorScopeP
namespace Go.Proofs.YtmiiilamjbhheaaGreatDoor.trees
open Go.RowKit
open pairs (Pair at0 PairsAt)
open scopes (spaceR)
set_option linter.unusedVariables false
def fitB (L : List Pair) (p u : ByteArray) : Bool := (spaceR L p).2 && ((spaceR L p).1.toList == u.toList)
def attFit (L : List Pair) (x : Att) : Bool := x.pre.toList.isEmpty || fitB L x.pre x.uri
def headFit (L : List Pair) (k : Int) (p u : ByteArray) : Bool := !(k == 1) || fitB L p u
def attsFit (L : List Pair) (ats : List Att) : Bool := (List.range ats.length).all fun i => attFit L (att0 ats i)
mutual
def fitsB : Tree → List Pair → Bool
  | .mk k p l u x ds ats ks, L => headFit (L ++ ds) k p u && (attsFit (L ++ ds) ats && fitsAll ks (L ++ ds))
def fitsAll : List Tree → List Pair → Bool
  | [], _ => true
  | t :: ts, L => fitsB t L && fitsAll ts L
end
theorem all_no {n i : Nat} {f : Nat → Bool} (hi : i < n) (h : f i = false) : (List.range n).all f = false := by
  rw [List.all_eq_false]
  exact ⟨i, List.mem_range.2 hi, by rw [h]; decide⟩
theorem all_yes {n : Nat} {f : Nat → Bool} (h : ∀ i, i < n → f i = true) : (List.range n).all f = true := by
  rw [List.all_eq_true]
  exact fun i hi => h i (List.mem_range.1 hi)
theorem upto_more {n : Nat} {f : Nat → Bool} (h : ∀ i, i < n → f i = true) (h1 : f n = true) : ∀ i, i < n + 1 → f i = true := fun i hi => by
  by_cases e : i = n
  · rw [e]; exact h1
  · exact h i (by omega)
theorem fitsAll_range : ∀ (ks : List Tree) (L : List Pair), fitsAll ks L = (List.range ks.length).all fun i => fitsB (kid ks i) L
  | [], L => by rw [fitsAll]; rfl
  | t :: ts, L => by
    rw [fitsAll, fitsAll_range ts L, List.length_cons, List.range_succ_eq_map, List.all_cons, List.all_map]
    rfl
end Go.Proofs.YtmiiilamjbhheaaGreatDoor.trees
