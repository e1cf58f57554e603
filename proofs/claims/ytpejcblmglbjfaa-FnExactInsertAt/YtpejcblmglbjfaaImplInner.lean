/-
  What the program's Inner answers: slices.Concat, and slices.Grow within it.
-/
import Derived.Test.YtpejcblmglbjfaaScopeP
import Derived.Test.YtpejcblmglbjfaaPairOwnDecl
namespace Go.Proofs.Ytpejcblmglbjfaa.scopes
open Go.ChangeShapes Go.WideShapes Go.ChangeAt Go.RowKit
open pairs (Pair at0 PairsAt)
set_option linter.unusedVariables false
theorem grown_both (w : World) (n : Nat) (h0 : 0 < n) (hn : n ≤ 4000000) : (Question.appendCap n 0 84).cut (w.tape w.drawn (Question.appendCap n 0 84)) ≤ maxLen ∧ n ≤ (Question.appendCap n 0 84).cut (w.tape w.drawn (Question.appendCap n 0 84)) :=
  ⟨grownCap_le_maxLen w n 0 _ (by unfold maxLen; omega), grownCap_ge w n 0 _⟩
theorem own_under {t : TypeId} {w : World} {B B' : Nat} {v : Value} {L : List Pair} (h : pairs.OwnP t w B v L) (hB : B' ≤ B) : pairs.OwnP t w B' v L := by
  refine ⟨h.1, ?_⟩
  rcases h.2 with h1 | ⟨g, cap, cur, e, hb, rest⟩
  · exact .inl h1
  · exact .inr ⟨g, cap, cur, e, by omega, rest⟩
end Go.Proofs.Ytpejcblmglbjfaa.scopes
