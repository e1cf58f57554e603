/-
  What the specification's SameNode answers: whether two trees are the same.
-/
import Derived.Test.YtdpbiaomhndpcaaNodeEq
import Derived.Test.YtdpbiaomhndpcaaSpecFits
import Derived.Test.YtdpbiaomhndpcaaNeqStruct
import Derived.Deep.QuietTactic
import Derived.BigQuiet
namespace Go.Proofs.Ytdpbiaomhndpcaa.trees
open Go.ChangeShapes Go.WideShapes Go.ChangeAt Go.RowKit
open pairs (Pair at0 PairsAt)
set_option linter.unusedVariables false
attribute [-go_sem] run_neq_struct
attribute [local go_sem] neq_decl guard_decl neq_att guard_att
/-- Whether two trees are the same. -/
noncomputable def sameB (t t' : Tree) : Bool := @decide (t = t') (Classical.propDecidable _)
theorem same_no {t t' : Tree} (h : t ≠ t') : sameB t t' = false := @decide_eq_false _ (Classical.propDecidable _) h
theorem same_yes {t t' : Tree} (h : t = t') : sameB t t' = true := @decide_eq_true _ (Classical.propDecidable _) h
theorem bytes_eq {a b : ByteArray} (h : a.toList = b.toList) : a = b := by
  rw [ByteArray.toList_eq, ByteArray.toList_eq] at h
  exact ByteArray.ext (Array.toList_inj.1 h)
theorem ext_at0 {L M : List Pair} (hl : L.length = M.length) (h : ∀ i, i < L.length → at0 L i = at0 M i) : L = M := by
  apply List.ext_getElem hl
  intro i h1 h2
  have := h i h1
  unfold at0 at this
  simpa [List.getD, h1, h2] using this
theorem ext_att0 {L M : List Att} (hl : L.length = M.length) (h : ∀ i, i < L.length → att0 L i = att0 M i) : L = M := by
  apply List.ext_getElem hl
  intro i h1 h2
  have := h i h1
  unfold att0 at this
  simpa [List.getD, h1, h2] using this
theorem ext_kid {L M : List Tree} (hl : L.length = M.length) (h : ∀ i, i < L.length → kid L i = kid M i) : L = M := by
  apply List.ext_getElem hl
  intro i h1 h2
  have := h i h1
  unfold kid at this
  simpa [List.getD, h1, h2] using this
end Go.Proofs.Ytdpbiaomhndpcaa.trees
