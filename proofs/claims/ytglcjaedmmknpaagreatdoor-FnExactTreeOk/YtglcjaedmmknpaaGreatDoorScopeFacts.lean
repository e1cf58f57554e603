/-
  What a part ahead means: a part ahead that was found means what was asked for; what stands within counts.
-/
import Derived.Test.YtglcjaedmmknpaaGreatDoorScopeP
namespace Go.Proofs.YtglcjaedmmknpaaGreatDoor.scopes
open Go.RowKit
open pairs (Pair at0)
set_option linter.unusedVariables false
theorem toList_inj {a b : ByteArray} (h : a.toList = b.toList) : a = b := by
  rw [ByteArray.toList_eq, ByteArray.toList_eq] at h
  exact ByteArray.ext (Array.toList_inj.1 h)
theorem space_empty (L : List Pair) : (spaceR L ⟨#[]⟩).2 = true := by
  unfold spaceR
  split
  · rfl
  · show (ByteArray.toList ⟨#[]⟩).isEmpty = true
    rw [ByteArray.toList_eq]
    rfl
theorem pre_space {L : List Pair} {uri p : ByteArray} {bare : Bool} (h : preR L uri bare = (p, true)) : spaceR L p = (uri, true) := by
  unfold preR at h
  split at h
  · rename_i hb
    cases h
    rw [Bool.and_eq_true] at hb
    have h1 := hb.2
    unfold bareB at h1
    have h2 := space_empty L
    have h3 := toList_inj (eq_of_beq h1)
    exact Prod.ext h3 h2
  · unfold firstR at h
    split at h
    · rename_i i hi
      cases h
      have hh := List.find?_some hi
      unfold hit at hh
      simp only [Bool.and_eq_true] at hh
      exact Prod.ext (toList_inj (eq_of_beq hh.2.2)) hh.2.1
    · cases h
theorem at_left (L M : List Pair) {i : Nat} (h : i < L.length) : at0 (L ++ M) i = at0 L i := by
  unfold at0
  rw [List.getD_eq_getElem?_getD, List.getElem?_append_left h, ← List.getD_eq_getElem?_getD]
theorem at_right (L M : List Pair) (i : Nat) : at0 (L ++ M) (L.length + i) = at0 M i := by
  unfold at0
  rw [List.getD_eq_getElem?_getD, List.getElem?_append_right (by omega), Nat.add_sub_cancel_left, ← List.getD_eq_getElem?_getD]
theorem last_right (L M : List Pair) (pre : ByteArray) : ∀ k i, lastTo M pre k = some i → lastTo (L ++ M) pre (L.length + k) = some (L.length + i)
  | 0, i, h => by cases h
  | k + 1, i, h => by
    rw [lastTo] at h
    rw [← Nat.add_assoc, lastTo, at_right]
    split at h
    · rename_i hq
      cases h
      rw [if_pos hq]
    · rename_i hq
      rw [if_neg hq]
      exact last_right L M pre k i h
theorem last_there (M : List Pair) (i : Nat) : ∀ k, i < k → ∃ j, lastTo M (at0 M i).1 k = some j
  | 0, h => by omega
  | k + 1, h => by
    rw [lastTo]
    split
    · exact ⟨k, rfl⟩
    · rename_i hq
      by_cases e : i = k
      · subst e
        exact absurd (beq_self_eq_true _) hq
      · exact last_there M i k (by omega)
/-- What stands within counts. -/
theorem space_inner (L M : List Pair) {i : Nat} (h : i < M.length) : ∃ y, spaceR (L ++ M) (at0 M i).1 = (y, true) ∧ spaceR M (at0 M i).1 = (y, true) := by
  obtain ⟨j, hj⟩ := last_there M i M.length h
  refine ⟨(at0 M j).2, ?_, space_some hj⟩
  rw [space_some (i := L.length + j) (by rw [List.length_append]; exact last_right L M _ _ _ hj), at_right]
end Go.Proofs.YtglcjaedmmknpaaGreatDoor.scopes
