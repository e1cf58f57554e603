/-
  What a part ahead means, plain.
-/
import Derived.Test.YtpejcblmglbjfaaPairs
namespace Go.Proofs.Ytpejcblmglbjfaa.scopes
open Go.RowKit
open pairs (Pair at0)
set_option linter.unusedVariables false
theorem ret_bool {a b : Bool} (h : a = b) : Ending.returned (.bool a) = .returned (.bool b) := by rw [h]
def sb (x : ByteArray × Bool) : Value := .tuple #[.string x.1, .bool x.2]
theorem ret_sb {a : ByteArray} {b : Bool} {x : ByteArray × Bool} (h : x = (a, b)) : Ending.returned (.tuple #[.string a, .bool b]) = .returned (sb x) := by rw [h]; rfl

/-! ### Which space -/
def lastTo (L : List Pair) (pre : ByteArray) : Nat → Option Nat
  | 0 => none
  | k + 1 => if ((at0 L k).1.toList == pre.toList) = true then some k else lastTo L pre k
theorem last_yes {L : List Pair} {pre : ByteArray} {k : Nat} (h : ((at0 L k).1.toList == pre.toList) = true) : lastTo L pre (k + 1) = some k := by rw [lastTo, if_pos h]
theorem last_no {L : List Pair} {pre : ByteArray} {k : Nat} (h : ((at0 L k).1.toList == pre.toList) = false) : lastTo L pre (k + 1) = lastTo L pre k := by rw [lastTo, if_neg (by rw [h]; decide)]
def spaceR (L : List Pair) (pre : ByteArray) : ByteArray × Bool := match lastTo L pre L.length with
  | some i => ((at0 L i).2, true)
  | none => (⟨#[]⟩, pre.toList.isEmpty)
theorem space_some {L : List Pair} {pre : ByteArray} {i : Nat} (h : lastTo L pre L.length = some i) : spaceR L pre = ((at0 L i).2, true) := by unfold spaceR; rw [h]
theorem space_none {L : List Pair} {pre : ByteArray} (h : lastTo L pre L.length = none) : spaceR L pre = (⟨#[]⟩, pre.toList.isEmpty) := by unfold spaceR; rw [h]

/-! ### Which part ahead -/
def hit (L : List Pair) (uri : ByteArray) (i : Nat) : Bool := !(at0 L i).1.toList.isEmpty && ((spaceR L (at0 L i).1).2 && ((spaceR L (at0 L i).1).1.toList == uri.toList))
def firstR (L : List Pair) (uri : ByteArray) : ByteArray × Bool := match (List.range L.length).find? (hit L uri) with
  | some i => ((at0 L i).1, true)
  | none => (⟨#[]⟩, false)
def bareB (L : List Pair) (uri : ByteArray) : Bool := (spaceR L ⟨#[]⟩).1.toList == uri.toList
def preR (L : List Pair) (uri : ByteArray) (bare : Bool) : ByteArray × Bool := if (bare && bareB L uri) = true then (⟨#[]⟩, true) else firstR L uri
theorem first_some {L : List Pair} {uri : ByteArray} {k : Nat} (hk : k < L.length) (h : hit L uri k = true) (h0 : ∀ j, j < k → hit L uri j = false) : firstR L uri = ((at0 L k).1, true) := by
  unfold firstR
  have : (List.range L.length).find? (hit L uri) = some k := by
    rw [List.find?_range_eq_some]
    exact ⟨h, by simpa using hk, fun j hj => by rw [h0 j hj]; rfl⟩
  rw [this]
theorem first_none {L : List Pair} {uri : ByteArray} (h0 : ∀ j, j < L.length → hit L uri j = false) : firstR L uri = (⟨#[]⟩, false) := by
  unfold firstR
  have : (List.range L.length).find? (hit L uri) = none := by
    rw [List.find?_range_eq_none]
    exact fun j hj => by rw [h0 j hj]; rfl
  rw [this]
theorem hit_empty {L : List Pair} {uri : ByteArray} {i : Nat} (h : (at0 L i).1.toList.isEmpty = true) : hit L uri i = false := by unfold hit; rw [h]; rfl
theorem hit_eq {L : List Pair} {uri x : ByteArray} {ok : Bool} {i : Nat} (h : (at0 L i).1.toList.isEmpty = false) (h1 : spaceR L (at0 L i).1 = (x, ok)) : hit L uri i = (ok && (x.toList == uri.toList)) := by unfold hit; rw [h, h1]; rfl
theorem hits_next {L : List Pair} {uri : ByteArray} {i : Nat} (h : ∀ j, j < i → hit L uri j = false) (h1 : hit L uri i = false) : ∀ j, j < i + 1 → hit L uri j = false := fun j hj => by
  by_cases e : j = i
  · rw [e]; exact h1
  · exact h j (by omega)
theorem pre_bare {L : List Pair} {uri : ByteArray} (h : bareB L uri = true) : preR L uri true = (⟨#[]⟩, true) := by unfold preR; rw [h]; rfl
theorem pre_not {L : List Pair} {uri : ByteArray} (h : bareB L uri = false) : preR L uri true = firstR L uri := by unfold preR; rw [h]; rfl
theorem pre_named {L : List Pair} {uri : ByteArray} : preR L uri false = firstR L uri := rfl
end Go.Proofs.Ytpejcblmglbjfaa.scopes
