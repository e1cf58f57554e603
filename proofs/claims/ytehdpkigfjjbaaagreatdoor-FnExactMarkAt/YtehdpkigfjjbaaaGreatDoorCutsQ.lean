/-
  What toI says: none stands from there on, or the first one.
-/
import Derived.Test.YtehdpkigfjjbaaaGreatDoorCutsP
namespace Go.Proofs.YtehdpkigfjjbaaaGreatDoor.cuts
open Go.RowKit
set_option linter.unusedVariables false
/-- What toI says: none stands from there on, or the first one. -/
theorem toF_spec (s t : ByteArray) : ∀ f k, s.size < k + f → (toF s t f k = none ∧ ∀ j, k ≤ j → isAt s t j = false) ∨ ∃ j, toF s t f k = some j ∧ k ≤ j ∧ isAt s t j = true ∧ ∀ i, k ≤ i → i < j → isAt s t i = false
  | 0, k, h => .inl ⟨rfl, fun j hj => isAt_out (by omega)⟩
  | f + 1, k, h => by
    by_cases hk : k + t.size ≤ s.size
    · cases hb : isAt s t k
      · rw [toF, if_pos hk, if_neg (by rw [hb]; decide)]
        rcases toF_spec s t f (k + 1) (by omega) with ⟨h1, h2⟩ | ⟨j, h1, h2, h3, h4⟩
        · refine .inl ⟨h1, fun j hj => ?_⟩
          by_cases e : j = k
          · rw [e]; exact hb
          · exact h2 j (by omega)
        · refine .inr ⟨j, h1, by omega, h3, fun i h5 h6 => ?_⟩
          by_cases e : i = k
          · rw [e]; exact hb
          · exact h4 i (by omega) h6
      · rw [toF, if_pos hk, if_pos hb]
        exact .inr ⟨k, rfl, Nat.le_refl _, hb, fun i h5 h6 => by omega⟩
    · rw [toF, if_neg hk]
      exact .inl ⟨rfl, fun j hj => isAt_out (by omega)⟩
theorem toI_spec (s t : ByteArray) (k : Nat) : (toI s t k = none ∧ ∀ j, k ≤ j → isAt s t j = false) ∨ ∃ j, toI s t k = some j ∧ k ≤ j ∧ isAt s t j = true ∧ ∀ i, k ≤ i → i < j → isAt s t i = false := toF_spec s t _ k (by omega)
theorem toI_some {s t : ByteArray} {k j : Nat} (h : toI s t k = some j) : k ≤ j ∧ isAt s t j = true ∧ ∀ i, k ≤ i → i < j → isAt s t i = false := by
  rcases toI_spec s t k with ⟨h1, _⟩ | ⟨i, h1, h2, h3, h4⟩
  · rw [h] at h1; cases h1
  · rw [h] at h1
    cases h1
    exact ⟨h2, h3, h4⟩
theorem toI_none {s t : ByteArray} {k : Nat} (h : toI s t k = none) : ∀ j, k ≤ j → isAt s t j = false := by
  rcases toI_spec s t k with ⟨_, h2⟩ | ⟨i, h1, _⟩
  · exact h2
  · rw [h] at h1; cases h1
theorem isAt_le {s t : ByteArray} {k : Nat} (h : isAt s t k = true) : k + t.size ≤ s.size := by
  by_cases hk : k + t.size ≤ s.size
  · exact hk
  · rw [isAt_out hk] at h; exact absurd h (by decide)
theorem get_one (s : ByteArray) (k : Nat) (h : k < s.size) : s.extract k (k + 1) = ⟨#[s.get! k]⟩ := by
  apply ByteArray.ext
  rw [ByteArray.data_extract]
  apply Array.ext
  · have : s.data.size = s.size := rfl
    simp; omega
  · intro j h1 h2
    obtain rfl : j = 0 := by simpa using h2
    simp only [Array.getElem_extract, Nat.add_zero]
    rw [escs.get_of s _ h]
    rfl
theorem isAt_byte (s : ByteArray) (c : UInt8) (k : Nat) (h : k < s.size) : isAt s ⟨#[c]⟩ k = decide (((s.get! k).toNat : Int) = c.toNat) := by
  rw [isAt_in (by show k + 1 ≤ s.size; omega)]
  show ((s.extract k (k + 1)).toList == _) = _
  rw [get_one s k h, ByteArray.toList_eq, ByteArray.toList_eq, Bool.eq_iff_iff]
  simp only [beq_iff_eq, decide_eq_true_eq, List.cons.injEq, and_true]
  constructor
  · intro e; rw [e]
  · intro e; exact UInt8.toNat_inj.1 (by omega)
end Go.Proofs.YtehdpkigfjjbaaaGreatDoor.cuts
