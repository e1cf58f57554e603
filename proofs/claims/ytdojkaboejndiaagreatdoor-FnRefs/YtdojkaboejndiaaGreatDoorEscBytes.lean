/-
  Which bytes what is escaped has not; plain.
-/
import Derived.Test.YtdojkaboejndiaaGreatDoorEscFacts
namespace Go.Proofs.YtdojkaboejndiaaGreatDoor.refs
open Go.RowKit
open escs (byteAt escA escAt escT escS)
set_option linter.unusedVariables false
def okB (attr : Bool) (z : Int) : Prop := z ≠ 60 ∧ z ≠ 62 ∧ z ≠ 13 ∧ (attr = true → z ≠ 34 ∧ z ≠ 9 ∧ z ≠ 10)
theorem okB_of {attr : Bool} {z : Int} (h : z ≠ 60 ∧ z ≠ 62 ∧ z ≠ 13 ∧ z ≠ 34 ∧ z ≠ 9 ∧ z ≠ 10) : okB attr z := ⟨h.1, h.2.1, h.2.2.1, fun _ => h.2.2.2⟩
theorem okB_amp : ∀ j, j < (⟨#[38, 97, 109, 112, 59]⟩ : ByteArray).size → byteAt ⟨#[38, 97, 109, 112, 59]⟩ j ≠ 60 ∧ byteAt ⟨#[38, 97, 109, 112, 59]⟩ j ≠ 62 ∧ byteAt ⟨#[38, 97, 109, 112, 59]⟩ j ≠ 13 ∧ byteAt ⟨#[38, 97, 109, 112, 59]⟩ j ≠ 34 ∧ byteAt ⟨#[38, 97, 109, 112, 59]⟩ j ≠ 9 ∧ byteAt ⟨#[38, 97, 109, 112, 59]⟩ j ≠ 10 := by decide
theorem okB_lt : ∀ j, j < (⟨#[38, 108, 116, 59]⟩ : ByteArray).size → byteAt ⟨#[38, 108, 116, 59]⟩ j ≠ 60 ∧ byteAt ⟨#[38, 108, 116, 59]⟩ j ≠ 62 ∧ byteAt ⟨#[38, 108, 116, 59]⟩ j ≠ 13 ∧ byteAt ⟨#[38, 108, 116, 59]⟩ j ≠ 34 ∧ byteAt ⟨#[38, 108, 116, 59]⟩ j ≠ 9 ∧ byteAt ⟨#[38, 108, 116, 59]⟩ j ≠ 10 := by decide
theorem okB_gt : ∀ j, j < (⟨#[38, 103, 116, 59]⟩ : ByteArray).size → byteAt ⟨#[38, 103, 116, 59]⟩ j ≠ 60 ∧ byteAt ⟨#[38, 103, 116, 59]⟩ j ≠ 62 ∧ byteAt ⟨#[38, 103, 116, 59]⟩ j ≠ 13 ∧ byteAt ⟨#[38, 103, 116, 59]⟩ j ≠ 34 ∧ byteAt ⟨#[38, 103, 116, 59]⟩ j ≠ 9 ∧ byteAt ⟨#[38, 103, 116, 59]⟩ j ≠ 10 := by decide
theorem okB_13 : ∀ j, j < (⟨#[38, 35, 49, 51, 59]⟩ : ByteArray).size → byteAt ⟨#[38, 35, 49, 51, 59]⟩ j ≠ 60 ∧ byteAt ⟨#[38, 35, 49, 51, 59]⟩ j ≠ 62 ∧ byteAt ⟨#[38, 35, 49, 51, 59]⟩ j ≠ 13 ∧ byteAt ⟨#[38, 35, 49, 51, 59]⟩ j ≠ 34 ∧ byteAt ⟨#[38, 35, 49, 51, 59]⟩ j ≠ 9 ∧ byteAt ⟨#[38, 35, 49, 51, 59]⟩ j ≠ 10 := by decide
theorem okB_quot : ∀ j, j < (⟨#[38, 113, 117, 111, 116, 59]⟩ : ByteArray).size → byteAt ⟨#[38, 113, 117, 111, 116, 59]⟩ j ≠ 60 ∧ byteAt ⟨#[38, 113, 117, 111, 116, 59]⟩ j ≠ 62 ∧ byteAt ⟨#[38, 113, 117, 111, 116, 59]⟩ j ≠ 13 ∧ byteAt ⟨#[38, 113, 117, 111, 116, 59]⟩ j ≠ 34 ∧ byteAt ⟨#[38, 113, 117, 111, 116, 59]⟩ j ≠ 9 ∧ byteAt ⟨#[38, 113, 117, 111, 116, 59]⟩ j ≠ 10 := by decide
theorem okB_9 : ∀ j, j < (⟨#[38, 35, 57, 59]⟩ : ByteArray).size → byteAt ⟨#[38, 35, 57, 59]⟩ j ≠ 60 ∧ byteAt ⟨#[38, 35, 57, 59]⟩ j ≠ 62 ∧ byteAt ⟨#[38, 35, 57, 59]⟩ j ≠ 13 ∧ byteAt ⟨#[38, 35, 57, 59]⟩ j ≠ 34 ∧ byteAt ⟨#[38, 35, 57, 59]⟩ j ≠ 9 ∧ byteAt ⟨#[38, 35, 57, 59]⟩ j ≠ 10 := by decide
theorem okB_10 : ∀ j, j < (⟨#[38, 35, 49, 48, 59]⟩ : ByteArray).size → byteAt ⟨#[38, 35, 49, 48, 59]⟩ j ≠ 60 ∧ byteAt ⟨#[38, 35, 49, 48, 59]⟩ j ≠ 62 ∧ byteAt ⟨#[38, 35, 49, 48, 59]⟩ j ≠ 13 ∧ byteAt ⟨#[38, 35, 49, 48, 59]⟩ j ≠ 34 ∧ byteAt ⟨#[38, 35, 49, 48, 59]⟩ j ≠ 9 ∧ byteAt ⟨#[38, 35, 49, 48, 59]⟩ j ≠ 10 := by decide
theorem escAt_ok (attr : Bool) (s : ByteArray) (k : Nat) (hk : k < s.size) : ∀ j, j < (escAt attr s k).size → okB attr (byteAt (escAt attr s k) j) := by
  unfold escs.escAt escs.escA
  by_cases h1 : byteAt s k = 38
  · rw [if_pos h1]; exact fun j hj => okB_of (okB_amp j hj)
  rw [if_neg h1]
  by_cases h2 : byteAt s k = 60
  · rw [if_pos h2]; exact fun j hj => okB_of (okB_lt j hj)
  rw [if_neg h2]
  by_cases h3 : byteAt s k = 62
  · rw [if_pos h3]; exact fun j hj => okB_of (okB_gt j hj)
  rw [if_neg h3]
  by_cases h4 : byteAt s k = 13
  · rw [if_pos h4]; exact fun j hj => okB_of (okB_13 j hj)
  rw [if_neg h4]
  by_cases h5 : attr = true ∧ byteAt s k = 34
  · rw [if_pos h5]; exact fun j hj => okB_of (okB_quot j hj)
  rw [if_neg h5]
  by_cases h6 : attr = true ∧ byteAt s k = 9
  · rw [if_pos h6]; exact fun j hj => okB_of (okB_9 j hj)
  rw [if_neg h6]
  by_cases h7 : attr = true ∧ byteAt s k = 10
  · rw [if_pos h7]; exact fun j hj => okB_of (okB_10 j hj)
  rw [if_neg h7]
  intro j hj
  have hz : (s.extract k (k + 1)).size = 1 := by rw [ByteArray.size_extract]; omega
  obtain rfl : j = 0 := by omega
  have hb : byteAt (s.extract k (k + 1)) 0 = byteAt s k := by
    unfold escs.byteAt
    rw [dec.extract1 s k (by omega)]
    rfl
  rw [hb]
  exact ⟨h2, h3, h4, fun ha => ⟨fun e => h5 ⟨ha, e⟩, fun e => h6 ⟨ha, e⟩, fun e => h7 ⟨ha, e⟩⟩⟩
theorem escT_ok (attr : Bool) (s : ByteArray) : ∀ k, k ≤ s.size → ∀ i, i < (escT attr s k).size → okB attr (byteAt (escT attr s k) i)
  | 0, _, i, hi => absurd hi (Nat.not_lt_zero _)
  | k + 1, hk, i, hi => by
    rw [escT] at hi ⊢
    rw [ByteArray.size_append] at hi
    by_cases hl : i < (escT attr s k).size
    · have := escT_ok attr s k (by omega) i hl
      unfold escs.byteAt at this ⊢
      rw [get_left _ _ _ hl]
      exact this
    · obtain ⟨j, rfl⟩ : ∃ j, i = (escT attr s k).size + j := ⟨i - (escT attr s k).size, by omega⟩
      have := escAt_ok attr s k (by omega) j (by omega)
      unfold escs.byteAt at this ⊢
      rw [get_right _ _ _ (by omega)]
      exact this
theorem esc_ok (attr : Bool) (s : ByteArray) (i : Nat) (hi : i < (escS attr s).size) : okB attr (byteAt (escS attr s) i) := escT_ok attr s s.size (Nat.le_refl _) i hi
theorem escA_le (b : Int) (own : ByteArray) (h : own.size ≤ 1) : (escA false b own).size ≤ (escA true b own).size := by
  unfold escs.escA
  by_cases h1 : b = 38
  · rw [if_pos h1, if_pos h1]; exact Nat.le_refl _
  rw [if_neg h1, if_neg h1]
  by_cases h2 : b = 60
  · rw [if_pos h2, if_pos h2]; exact Nat.le_refl _
  rw [if_neg h2, if_neg h2]
  by_cases h3 : b = 62
  · rw [if_pos h3, if_pos h3]; exact Nat.le_refl _
  rw [if_neg h3, if_neg h3]
  by_cases h4 : b = 13
  · rw [if_pos h4, if_pos h4]; exact Nat.le_refl _
  rw [if_neg h4, if_neg h4, if_neg (by simp), if_neg (by simp), if_neg (by simp)]
  repeat' split
  all_goals first | exact Nat.le_refl _ | exact Nat.le_trans h (by decide)
theorem escT_le (s : ByteArray) : ∀ k, (escT false s k).size ≤ (escT true s k).size
  | 0 => Nat.le_refl _
  | k + 1 => by
    rw [escT, escT, ByteArray.size_append, ByteArray.size_append]
    have := escT_le s k
    have := escA_le (byteAt s k) (s.extract k (k + 1)) (by rw [ByteArray.size_extract]; omega)
    unfold escs.escAt
    omega
theorem esc_le (s : ByteArray) : (escS false s).size ≤ (escS true s).size := escT_le s s.size
end Go.Proofs.YtdojkaboejndiaaGreatDoor.refs
