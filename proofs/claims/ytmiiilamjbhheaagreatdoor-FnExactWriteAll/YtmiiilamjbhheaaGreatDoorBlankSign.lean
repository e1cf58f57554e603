/-
  A sign is blank just if its first byte is.
-/
import Derived.Test.YtmiiilamjbhheaaGreatDoorImplAt
import Derived.Test.YtmiiilamjbhheaaGreatDoorBlank
namespace Go.Proofs.YtmiiilamjbhheaaGreatDoor.marks
open Go.RowKit
open blanks (blkB)
set_option linter.unusedVariables false
theorem blk_low {n : Int} (h : blkB n = true) : 0 ≤ n ∧ n < 128 := by
  have := of_decide_eq_true h
  omega
/-- A sign is blank just if its first byte is. -/
theorem sign_blank (s : ByteArray) (k : Nat) (hk : k < s.size) (hd : Utf8.decode s k ≠ (65533, 1)) : blkB ((Utf8.decode s k).1 : Int) = blkB ((s.get! k).toNat : Int) ∧ (blkB ((s.get! k).toNat : Int) = true → (Utf8.decode s k).2 = 1) := by
  have l0 := (s.get! k).toNat_lt
  have l1 := (s.get! (k + 1)).toNat_lt
  have l2 := (s.get! (k + 2)).toNat_lt
  have l3 := (s.get! (k + 3)).toNat_lt
  have hw := dec.decodeN_ways (s.size - k) (s.get! k).toNat (s.get! (k + 1)).toNat (s.get! (k + 2)).toNat (s.get! (k + 3)).toNat l0 l1 l2 l3 (by omega)
  rw [← Lib.decode_at s k] at hw
  have no : ∀ m : Nat, 128 ≤ m → blkB (m : Int) = false := fun m hm => by
    cases e : blkB (m : Int)
    · rfl
    · have := blk_low e; omega
  rcases hw with e | ⟨c, e, hc, g0⟩ | ⟨c, e, hn, hc, hc1, g0, g1⟩ | ⟨c, e, hn, hc, hc1, hc2, g0, g1, g2⟩ | ⟨c, e, hn, hc, hc1, g0, g1, g2, g3⟩
  · exact absurd e hd
  · rw [e, g0]; exact ⟨rfl, fun _ => rfl⟩
  · rw [e, no c (by omega), no _ (by omega : 128 ≤ (s.get! k).toNat)]; exact ⟨rfl, fun h => by cases h⟩
  · rw [e, no c (by omega), no _ (by omega : 128 ≤ (s.get! k).toNat)]; exact ⟨rfl, fun h => by cases h⟩
  · rw [e, no c (by omega), no _ (by omega : 128 ≤ (s.get! k).toNat)]; exact ⟨rfl, fun h => by cases h⟩
theorem bad_blank (s : ByteArray) (k : Nat) (hk : k < s.size) (hd : Utf8.decode s k = (65533, 1)) : blkB ((s.get! k).toNat : Int) = false := by
  cases e : blkB ((s.get! k).toNat : Int)
  · rfl
  · have h := blk_low e
    have h1 : Utf8.decode s k = ((s.get! k).toNat, 1) := by
      rw [Lib.decode_at s k]
      unfold Lib.decodeN
      rw [if_pos (by omega)]
    rw [h1] at hd
    have := congrArg Prod.fst hd
    simp only at this
    omega
end Go.Proofs.YtmiiilamjbhheaaGreatDoor.marks
