/-
  What is plain about line ends: no byte 13 is left, and what has none stays.
-/
import Derived.Test.YtdojkaboejndiaaDoorEscP
namespace Go.Proofs.YtdojkaboejndiaaDoor.escs
open Go.RowKit
set_option linter.unusedVariables false
theorem normAt_mem {s : ByteArray} {i : Nat} {z : Int} (h : z ∈ normAt s i) : 0 ≤ z ∧ z ≤ 255 ∧ z ≠ 13 := by
  unfold normAt at h
  split at h
  · rename_i hc
    rw [List.mem_singleton] at h
    have := byteAt_range s i
    rw [h]
    exact ⟨this.1, this.2, hc⟩
  · split at h
    · rw [List.mem_singleton] at h
      rw [h]
      decide
    · cases h
theorem normT_mem {s : ByteArray} {z : Int} : ∀ {k : Nat}, z ∈ normT s k → 0 ≤ z ∧ z ≤ 255 ∧ z ≠ 13
  | 0, h => by cases h
  | k + 1, h => by
    rw [normT, List.mem_append] at h
    rcases h with h | h
    · exact normT_mem h
    · exact normAt_mem h
theorem byte_str (zs : List Int) (i : Nat) (hi : i < zs.length) (h : ∀ z ∈ zs, 0 ≤ z ∧ z ≤ 255) : byteAt (strOfNums zs) i = zs[i] := by
  have hz := h zs[i] (List.getElem_mem hi)
  unfold byteAt strOfNums
  have : ByteArray.get! ⟨(zs.map fun n => UInt8.ofNat n.toNat).toArray⟩ i = UInt8.ofNat zs[i].toNat := by
    show ((zs.map fun n => UInt8.ofNat n.toNat).toArray)[i]! = _
    rw [getElem!_pos _ i (by simpa using hi)]
    simp
  rw [this]
  simp
  omega
theorem norm_byte (s : ByteArray) (i : Nat) (hi : i < (normS s).size) : byteAt (normS s) i ≠ 13 := by
  unfold normS at hi ⊢
  rw [strOfNums_size] at hi
  rw [byte_str _ i hi (fun z hz => ⟨(normT_mem hz).1, (normT_mem hz).2.1⟩)]
  exact (normT_mem (List.getElem_mem hi)).2.2
theorem norm_size (s : ByteArray) : (normS s).size ≤ s.size := by
  unfold normS
  rw [strOfNums_size]
  exact normT_len s s.size
theorem normT_own (s : ByteArray) (h : ∀ i, i < s.size → byteAt s i ≠ 13) : ∀ k, k ≤ s.size → normT s k = (List.range k).map (byteAt s)
  | 0, _ => rfl
  | k + 1, hk => by
    rw [normT, normT_own s h k (by omega), List.range_succ, List.map_append]
    unfold normAt
    rw [if_pos (h k (by omega))]
    rfl
theorem str_bytes (s : ByteArray) : strOfNums ((List.range s.size).map (byteAt s)) = s := by
  apply ByteArray.ext
  apply Array.ext
  · simp [strOfNums]
  · intro i h1 h2
    have hi : i < s.size := h2
    simp [strOfNums, byteAt, get_of s i hi]
    rfl
theorem norm_own (s : ByteArray) (h : ∀ i, i < s.size → byteAt s i ≠ 13) : normS s = s := by
  unfold normS
  rw [normT_own s h s.size (Nat.le_refl _), str_bytes]
theorem norm_norm (s : ByteArray) : normS (normS s) = normS s := norm_own _ (norm_byte s)
end Go.Proofs.YtdojkaboejndiaaDoor.escs
