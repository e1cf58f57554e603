/-
  A sign comes back of its bytes: the decoding of what a sign is written as.
-/
import Derived.Test.YtlkolhfhcicpdaaPlain
namespace Go.Proofs.Ytlkolhfhcicpdaa.dec
open Go.RowKit
open texts
set_option linter.unusedVariables false
theorem get0 (l : List UInt8) (x : UInt8) : (⟨(x :: l).toArray⟩ : ByteArray).get! 0 = x := rfl
theorem ofNat_small {n : Nat} (h : n < 256) : (UInt8.ofNat n).toNat = n := by simp; omega
set_option maxRecDepth 100000 in
set_option maxHeartbeats 2000000 in
theorem enc_dec (n : Int) (h : Utf8.valid n = true) : ((Utf8.decode (Utf8.encode n) 0).1 : Int) = n ∧ (Utf8.decode (Utf8.encode n) 0).2 = (Utf8.encode n).size ∧ 0 < (Utf8.encode n).size ∧ Utf8.decode (Utf8.encode n) 0 ≠ (65533, 1) := by
  have hv := h
  rw [validRune_eq] at hv
  simp [validRune] at hv
  obtain ⟨c, rfl⟩ : ∃ c : Nat, n = c := ⟨n.toNat, by omega⟩
  rw [Lib.decode_at]
  unfold Utf8.encode
  rw [h]
  simp only [if_true, Int.toNat_natCast]
  by_cases h1 : c < 128
  · rw [if_pos h1]
    show ((Lib.decodeN 1 (UInt8.ofNat c).toNat _ _ _).1 : Int) = c ∧ (Lib.decodeN 1 (UInt8.ofNat c).toNat _ _ _).2 = 1 ∧ 0 < 1 ∧ Lib.decodeN 1 (UInt8.ofNat c).toNat _ _ _ ≠ (65533, 1)
    rw [ofNat_small (by omega)]
    unfold Lib.decodeN
    rw [if_pos h1]
    exact ⟨rfl, rfl, by omega, by intro e; have := congrArg Prod.fst e; simp only at this; omega⟩
  · rw [if_neg h1]
    by_cases h2 : c < 2048
    · rw [if_pos h2]
      show ((Lib.decodeN 2 (UInt8.ofNat (192 + c / 64)).toNat (UInt8.ofNat (128 + c % 64)).toNat _ _).1 : Int) = c ∧ (Lib.decodeN 2 (UInt8.ofNat (192 + c / 64)).toNat (UInt8.ofNat (128 + c % 64)).toNat _ _).2 = 2 ∧ 0 < 2 ∧ Lib.decodeN 2 (UInt8.ofNat (192 + c / 64)).toNat (UInt8.ofNat (128 + c % 64)).toNat _ _ ≠ (65533, 1)
      rw [ofNat_small (n := 192 + c / 64) (by omega), ofNat_small (n := 128 + c % 64) (by omega)]
      unfold Lib.decodeN
      rw [if_neg (by omega), if_pos (by omega), if_pos (by omega)]
      exact ⟨by simp only; omega, rfl, by omega, by intro e; have := congrArg Prod.snd e; simp at this⟩
    · rw [if_neg h2]
      by_cases h3 : c < 65536
      · rw [if_pos h3]
        show ((Lib.decodeN 3 (UInt8.ofNat (224 + c / 4096)).toNat (UInt8.ofNat (128 + c / 64 % 64)).toNat (UInt8.ofNat (128 + c % 64)).toNat _).1 : Int) = c ∧ (Lib.decodeN 3 (UInt8.ofNat (224 + c / 4096)).toNat (UInt8.ofNat (128 + c / 64 % 64)).toNat (UInt8.ofNat (128 + c % 64)).toNat _).2 = 3 ∧ 0 < 3 ∧ Lib.decodeN 3 (UInt8.ofNat (224 + c / 4096)).toNat (UInt8.ofNat (128 + c / 64 % 64)).toNat (UInt8.ofNat (128 + c % 64)).toNat _ ≠ (65533, 1)
        rw [ofNat_small (n := 224 + c / 4096) (by omega), ofNat_small (n := 128 + c / 64 % 64) (by omega), ofNat_small (n := 128 + c % 64) (by omega)]
        unfold Lib.decodeN
        rw [if_neg (by omega), if_neg (by omega), if_pos (by omega), if_pos (by omega)]
        exact ⟨by simp only; omega, rfl, by omega, by intro e; have := congrArg Prod.snd e; simp at this⟩
      · rw [if_neg h3]
        show ((Lib.decodeN 4 (UInt8.ofNat (240 + c / 262144)).toNat (UInt8.ofNat (128 + c / 4096 % 64)).toNat (UInt8.ofNat (128 + c / 64 % 64)).toNat (UInt8.ofNat (128 + c % 64)).toNat).1 : Int) = c ∧ (Lib.decodeN 4 (UInt8.ofNat (240 + c / 262144)).toNat (UInt8.ofNat (128 + c / 4096 % 64)).toNat (UInt8.ofNat (128 + c / 64 % 64)).toNat (UInt8.ofNat (128 + c % 64)).toNat).2 = 4 ∧ 0 < 4 ∧ Lib.decodeN 4 (UInt8.ofNat (240 + c / 262144)).toNat (UInt8.ofNat (128 + c / 4096 % 64)).toNat (UInt8.ofNat (128 + c / 64 % 64)).toNat (UInt8.ofNat (128 + c % 64)).toNat ≠ (65533, 1)
        rw [ofNat_small (n := 240 + c / 262144) (by omega), ofNat_small (n := 128 + c / 4096 % 64) (by omega), ofNat_small (n := 128 + c / 64 % 64) (by omega), ofNat_small (n := 128 + c % 64) (by omega)]
        unfold Lib.decodeN
        rw [if_neg (by omega), if_neg (by omega), if_neg (by omega), if_pos (by omega), if_pos (by omega)]
        exact ⟨by simp only; omega, rfl, by omega, by intro e; have := congrArg Prod.snd e; simp at this⟩
end Go.Proofs.Ytlkolhfhcicpdaa.dec
