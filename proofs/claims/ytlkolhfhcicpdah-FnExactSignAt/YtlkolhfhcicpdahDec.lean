/-
  Plain facts on UTF-8: what a text's decoding at a place gives is written back as the very bytes that stand there, unless nothing right stands there.
-/
import Derived.Test.YtlkolhfhcicpdahText
import Derived.Lib.DecodeN
import Derived.Lib.RuneCountTail
import Derived.Laws.RangeAny
namespace Go.Proofs.Ytlkolhfhcicpdah.dec
open Go.RowKit
open texts
set_option linter.unusedVariables false

theorem len_list (s : ByteArray) : s.data.toList.length = s.size := Array.length_toList
theorem get!_eq (s : ByteArray) (j : Nat) (h : j < s.size) : s.get! j = s.data.toList[j]'(by rw [len_list]; exact h) := by
  have := get_at s j h
  simp only [Nat.add_zero] at this
  rw [this]; rfl
theorem ext_list {a : ByteArray} {l : List UInt8} (h : a.data.toList = l) : a = ⟨l.toArray⟩ := by
  apply ByteArray.ext
  rw [← h]
theorem extract1 (s : ByteArray) (i : Nat) (h : i + 1 ≤ s.size) : s.extract i (i + 1) = ⟨#[s.get! i]⟩ := by
  refine ext_list ?_
  rw [ByteArray.data_extract, Array.toList_extract]
  rw [get!_eq s i (by omega)]
  have hl := len_list s
  apply List.ext_getElem
  · simp; omega
  · intro n h1 h2
    simp at h2
    obtain rfl : n = 0 := by omega
    simp
theorem extract2 (s : ByteArray) (i : Nat) (h : i + 2 ≤ s.size) : s.extract i (i + 2) = ⟨#[s.get! i, s.get! (i + 1)]⟩ := by
  refine ext_list ?_
  rw [ByteArray.data_extract, Array.toList_extract]
  rw [get!_eq s i (by omega), get!_eq s (i + 1) (by omega)]
  apply List.ext_getElem
  · have hl := len_list s
    simp; omega
  · intro n h1 h2
    simp at h2
    rcases (show n = 0 ∨ n = 1 by omega) with rfl | rfl <;> simp
theorem extract3 (s : ByteArray) (i : Nat) (h : i + 3 ≤ s.size) : s.extract i (i + 3) = ⟨#[s.get! i, s.get! (i + 1), s.get! (i + 2)]⟩ := by
  refine ext_list ?_
  rw [ByteArray.data_extract, Array.toList_extract]
  rw [get!_eq s i (by omega), get!_eq s (i + 1) (by omega), get!_eq s (i + 2) (by omega)]
  apply List.ext_getElem
  · have hl := len_list s
    simp; omega
  · intro n h1 h2
    simp at h2
    rcases (show n = 0 ∨ n = 1 ∨ n = 2 by omega) with rfl | rfl | rfl <;> simp
theorem extract4 (s : ByteArray) (i : Nat) (h : i + 4 ≤ s.size) : s.extract i (i + 4) = ⟨#[s.get! i, s.get! (i + 1), s.get! (i + 2), s.get! (i + 3)]⟩ := by
  refine ext_list ?_
  rw [ByteArray.data_extract, Array.toList_extract]
  rw [get!_eq s i (by omega), get!_eq s (i + 1) (by omega), get!_eq s (i + 2) (by omega), get!_eq s (i + 3) (by omega)]
  apply List.ext_getElem
  · have hl := len_list s
    simp; omega
  · intro n h1 h2
    simp at h2
    rcases (show n = 0 ∨ n = 1 ∨ n = 2 ∨ n = 3 by omega) with rfl | rfl | rfl | rfl <;> simp
theorem byte_of {n : Nat} {b : UInt8} (h : n = b.toNat) : UInt8.ofNat n = b := by subst h; simp
set_option maxRecDepth 100000 in
set_option maxHeartbeats 4000000 in
/-- The four ways in which something right stands at a place; else 65533 of one byte. -/
theorem decodeN_ways (n b0 b1 b2 b3 : Nat) (h0 : b0 < 256) (h1 : b1 < 256) (h2 : b2 < 256) (h3 : b3 < 256) (hn : 1 ≤ n) :
    Lib.decodeN n b0 b1 b2 b3 = (65533, 1) ∨
    (∃ c, Lib.decodeN n b0 b1 b2 b3 = (c, 1) ∧ c < 128 ∧ b0 = c) ∨
    (∃ c, Lib.decodeN n b0 b1 b2 b3 = (c, 2) ∧ 2 ≤ n ∧ 128 ≤ c ∧ c < 2048 ∧ b0 = 192 + c / 64 ∧ b1 = 128 + c % 64) ∨
    (∃ c, Lib.decodeN n b0 b1 b2 b3 = (c, 3) ∧ 3 ≤ n ∧ 2048 ≤ c ∧ c < 65536 ∧ ¬ (55296 ≤ c ∧ c ≤ 57343) ∧ b0 = 224 + c / 4096 ∧ b1 = 128 + c / 64 % 64 ∧ b2 = 128 + c % 64) ∨
    (∃ c, Lib.decodeN n b0 b1 b2 b3 = (c, 4) ∧ 4 ≤ n ∧ 65536 ≤ c ∧ c ≤ 1114111 ∧ b0 = 240 + c / 262144 ∧ b1 = 128 + c / 4096 % 64 ∧ b2 = 128 + c / 64 % 64 ∧ b3 = 128 + c % 64) := by
  unfold Lib.decodeN
  repeat' split
  · exact .inr (.inl ⟨_, rfl, by omega, rfl⟩)
  · exact .inr (.inr (.inl ⟨_, rfl, by omega, by omega, by omega, by omega, by omega⟩))
  · exact .inl rfl
  · exact .inr (.inr (.inr (.inl ⟨_, rfl, by omega, by omega, by omega, by omega, by omega, by omega, by omega⟩)))
  · exact .inl rfl
  · exact .inr (.inr (.inr (.inr ⟨_, rfl, by omega, by omega, by omega, by omega, by omega, by omega, by omega⟩)))
  · exact .inl rfl
  · exact .inl rfl
/-- What was decoded is written as it stood. -/
theorem back (s : ByteArray) (i : Nat) (hi : i < s.size) (h : Utf8.decode s i ≠ (65533, 1)) :
    i + (Utf8.decode s i).2 ≤ s.size ∧ stx ((Utf8.decode s i).1 : Int) = s.extract i (i + (Utf8.decode s i).2) := by
  have l0 := (s.get! i).toNat_lt
  have l1 := (s.get! (i + 1)).toNat_lt
  have l2 := (s.get! (i + 2)).toNat_lt
  have l3 := (s.get! (i + 3)).toNat_lt
  have hw := decodeN_ways (s.size - i) (s.get! i).toNat (s.get! (i + 1)).toNat (s.get! (i + 2)).toNat (s.get! (i + 3)).toNat l0 l1 l2 l3 (by omega)
  rw [← Lib.decode_at s i] at hw
  rcases hw with e | ⟨c, e, hc, g0⟩ | ⟨c, e, hn, hc, hc1, g0, g1⟩ | ⟨c, e, hn, hc, hc1, hc2, g0, g1, g2⟩ | ⟨c, e, hn, hc, hc1, g0, g1, g2, g3⟩
  · exact absurd e h
  · rw [e]
    refine ⟨by show i + 1 ≤ s.size; omega, ?_⟩
    show stx (c : Int) = s.extract i (i + 1)
    rw [extract1 s i (by omega), stx_yes (valid_lo (by omega) (by omega))]
    unfold Utf8.encode
    rw [valid_lo (n := (c : Int)) (by omega) (by omega)]
    simp only [if_true, Int.toNat_natCast]
    rw [if_pos (by omega), byte_of g0.symm]
  · rw [e]
    refine ⟨by show i + 2 ≤ s.size; omega, ?_⟩
    show stx (c : Int) = s.extract i (i + 2)
    rw [extract2 s i (by omega), stx_yes (valid_lo (by omega) (by omega))]
    unfold Utf8.encode
    rw [valid_lo (n := (c : Int)) (by omega) (by omega)]
    simp only [if_true, Int.toNat_natCast]
    rw [if_neg (by omega), if_pos (by omega), byte_of g0.symm, byte_of g1.symm]
  · have hv : Utf8.valid (c : Int) = true := by rw [validRune_eq]; simp [validRune]; omega
    rw [e]
    refine ⟨by show i + 3 ≤ s.size; omega, ?_⟩
    show stx (c : Int) = s.extract i (i + 3)
    rw [extract3 s i (by omega), stx_yes hv]
    unfold Utf8.encode
    rw [hv]
    simp only [if_true, Int.toNat_natCast]
    rw [if_neg (by omega), if_neg (by omega), if_pos (by omega), byte_of g0.symm, byte_of g1.symm, byte_of g2.symm]
  · rw [e]
    refine ⟨by show i + 4 ≤ s.size; omega, ?_⟩
    show stx (c : Int) = s.extract i (i + 4)
    rw [extract4 s i (by omega), stx_yes (valid_hi (by omega) (by omega))]
    unfold Utf8.encode
    rw [valid_hi (n := (c : Int)) (by omega) (by omega)]
    simp only [if_true, Int.toNat_natCast]
    rw [if_neg (by omega), if_neg (by omega), if_neg (by omega), byte_of g0.symm, byte_of g1.symm, byte_of g2.symm, byte_of g3.symm]
/-- Where nothing right stands, 65533 is not written so. -/
theorem bad (s : ByteArray) (i j : Nat) (h : j ≤ i + 1) : stx 65533 ≠ s.extract i j := by
  intro e
  have e1 : (stx 65533).size = 3 := by decide
  rw [e, ByteArray.size_extract] at e1
  omega
theorem decode_pos (s : ByteArray) (i : Nat) (hi : i < s.size) : 1 ≤ (Utf8.decode s i).2 := by
  have l0 := (s.get! i).toNat_lt
  have l1 := (s.get! (i + 1)).toNat_lt
  have l2 := (s.get! (i + 2)).toNat_lt
  have l3 := (s.get! (i + 3)).toNat_lt
  have hw := decodeN_ways (s.size - i) (s.get! i).toNat (s.get! (i + 1)).toNat (s.get! (i + 2)).toNat (s.get! (i + 3)).toNat l0 l1 l2 l3 (by omega)
  rw [← Lib.decode_at s i] at hw
  rcases hw with e | ⟨c, e, _⟩ | ⟨c, e, _⟩ | ⟨c, e, _⟩ | ⟨c, e, _⟩ <;> rw [e] <;> simp
theorem decode_valid (s : ByteArray) (i : Nat) (hi : i < s.size) : Utf8.valid ((Utf8.decode s i).1 : Int) = true := by
  have l0 := (s.get! i).toNat_lt
  have l1 := (s.get! (i + 1)).toNat_lt
  have l2 := (s.get! (i + 2)).toNat_lt
  have l3 := (s.get! (i + 3)).toNat_lt
  have hw := decodeN_ways (s.size - i) (s.get! i).toNat (s.get! (i + 1)).toNat (s.get! (i + 2)).toNat (s.get! (i + 3)).toNat l0 l1 l2 l3 (by omega)
  rw [← Lib.decode_at s i] at hw
  rcases hw with e | ⟨c, e, hc, _⟩ | ⟨c, e, _, hc, hc1, _⟩ | ⟨c, e, _, hc, hc1, hc2, _⟩ | ⟨c, e, _, hc, hc1, _⟩ <;> rw [e] <;> rw [validRune_eq] <;> simp [validRune] <;> omega
end Go.Proofs.Ytlkolhfhcicpdah.dec
