/-
  Plain facts on UTF-8 and numbers: nothing of a program.
-/
import Derived.WalkKit
import Derived.ProofKit
import Derived.Laws.BytesArg
import Derived.Below
import Derived.Lib.DecodeN
import Derived.Lib.RuneCountTail
import Derived.Laws.RangeAny
namespace Go.Proofs.Ytpejcblmglbjfaa.texts
open Go.RowKit
set_option linter.unusedVariables false
/-! ### The plain part -/
def stx (n : Int) : ByteArray := if Utf8.valid n = true then Utf8.encode n else ⟨#[]⟩

theorem i64_and63 (n : Int) : bits .and .i64 n 63 = n % 64 := by
  have h63 : (BitVec.ofInt 64 63).toNat = 2 ^ 6 - 1 := by decide
  have key : (BitVec.ofInt 64 n &&& BitVec.ofInt 64 63).toNat = (n % ((2 ^ 64 : Nat) : Int)).toNat % 2 ^ 6 := by
    rw [BitVec.toNat_and, BitVec.toNat_ofInt, h63, Nat.and_two_pow_sub_one_eq_mod]
  show IntKind.i64.wrap ((BitVec.ofInt 64 n &&& BitVec.ofInt 64 63).toNat : Nat) = n % 64
  rw [key, IntKind.wrap_i64]
  omega

theorem valid_lo {n : Int} (h : 0 ≤ n) (h1 : n < 55296) : Utf8.valid n = true := by simp [Utf8.valid]; omega
theorem valid_hi {n : Int} (h : 57343 < n) (h1 : n ≤ 1114111) : Utf8.valid n = true := by simp [Utf8.valid]; omega
theorem valid_no {n : Int} (h : n < 0 ∨ (55296 ≤ n ∧ n ≤ 57343) ∨ 1114111 < n) : Utf8.valid n = false := by
  rw [validRune_eq]; simp [validRune]; omega
theorem stx_no {n : Int} (h : n < 0 ∨ (55296 ≤ n ∧ n ≤ 57343) ∨ 1114111 < n) : stx n = ⟨#[]⟩ := by
  unfold stx; rw [valid_no h]; rfl
theorem stx_yes {n : Int} (h : Utf8.valid n = true) : stx n = Utf8.encode n := by unfold stx; rw [if_pos h]
theorem enc1 {n : Int} (h : 0 ≤ n) (h1 : n < 128) : strOfNums [n] = Utf8.encode n := by
  unfold Utf8.encode; rw [valid_lo h (by omega)]
  simp only [if_true]
  rw [if_pos (by omega)]; rfl
theorem enc2 {n : Int} (h : 128 ≤ n) (h1 : n < 2048) : strOfNums [192 + n / 64, 128 + n % 64] = Utf8.encode n := by
  unfold Utf8.encode; rw [valid_lo (by omega) (by omega)]
  simp only [if_true]
  rw [if_neg (by omega), if_pos (by omega)]
  simp only [strOfNums, List.map_cons, List.map_nil]
  rw [show (192 + n / 64).toNat = 192 + n.toNat / 64 by omega, show (128 + n % 64).toNat = 128 + n.toNat % 64 by omega]
theorem enc3 {n : Int} (h : 2048 ≤ n) (h1 : n < 65536) (hv : Utf8.valid n = true) : strOfNums [224 + n / 4096, 128 + n / 64 % 64, 128 + n % 64] = Utf8.encode n := by
  unfold Utf8.encode; rw [hv]
  simp only [if_true]
  rw [if_neg (by omega), if_neg (by omega), if_pos (by omega)]
  simp only [strOfNums, List.map_cons, List.map_nil]
  rw [show (224 + n / 4096).toNat = 224 + n.toNat / 4096 by omega, show (128 + n / 64 % 64).toNat = 128 + n.toNat / 64 % 64 by omega, show (128 + n % 64).toNat = 128 + n.toNat % 64 by omega]
theorem enc4 {n : Int} (h : 65536 ≤ n) (h1 : n ≤ 1114111) : strOfNums [240 + n / 262144, 128 + n / 4096 % 64, 128 + n / 64 % 64, 128 + n % 64] = Utf8.encode n := by
  unfold Utf8.encode; rw [valid_hi (by omega) (by omega)]
  simp only [if_true]
  rw [if_neg (by omega), if_neg (by omega), if_neg (by omega)]
  simp only [strOfNums, List.map_cons, List.map_nil]
  rw [show (240 + n / 262144).toNat = 240 + n.toNat / 262144 by omega, show (128 + n / 4096 % 64).toNat = 128 + n.toNat / 4096 % 64 by omega, show (128 + n / 64 % 64).toNat = 128 + n.toNat / 64 % 64 by omega, show (128 + n % 64).toNat = 128 + n.toNat % 64 by omega]
theorem ret_str {a b : ByteArray} (h : a = b) : Ending.returned (.string a) = .returned (.string b) := by rw [h]

end Go.Proofs.Ytpejcblmglbjfaa.texts
namespace Go.Proofs.Ytpejcblmglbjfaa.dec
open Go.RowKit
open texts
set_option linter.unusedVariables false

theorem len_list (s : ByteArray) : s.data.toList.length = s.size := Array.length_toList
theorem get!_eq (s : ByteArray) (j : Nat) (h : j < s.size) : s.get! j = s.data.toList[j]'(by rw [len_list]; exact h) := by
  have := get_at s j h
  simp only [Nat.add_zero] at this
  rw [this]; rfl
theorem ext_list {a : ByteArray} {l : List UInt8} (h : a.data.toList = l) : a = ⟨l.toArray⟩ := by
  apply ByteArray.ext
  rw [← h]
theorem extract1 (s : ByteArray) (i : Nat) (h : i + 1 ≤ s.size) : s.extract i (i + 1) = ⟨#[s.get! i]⟩ := by
  refine ext_list ?_
  rw [ByteArray.data_extract, Array.toList_extract]
  rw [get!_eq s i (by omega)]
  have hl := len_list s
  apply List.ext_getElem
  · simp; omega
  · intro n h1 h2
    simp at h2
    obtain rfl : n = 0 := by omega
    simp
theorem extract2 (s : ByteArray) (i : Nat) (h : i + 2 ≤ s.size) : s.extract i (i + 2) = ⟨#[s.get! i, s.get! (i + 1)]⟩ := by
  refine ext_list ?_
  rw [ByteArray.data_extract, Array.toList_extract]
  rw [get!_eq s i (by omega), get!_eq s (i + 1) (by omega)]
  apply List.ext_getElem
  · have hl := len_list s
    simp; omega
  · intro n h1 h2
    simp at h2
    rcases (show n = 0 ∨ n = 1 by omega) with rfl | rfl <;> simp
theorem extract3 (s : ByteArray) (i : Nat) (h : i + 3 ≤ s.size) : s.extract i (i + 3) = ⟨#[s.get! i, s.get! (i + 1), s.get! (i + 2)]⟩ := by
  refine ext_list ?_
  rw [ByteArray.data_extract, Array.toList_extract]
  rw [get!_eq s i (by omega), get!_eq s (i + 1) (by omega), get!_eq s (i + 2) (by omega)]
  apply List.ext_getElem
  · have hl := len_list s
    simp; omega
  · intro n h1 h2
    simp at h2
    rcases (show n = 0 ∨ n = 1 ∨ n = 2 by omega) with rfl | rfl | rfl <;> simp
theorem extract4 (s : ByteArray) (i : Nat) (h : i + 4 ≤ s.size) : s.extract i (i + 4) = ⟨#[s.get! i, s.get! (i + 1), s.get! (i + 2), s.get! (i + 3)]⟩ := by
  refine ext_list ?_
  rw [ByteArray.data_extract, Array.toList_extract]
  rw [get!_eq s i (by omega), get!_eq s (i + 1) (by omega), get!_eq s (i + 2) (by omega), get!_eq s (i + 3) (by omega)]
  apply List.ext_getElem
  · have hl := len_list s
    simp; omega
  · intro n h1 h2
    simp at h2
    rcases (show n = 0 ∨ n = 1 ∨ n = 2 ∨ n = 3 by omega) with rfl | rfl | rfl | rfl <;> simp
theorem byte_of {n : Nat} {b : UInt8} (h : n = b.toNat) : UInt8.ofNat n = b := by subst h; simp
set_option maxRecDepth 100000 in
set_option maxHeartbeats 4000000 in
/-- The four ways in which something right stands at a place; else 65533 of one byte. -/
theorem decodeN_ways (n b0 b1 b2 b3 : Nat) (h0 : b0 < 256) (h1 : b1 < 256) (h2 : b2 < 256) (h3 : b3 < 256) (hn : 1 ≤ n) :
    Lib.decodeN n b0 b1 b2 b3 = (65533, 1) ∨
    (∃ c, Lib.decodeN n b0 b1 b2 b3 = (c, 1) ∧ c < 128 ∧ b0 = c) ∨
    (∃ c, Lib.decodeN n b0 b1 b2 b3 = (c, 2) ∧ 2 ≤ n ∧ 128 ≤ c ∧ c < 2048 ∧ b0 = 192 + c / 64 ∧ b1 = 128 + c % 64) ∨
    (∃ c, Lib.decodeN n b0 b1 b2 b3 = (c, 3) ∧ 3 ≤ n ∧ 2048 ≤ c ∧ c < 65536 ∧ ¬ (55296 ≤ c ∧ c ≤ 57343) ∧ b0 = 224 + c / 4096 ∧ b1 = 128 + c / 64 % 64 ∧ b2 = 128 + c % 64) ∨
    (∃ c, Lib.decodeN n b0 b1 b2 b3 = (c, 4) ∧ 4 ≤ n ∧ 65536 ≤ c ∧ c ≤ 1114111 ∧ b0 = 240 + c / 262144 ∧ b1 = 128 + c / 4096 % 64 ∧ b2 = 128 + c / 64 % 64 ∧ b3 = 128 + c % 64) := by
  unfold Lib.decodeN
  repeat' split
  · exact .inr (.inl ⟨_, rfl, by omega, rfl⟩)
  · exact .inr (.inr (.inl ⟨_, rfl, by omega, by omega, by omega, by omega, by omega⟩))
  · exact .inl rfl
  · exact .inr (.inr (.inr (.inl ⟨_, rfl, by omega, by omega, by omega, by omega, by omega, by omega, by omega⟩)))
  · exact .inl rfl
  · exact .inr (.inr (.inr (.inr ⟨_, rfl, by omega, by omega, by omega, by omega, by omega, by omega, by omega⟩)))
  · exact .inl rfl
  · exact .inl rfl
/-- What was decoded is written as it stood. -/
theorem back (s : ByteArray) (i : Nat) (hi : i < s.size) (h : Utf8.decode s i ≠ (65533, 1)) :
    i + (Utf8.decode s i).2 ≤ s.size ∧ stx ((Utf8.decode s i).1 : Int) = s.extract i (i + (Utf8.decode s i).2) := by
  have l0 := (s.get! i).toNat_lt
  have l1 := (s.get! (i + 1)).toNat_lt
  have l2 := (s.get! (i + 2)).toNat_lt
  have l3 := (s.get! (i + 3)).toNat_lt
  have hw := decodeN_ways (s.size - i) (s.get! i).toNat (s.get! (i + 1)).toNat (s.get! (i + 2)).toNat (s.get! (i + 3)).toNat l0 l1 l2 l3 (by omega)
  rw [← Lib.decode_at s i] at hw
  rcases hw with e | ⟨c, e, hc, g0⟩ | ⟨c, e, hn, hc, hc1, g0, g1⟩ | ⟨c, e, hn, hc, hc1, hc2, g0, g1, g2⟩ | ⟨c, e, hn, hc, hc1, g0, g1, g2, g3⟩
  · exact absurd e h
  · rw [e]
    refine ⟨by show i + 1 ≤ s.size; omega, ?_⟩
    show stx (c : Int) = s.extract i (i + 1)
    rw [extract1 s i (by omega), stx_yes (valid_lo (by omega) (by omega))]
    unfold Utf8.encode
    rw [valid_lo (n := (c : Int)) (by omega) (by omega)]
    simp only [if_true, Int.toNat_natCast]
    rw [if_pos (by omega), byte_of g0.symm]
  · rw [e]
    refine ⟨by show i + 2 ≤ s.size; omega, ?_⟩
    show stx (c : Int) = s.extract i (i + 2)
    rw [extract2 s i (by omega), stx_yes (valid_lo (by omega) (by omega))]
    unfold Utf8.encode
    rw [valid_lo (n := (c : Int)) (by omega) (by omega)]
    simp only [if_true, Int.toNat_natCast]
    rw [if_neg (by omega), if_pos (by omega), byte_of g0.symm, byte_of g1.symm]
  · have hv : Utf8.valid (c : Int) = true := by rw [validRune_eq]; simp [validRune]; omega
    rw [e]
    refine ⟨by show i + 3 ≤ s.size; omega, ?_⟩
    show stx (c : Int) = s.extract i (i + 3)
    rw [extract3 s i (by omega), stx_yes hv]
    unfold Utf8.encode
    rw [hv]
    simp only [if_true, Int.toNat_natCast]
    rw [if_neg (by omega), if_neg (by omega), if_pos (by omega), byte_of g0.symm, byte_of g1.symm, byte_of g2.symm]
  · rw [e]
    refine ⟨by show i + 4 ≤ s.size; omega, ?_⟩
    show stx (c : Int) = s.extract i (i + 4)
    rw [extract4 s i (by omega), stx_yes (valid_hi (by omega) (by omega))]
    unfold Utf8.encode
    rw [valid_hi (n := (c : Int)) (by omega) (by omega)]
    simp only [if_true, Int.toNat_natCast]
    rw [if_neg (by omega), if_neg (by omega), if_neg (by omega), byte_of g0.symm, byte_of g1.symm, byte_of g2.symm, byte_of g3.symm]
/-- Where nothing right stands, 65533 is not written so. -/
theorem bad (s : ByteArray) (i j : Nat) (h : j ≤ i + 1) : stx 65533 ≠ s.extract i j := by
  intro e
  have e1 : (stx 65533).size = 3 := by decide
  rw [e, ByteArray.size_extract] at e1
  omega
theorem decode_pos (s : ByteArray) (i : Nat) (hi : i < s.size) : 1 ≤ (Utf8.decode s i).2 := by
  have l0 := (s.get! i).toNat_lt
  have l1 := (s.get! (i + 1)).toNat_lt
  have l2 := (s.get! (i + 2)).toNat_lt
  have l3 := (s.get! (i + 3)).toNat_lt
  have hw := decodeN_ways (s.size - i) (s.get! i).toNat (s.get! (i + 1)).toNat (s.get! (i + 2)).toNat (s.get! (i + 3)).toNat l0 l1 l2 l3 (by omega)
  rw [← Lib.decode_at s i] at hw
  rcases hw with e | ⟨c, e, _⟩ | ⟨c, e, _⟩ | ⟨c, e, _⟩ | ⟨c, e, _⟩ <;> rw [e] <;> simp
theorem decode_valid (s : ByteArray) (i : Nat) (hi : i < s.size) : Utf8.valid ((Utf8.decode s i).1 : Int) = true := by
  have l0 := (s.get! i).toNat_lt
  have l1 := (s.get! (i + 1)).toNat_lt
  have l2 := (s.get! (i + 2)).toNat_lt
  have l3 := (s.get! (i + 3)).toNat_lt
  have hw := decodeN_ways (s.size - i) (s.get! i).toNat (s.get! (i + 1)).toNat (s.get! (i + 2)).toNat (s.get! (i + 3)).toNat l0 l1 l2 l3 (by omega)
  rw [← Lib.decode_at s i] at hw
  rcases hw with e | ⟨c, e, hc, _⟩ | ⟨c, e, _, hc, hc1, _⟩ | ⟨c, e, _, hc, hc1, hc2, _⟩ | ⟨c, e, _, hc, hc1, _⟩ <;> rw [e] <;> rw [validRune_eq] <;> simp [validRune] <;> omega
end Go.Proofs.Ytpejcblmglbjfaa.dec
