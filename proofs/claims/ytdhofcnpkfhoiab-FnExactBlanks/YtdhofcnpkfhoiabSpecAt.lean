/-
  What SignAt answers, of the specification and of the program: the sign that stands at a place of a text, and the place behind it.
-/
import Derived.Test.YtdhofcnpkfhoiabRows
import Derived.Test.YtdhofcnpkfhoiabPlain
import Derived.WalkKit
import Derived.ProofKit
import Derived.Outline
import Derived.LoopTactic
import Derived.OwnWalk
import Derived.Lib.DecodeN
import Derived.Lib.RuneCountTail
namespace Go.Proofs.Ytdhofcnpkfhoiab.signs
open Go.ChangeShapes Go.WideShapes Go.ChangeAt Go.RowKit
set_option linter.unusedVariables false

/-! ### The plain part -/
def acc (b : Nat → Int) (v : Int) : Nat → Int
  | 0 => v
  | k + 1 => acc b v k * 64 + b (k + 1) - 128
def cont (b : Nat → Int) (n : Nat) : Prop := ∀ j, 1 ≤ j → j ≤ n → 128 ≤ b j ∧ b j ≤ 191
theorem cont_succ {b : Nat → Int} {k : Nat} (h : cont b k) (h1 : 128 ≤ b (k + 1)) (h2 : b (k + 1) ≤ 191) : cont b (k + 1) := by
  intro j hj hk
  by_cases e : j = k + 1
  · subst e; exact ⟨h1, h2⟩
  · exact h j hj (by omega)
theorem acc_bd {b : Nat → Int} {v : Int} {k : Nat} (hk : k ≤ 3) (hv : 0 ≤ v) (hv2 : v ≤ 31) (hc : cont b k) : 0 ≤ acc b v k ∧ acc b v k ≤ 8388607 := by
  rcases (show k = 0 ∨ k = 1 ∨ k = 2 ∨ k = 3 by omega) with rfl | rfl | rfl | rfl
  · simp only [acc]; omega
  · have := hc 1 (by omega) (by omega); simp only [acc, Nat.zero_add]; omega
  · have := hc 1 (by omega) (by omega); have := hc 2 (by omega) (by omega); simp only [acc, Nat.zero_add, Nat.reduceAdd]; omega
  · have := hc 1 (by omega) (by omega); have := hc 2 (by omega) (by omega); have := hc 3 (by omega) (by omega); simp only [acc, Nat.zero_add, Nat.reduceAdd]; omega
def right (b : Nat → Int) (v least : Int) (n : Nat) : Prop := cont b n ∧ least ≤ acc b v n ∧ acc b v n ≤ 1114111 ∧ ¬ (55296 ≤ acc b v n ∧ acc b v n ≤ 57343)
theorem i64_and31 (n : Int) : bits .and .i64 n 31 = n % 32 := by
  have h63 : (BitVec.ofInt 64 31).toNat = 2 ^ 5 - 1 := by decide
  have key : (BitVec.ofInt 64 n &&& BitVec.ofInt 64 31).toNat = (n % ((2 ^ 64 : Nat) : Int)).toNat % 2 ^ 5 := by
    rw [BitVec.toNat_and, BitVec.toNat_ofInt, h63, Nat.and_two_pow_sub_one_eq_mod]
  show IntKind.i64.wrap ((BitVec.ofInt 64 n &&& BitVec.ofInt 64 31).toNat : Nat) = n % 32
  rw [key, IntKind.wrap_i64]
  omega
theorem i64_and15 (n : Int) : bits .and .i64 n 15 = n % 16 := by
  have h63 : (BitVec.ofInt 64 15).toNat = 2 ^ 4 - 1 := by decide
  have key : (BitVec.ofInt 64 n &&& BitVec.ofInt 64 15).toNat = (n % ((2 ^ 64 : Nat) : Int)).toNat % 2 ^ 4 := by
    rw [BitVec.toNat_and, BitVec.toNat_ofInt, h63, Nat.and_two_pow_sub_one_eq_mod]
  show IntKind.i64.wrap ((BitVec.ofInt 64 n &&& BitVec.ofInt 64 15).toNat : Nat) = n % 16
  rw [key, IntKind.wrap_i64]
  omega
theorem i64_and7 (n : Int) : bits .and .i64 n 7 = n % 8 := by
  have h63 : (BitVec.ofInt 64 7).toNat = 2 ^ 3 - 1 := by decide
  have key : (BitVec.ofInt 64 n &&& BitVec.ofInt 64 7).toNat = (n % ((2 ^ 64 : Nat) : Int)).toNat % 2 ^ 3 := by
    rw [BitVec.toNat_and, BitVec.toNat_ofInt, h63, Nat.and_two_pow_sub_one_eq_mod]
  show IntKind.i64.wrap ((BitVec.ofInt 64 n &&& BitVec.ofInt 64 7).toNat : Nat) = n % 8
  rw [key, IntKind.wrap_i64]
  omega

/-! ### The specification's -/
abbrev nil3 : Value := .tuple #[.int .i64 0, .int .i64 0, .bool false]
abbrev yes3 (v n : Int) : Value := .tuple #[.int .i64 v, .int .i64 n, .bool true]
theorem ret_yes {a b c d : Int} (h : a = c) (h1 : b = d) : Ending.returned (yes3 a b) = .returned (yes3 c d) := by rw [h, h1]
/-! ### The two together: by the model's own decoding of a text at a place -/
def bytesOf (s : ByteArray) (i : Nat) : Nat → Int := fun k => ((s.get! (i + k)).toNat : Int)
theorem bytesOf_bd (s : ByteArray) (i k : Nat) : 0 ≤ bytesOf s i k ∧ bytesOf s i k ≤ 255 := by
  have := (s.get! (i + k)).toNat_lt
  unfold bytesOf; omega
theorem idx (s : ByteArray) (j : Nat) (h : j < s.size) (W : World) : (Instr.index 9 (.string s) (.int .i64 (j : Int))).run Try.prog W = .ok (.int .u8 ((s.get! j).toNat : Int)) W := by
  rw [run_index_string W 9 s .i64 j Try.underlying9, dif_pos ⟨by omega, by omega⟩]
  have := get_at s j h
  simp only [Nat.add_zero] at this
  simp [this]
theorem idx_add (s : ByteArray) (i k : Nat) (h : i + (k + 1) < s.size) (W : World) : (Instr.index 9 (.string s) (.int .i64 ((i : Int) + ((k : Int) + 1)))).run Try.prog W = .ok (.int .u8 (bytesOf s i (k + 1))) W := by
  have := idx s (i + (k + 1)) h W
  rw [show ((i + (k + 1) : Nat) : Int) = (i : Int) + ((k : Int) + 1) by omega] at this
  exact this
theorem cont_one {b : Nat → Int} : cont b 1 ↔ 128 ≤ b 1 ∧ b 1 ≤ 191 :=
  ⟨fun h => h 1 (by omega) (by omega), fun h j h1 h2 => by obtain rfl : j = 1 := by omega
                                                           exact h⟩
theorem cont_two {b : Nat → Int} : cont b 2 ↔ (128 ≤ b 1 ∧ b 1 ≤ 191) ∧ (128 ≤ b 2 ∧ b 2 ≤ 191) :=
  ⟨fun h => ⟨h 1 (by omega) (by omega), h 2 (by omega) (by omega)⟩, fun h j h1 h2 => by
    rcases (show j = 1 ∨ j = 2 by omega) with rfl | rfl
    · exact h.1
    · exact h.2⟩
theorem cont_three {b : Nat → Int} : cont b 3 ↔ (128 ≤ b 1 ∧ b 1 ≤ 191) ∧ (128 ≤ b 2 ∧ b 2 ≤ 191) ∧ (128 ≤ b 3 ∧ b 3 ≤ 191) :=
  ⟨fun h => ⟨h 1 (by omega) (by omega), h 2 (by omega) (by omega), h 3 (by omega) (by omega)⟩, fun h j h1 h2 => by
    rcases (show j = 1 ∨ j = 2 ∨ j = 3 by omega) with rfl | rfl | rfl
    · exact h.1
    · exact h.2.1
    · exact h.2.2⟩
set_option maxRecDepth 100000 in
set_option maxHeartbeats 4000000 in
theorem dec_none (n b0 b1 b2 b3 : Nat) (h : 128 ≤ b0 ∧ b0 < 192 ∨ 248 ≤ b0 ∧ b0 ≤ 255) : Lib.decodeN n b0 b1 b2 b3 = (65533, 1) := by
  unfold Lib.decodeN
  repeat' split
  all_goals first | rfl | (exfalso; omega)
set_option maxRecDepth 100000 in
set_option maxHeartbeats 4000000 in
theorem dec_short (n b0 b1 b2 b3 : Nat) (h : (192 ≤ b0 ∧ b0 < 224 ∧ n ≤ 1) ∨ (224 ≤ b0 ∧ b0 < 240 ∧ n ≤ 2) ∨ (240 ≤ b0 ∧ b0 < 248 ∧ n ≤ 3)) : Lib.decodeN n b0 b1 b2 b3 = (65533, 1) := by
  unfold Lib.decodeN
  repeat' split
  all_goals first | rfl | (exfalso; omega)
set_option maxRecDepth 100000 in
set_option maxHeartbeats 4000000 in
theorem dec_two (n b0 b1 b2 b3 : Nat) (hn : 1 < n) (h : 192 ≤ b0) (h1 : b0 < 224) (hb : b1 < 256) (b : Nat → Int) (e1 : b 1 = b1) :
    (right b ((b0 : Int) % 32) 128 1 → ((Lib.decodeN n b0 b1 b2 b3).1 : Int) = acc b ((b0 : Int) % 32) 1 ∧ (Lib.decodeN n b0 b1 b2 b3).2 = 2) ∧ (¬ right b ((b0 : Int) % 32) 128 1 → Lib.decodeN n b0 b1 b2 b3 = (65533, 1)) := by
  unfold right
  rw [cont_one]
  simp only [acc, Nat.zero_add, e1]
  unfold Lib.decodeN
  repeat' split
  all_goals first | (constructor <;> intro r <;> first | (constructor <;> simp only <;> omega) | rfl | (exfalso; omega))
set_option maxRecDepth 100000 in
set_option maxHeartbeats 4000000 in
theorem dec_three (n b0 b1 b2 b3 : Nat) (hn : 2 < n) (h : 224 ≤ b0) (h1 : b0 < 240) (hb : b1 < 256) (hb2 : b2 < 256) (b : Nat → Int) (e1 : b 1 = b1) (e2 : b 2 = b2) :
    (right b ((b0 : Int) % 16) 2048 2 → ((Lib.decodeN n b0 b1 b2 b3).1 : Int) = acc b ((b0 : Int) % 16) 2 ∧ (Lib.decodeN n b0 b1 b2 b3).2 = 3) ∧ (¬ right b ((b0 : Int) % 16) 2048 2 → Lib.decodeN n b0 b1 b2 b3 = (65533, 1)) := by
  unfold right
  rw [cont_two]
  simp only [acc, Nat.zero_add, Nat.reduceAdd, e1, e2]
  unfold Lib.decodeN
  repeat' split
  all_goals first | (constructor <;> intro r <;> first | (constructor <;> simp only <;> omega) | rfl | (exfalso; omega))
set_option maxRecDepth 100000 in
set_option maxHeartbeats 4000000 in
theorem dec_four (n b0 b1 b2 b3 : Nat) (hn : 3 < n) (h : 240 ≤ b0) (h1 : b0 < 248) (hb : b1 < 256) (hb2 : b2 < 256) (hb3 : b3 < 256) (b : Nat → Int) (e1 : b 1 = b1) (e2 : b 2 = b2) (e3 : b 3 = b3) :
    (right b ((b0 : Int) % 8) 65536 3 → ((Lib.decodeN n b0 b1 b2 b3).1 : Int) = acc b ((b0 : Int) % 8) 3 ∧ (Lib.decodeN n b0 b1 b2 b3).2 = 4) ∧ (¬ right b ((b0 : Int) % 8) 65536 3 → Lib.decodeN n b0 b1 b2 b3 = (65533, 1)) := by
  unfold right
  rw [cont_three]
  simp only [acc, Nat.zero_add, Nat.reduceAdd, e1, e2, e3]
  unfold Lib.decodeN
  repeat' split
  all_goals first | (constructor <;> intro r <;> first | (constructor <;> simp only <;> omega) | rfl | (exfalso; omega))
/-- The sign that stands at a place inside a text: what SignAt gives. -/
def satV (s : ByteArray) (i : Nat) : Value := if Utf8.decode s i = (65533, 1) then nil3 else yes3 ((Utf8.decode s i).1 : Int) ((i : Int) + ((Utf8.decode s i).2 : Int))
theorem satV_no {s : ByteArray} {i : Nat} (h : Utf8.decode s i = (65533, 1)) : satV s i = nil3 := by unfold satV; rw [if_pos h]
theorem satV_yes {s : ByteArray} {i : Nat} {v n : Int} {k : Nat} (h : ((Utf8.decode s i).1 : Int) = v) (h1 : (Utf8.decode s i).2 = k) (hk : k ≠ 1 ∨ v ≠ 65533) (hn : n = i + k) : satV s i = yes3 v n := by
  unfold satV
  rw [if_neg (by intro e; rw [e] at h h1; simp only at h h1; omega), h, h1, hn]
theorem ret_eq {a b : Value} (h : a = b) : Ending.returned a = .returned b := by rw [h]
end Go.Proofs.Ytdhofcnpkfhoiab.signs
