/-
  What SignAt answers, of the specification and of the program: the sign that stands at a place of a text, and the place behind it.
-/
import Derived.Test.YtpejcblmglbjfaaRows
import Derived.Test.YtpejcblmglbjfaaPlain
import Derived.WalkKit
import Derived.ProofKit
import Derived.Outline
import Derived.LoopTactic
import Derived.OwnWalk
import Derived.Lib.DecodeN
import Derived.Lib.RuneCountTail
namespace Go.Proofs.Ytpejcblmglbjfaa.signs
open Go.ChangeShapes Go.WideShapes Go.ChangeAt Go.RowKit
set_option linter.unusedVariables false

/-! ### The plain part -/
def acc (b : Nat → Int) (v : Int) : Nat → Int
  | 0 => v
  | k + 1 => acc b v k * 64 + b (k + 1) - 128
def cont (b : Nat → Int) (n : Nat) : Prop := ∀ j, 1 ≤ j → j ≤ n → 128 ≤ b j ∧ b j ≤ 191
theorem cont_succ {b : Nat → Int} {k : Nat} (h : cont b k) (h1 : 128 ≤ b (k + 1)) (h2 : b (k + 1) ≤ 191) : cont b (k + 1) := by
  intro j hj hk
  by_cases e : j = k + 1
  · subst e; exact ⟨h1, h2⟩
  · exact h j hj (by omega)
theorem acc_bd {b : Nat → Int} {v : Int} {k : Nat} (hk : k ≤ 3) (hv : 0 ≤ v) (hv2 : v ≤ 31) (hc : cont b k) : 0 ≤ acc b v k ∧ acc b v k ≤ 8388607 := by
  rcases (show k = 0 ∨ k = 1 ∨ k = 2 ∨ k = 3 by omega) with rfl | rfl | rfl | rfl
  · simp only [acc]; omega
  · have := hc 1 (by omega) (by omega); simp only [acc, Nat.zero_add]; omega
  · have := hc 1 (by omega) (by omega); have := hc 2 (by omega) (by omega); simp only [acc, Nat.zero_add, Nat.reduceAdd]; omega
  · have := hc 1 (by omega) (by omega); have := hc 2 (by omega) (by omega); have := hc 3 (by omega) (by omega); simp only [acc, Nat.zero_add, Nat.reduceAdd]; omega
def right (b : Nat → Int) (v least : Int) (n : Nat) : Prop := cont b n ∧ least ≤ acc b v n ∧ acc b v n ≤ 1114111 ∧ ¬ (55296 ≤ acc b v n ∧ acc b v n ≤ 57343)
theorem i64_and31 (n : Int) : bits .and .i64 n 31 = n % 32 := by
  have h63 : (BitVec.ofInt 64 31).toNat = 2 ^ 5 - 1 := by decide
  have key : (BitVec.ofInt 64 n &&& BitVec.ofInt 64 31).toNat = (n % ((2 ^ 64 : Nat) : Int)).toNat % 2 ^ 5 := by
    rw [BitVec.toNat_and, BitVec.toNat_ofInt, h63, Nat.and_two_pow_sub_one_eq_mod]
  show IntKind.i64.wrap ((BitVec.ofInt 64 n &&& BitVec.ofInt 64 31).toNat : Nat) = n % 32
  rw [key, IntKind.wrap_i64]
  omega
theorem i64_and15 (n : Int) : bits .and .i64 n 15 = n % 16 := by
  have h63 : (BitVec.ofInt 64 15).toNat = 2 ^ 4 - 1 := by decide
  have key : (BitVec.ofInt 64 n &&& BitVec.ofInt 64 15).toNat = (n % ((2 ^ 64 : Nat) : Int)).toNat % 2 ^ 4 := by
    rw [BitVec.toNat_and, BitVec.toNat_ofInt, h63, Nat.and_two_pow_sub_one_eq_mod]
  show IntKind.i64.wrap ((BitVec.ofInt 64 n &&& BitVec.ofInt 64 15).toNat : Nat) = n % 16
  rw [key, IntKind.wrap_i64]
  omega
theorem i64_and7 (n : Int) : bits .and .i64 n 7 = n % 8 := by
  have h63 : (BitVec.ofInt 64 7).toNat = 2 ^ 3 - 1 := by decide
  have key : (BitVec.ofInt 64 n &&& BitVec.ofInt 64 7).toNat = (n % ((2 ^ 64 : Nat) : Int)).toNat % 2 ^ 3 := by
    rw [BitVec.toNat_and, BitVec.toNat_ofInt, h63, Nat.and_two_pow_sub_one_eq_mod]
  show IntKind.i64.wrap ((BitVec.ofInt 64 n &&& BitVec.ofInt 64 7).toNat : Nat) = n % 8
  rw [key, IntKind.wrap_i64]
  omega

/-! ### The specification's -/
abbrev nil3 : Value := .tuple #[.int .i64 0, .int .i64 0, .bool false]
abbrev yes3 (v n : Int) : Value := .tuple #[.int .i64 v, .int .i64 n, .bool true]
theorem ret_yes {a b c d : Int} (h : a = c) (h1 : b = d) : Ending.returned (yes3 a b) = .returned (yes3 c d) := by rw [h, h1]
set_option maxHeartbeats 400000 in
theorem spec_out (s : ByteArray) (a : Int) (w : World) (hs : s.size ≤ maxLen) (h : a < 0 ∨ (s.size : Int) ≤ a) : Calls Try.prog 121 #[.string s, .int .i64 a] w fun e w' => e = .returned nil3 ∧ w' = w := by
  unfold maxLen at hs
  rcases h with h | h
  · go_enter Try.func121, Try.ntmps121
    go_wp2
    go_ret3
    exact ⟨rfl, rfl⟩
  · have h0 : 0 ≤ a := by omega
    go_enter Try.func121, Try.ntmps121
    go_wp2
    go_ret3
    exact ⟨rfl, rfl⟩
set_option maxHeartbeats 400000 in
theorem spec_one (s : ByteArray) (i : Nat) (x : Int) (w : World) (hs : s.size ≤ maxLen) (hi : i < s.size) (hx0 : ∀ W : World, (Instr.index 9 (.string s) (.int .i64 (i : Int))).run Try.prog W = .ok (.int .u8 x) W) (h0 : 0 ≤ x) (h : x < 128) :
    Calls Try.prog 121 #[.string s, .int .i64 i] w fun e w' => e = .returned (yes3 x (i + 1)) ∧ w' = w := by
  unfold maxLen at hs
  go_enter Try.func121, Try.ntmps121
  go_wp2
  go_ret3
  exact ⟨rfl, rfl⟩
set_option maxHeartbeats 400000 in
theorem spec_none (s : ByteArray) (i : Nat) (x : Int) (w : World) (hs : s.size ≤ maxLen) (hi : i < s.size) (hx0 : ∀ W : World, (Instr.index 9 (.string s) (.int .i64 (i : Int))).run Try.prog W = .ok (.int .u8 x) W) (h : 128 ≤ x ∧ x < 192 ∨ 248 ≤ x ∧ x ≤ 255) :
    Calls Try.prog 121 #[.string s, .int .i64 i] w fun e w' => e = .returned nil3 ∧ w' = w := by
  unfold maxLen at hs
  rcases h with ⟨h, h1⟩ | ⟨h, h1⟩
  all_goals
    go_enter Try.func121, Try.ntmps121
    go_wp2
    go_ret3
    exact ⟨rfl, rfl⟩
set_option maxHeartbeats 400000 in
theorem spec_short1 (s : ByteArray) (i : Nat) (x : Int) (w : World) (hs : s.size ≤ maxLen) (hi : i < s.size) (hx0 : ∀ W : World, (Instr.index 9 (.string s) (.int .i64 (i : Int))).run Try.prog W = .ok (.int .u8 x) W) (h : 192 ≤ x) (h1 : x < 224) (h2 : s.size ≤ i + 1) :
    Calls Try.prog 121 #[.string s, .int .i64 i] w fun e w' => e = .returned nil3 ∧ w' = w := by
  unfold maxLen at hs
  have hb := i64_and31
  have h3 : (s.size : Int) - 1 - 1 < i := by omega
  go_enter Try.func121, Try.ntmps121
  go_wp2
  go_ret3
  exact ⟨rfl, rfl⟩
set_option maxHeartbeats 1000000 in
theorem spec_some1 (s : ByteArray) (i : Nat) (b : Nat → Int) (w : World) (hs : s.size ≤ maxLen) (hi : i + 1 < s.size) (hx0 : ∀ W : World, (Instr.index 9 (.string s) (.int .i64 (i : Int))).run Try.prog W = .ok (.int .u8 (b 0)) W)
    (hx : ∀ k : Nat, k < 1 → ∀ W : World, (Instr.index 9 (.string s) (.int .i64 ((i : Int) + ((k : Int) + 1)))).run Try.prog W = .ok (.int .u8 (b (k + 1))) W) (hbd : ∀ k, 0 ≤ b k ∧ b k ≤ 255) (h : 192 ≤ b 0) (h1 : b 0 < 224) :
    Calls Try.prog 121 #[.string s, .int .i64 i] w fun e w' => (e = .returned nil3 ∧ ¬ right b (b 0 % 32) 128 1 ∨ e = .returned (yes3 (acc b (b 0 % 32) 1) (i + 1 + 1)) ∧ right b (b 0 % 32) 128 1) ∧ w' = w := by
  unfold maxLen at hs
  have hb := i64_and31
  have h3 : (i : Int) ≤ s.size - 1 - 1 := by omega
  have HX : Hid (∀ k : Nat, k < 1 → ∀ W : World, (Instr.index 9 (.string s) (.int .i64 ((i : Int) + ((k : Int) + 1)))).run Try.prog W = .ok (.int .u8 (b (k + 1))) W) := hx
  have HB : Hid (∀ k, 0 ≤ b k ∧ b k ≤ 255) := hbd
  clear hx hbd
  obtain ⟨x, ex⟩ : ∃ x, x = b 0 := ⟨_, rfl⟩
  rw [← ex] at hx0 h h1 ⊢
  have EX : Hid (x = b 0) := ex
  clear ex
  go_enter Try.func121, Try.ntmps121
  go_wp2
  go_loop [10, 11] (fun v t => ∃ (k : Nat) (A : Int), k ≤ 1 ∧ t = .int .i64 ((k : Int) + 1) ∧ v = .int .i64 A ∧ Hid (A = acc b (x % 32) k) ∧ Hid (cont b k)) (fun _ t => 1 + 1 - (intOf t).toNat)
  case atStart => exact ⟨0, _, by omega, rfl, rfl, rfl, fun j h1 h2 => by omega⟩
  case round =>
    obtain ⟨k, A, hk, rfl, rfl, hA, hc⟩ := hrel
    have hab : 0 ≤ A ∧ A ≤ 8388607 := by rw [hA.out]; exact acc_bd (by omega) (by omega) (by omega) hc.out
    obtain ⟨hA0, hA1⟩ := hab
    by_cases hlt : k < 1
    · have hlt' : (k : Int) + 1 ≤ 1 := by omega
      have hxk := HX.out k hlt
      obtain ⟨y, ey⟩ : ∃ y, y = b (k + 1) := ⟨_, rfl⟩
      have hy : 0 ≤ y ∧ y ≤ 255 := by rw [ey]; exact HB.out (k + 1)
      obtain ⟨hy0, hy1⟩ := hy
      rw [← ey] at hxk
      have EY : Hid (y = b (k + 1)) := ey
      clear ey
      by_cases c1 : y < 128
      · go_wp2
        go_ret3
        exact ⟨.inl ⟨rfl, fun r => by have := r.1 (k + 1) (by omega) (by omega); rw [← EY.out] at this; omega⟩, rfl⟩
      · by_cases c2 : 191 < y
        · go_wp2
          go_ret3
          exact ⟨.inl ⟨rfl, fun r => by have := r.1 (k + 1) (by omega) (by omega); rw [← EY.out] at this; omega⟩, rfl⟩
        · go_wp2
          go_round
          case rel => exact ⟨k + 1, _, by omega, by go_num, rfl, by show _ = acc b (x % 32) (k + 1); simp only [acc]; rw [hA.out, EY.out], cont_succ hc.out (by rw [← EY.out]; omega) (by rw [← EY.out]; omega)⟩
          case measure => simp [intOf]; omega
    · obtain rfl : k = 1 := by omega
      by_cases c1 : A < 128
      · go_wp2
        go_ret3
        exact ⟨.inl ⟨rfl, fun r => by have := r.2.1; rw [← hA.out] at this; omega⟩, rfl⟩
      · by_cases c2 : 1114111 < A
        · go_wp2
          go_ret3
          exact ⟨.inl ⟨rfl, fun r => by have := r.2.2.1; rw [← hA.out] at this; omega⟩, rfl⟩
        · by_cases c3 : A < 55296
          · go_wp2
            go_ret3
            exact ⟨.inr ⟨ret_yes hA.out (by omega), hc.out, by rw [← hA.out]; omega, by rw [← hA.out]; omega, by rw [← hA.out]; omega⟩, rfl⟩
          · by_cases c4 : A ≤ 57343
            · go_wp2
              go_ret3
              exact ⟨.inl ⟨rfl, fun r => by have := r.2.2.2; rw [← hA.out] at this; omega⟩, rfl⟩
            · go_wp2
              go_ret3
              exact ⟨.inr ⟨ret_yes hA.out (by omega), hc.out, by rw [← hA.out]; omega, by rw [← hA.out]; omega, by rw [← hA.out]; omega⟩, rfl⟩
set_option maxHeartbeats 400000 in
theorem spec_short2 (s : ByteArray) (i : Nat) (x : Int) (w : World) (hs : s.size ≤ maxLen) (hi : i < s.size) (hx0 : ∀ W : World, (Instr.index 9 (.string s) (.int .i64 (i : Int))).run Try.prog W = .ok (.int .u8 x) W) (h : 224 ≤ x) (h1 : x < 240) (h2 : s.size ≤ i + 2) :
    Calls Try.prog 121 #[.string s, .int .i64 i] w fun e w' => e = .returned nil3 ∧ w' = w := by
  unfold maxLen at hs
  have hb := i64_and15
  have h3 : (s.size : Int) - 1 - 2 < i := by omega
  go_enter Try.func121, Try.ntmps121
  go_wp2
  go_ret3
  exact ⟨rfl, rfl⟩
set_option maxHeartbeats 1000000 in
theorem spec_some2 (s : ByteArray) (i : Nat) (b : Nat → Int) (w : World) (hs : s.size ≤ maxLen) (hi : i + 2 < s.size) (hx0 : ∀ W : World, (Instr.index 9 (.string s) (.int .i64 (i : Int))).run Try.prog W = .ok (.int .u8 (b 0)) W)
    (hx : ∀ k : Nat, k < 2 → ∀ W : World, (Instr.index 9 (.string s) (.int .i64 ((i : Int) + ((k : Int) + 1)))).run Try.prog W = .ok (.int .u8 (b (k + 1))) W) (hbd : ∀ k, 0 ≤ b k ∧ b k ≤ 255) (h : 224 ≤ b 0) (h1 : b 0 < 240) :
    Calls Try.prog 121 #[.string s, .int .i64 i] w fun e w' => (e = .returned nil3 ∧ ¬ right b (b 0 % 16) 2048 2 ∨ e = .returned (yes3 (acc b (b 0 % 16) 2) (i + 1 + 2)) ∧ right b (b 0 % 16) 2048 2) ∧ w' = w := by
  unfold maxLen at hs
  have hb := i64_and15
  have h3 : (i : Int) ≤ s.size - 1 - 2 := by omega
  have HX : Hid (∀ k : Nat, k < 2 → ∀ W : World, (Instr.index 9 (.string s) (.int .i64 ((i : Int) + ((k : Int) + 1)))).run Try.prog W = .ok (.int .u8 (b (k + 1))) W) := hx
  have HB : Hid (∀ k, 0 ≤ b k ∧ b k ≤ 255) := hbd
  clear hx hbd
  obtain ⟨x, ex⟩ : ∃ x, x = b 0 := ⟨_, rfl⟩
  rw [← ex] at hx0 h h1 ⊢
  have EX : Hid (x = b 0) := ex
  clear ex
  go_enter Try.func121, Try.ntmps121
  go_wp2
  go_loop [10, 11] (fun v t => ∃ (k : Nat) (A : Int), k ≤ 2 ∧ t = .int .i64 ((k : Int) + 1) ∧ v = .int .i64 A ∧ Hid (A = acc b (x % 16) k) ∧ Hid (cont b k)) (fun _ t => 2 + 1 - (intOf t).toNat)
  case atStart => exact ⟨0, _, by omega, rfl, rfl, rfl, fun j h1 h2 => by omega⟩
  case round =>
    obtain ⟨k, A, hk, rfl, rfl, hA, hc⟩ := hrel
    have hab : 0 ≤ A ∧ A ≤ 8388607 := by rw [hA.out]; exact acc_bd (by omega) (by omega) (by omega) hc.out
    obtain ⟨hA0, hA1⟩ := hab
    by_cases hlt : k < 2
    · have hlt' : (k : Int) + 1 ≤ 2 := by omega
      have hxk := HX.out k hlt
      obtain ⟨y, ey⟩ : ∃ y, y = b (k + 1) := ⟨_, rfl⟩
      have hy : 0 ≤ y ∧ y ≤ 255 := by rw [ey]; exact HB.out (k + 1)
      obtain ⟨hy0, hy1⟩ := hy
      rw [← ey] at hxk
      have EY : Hid (y = b (k + 1)) := ey
      clear ey
      by_cases c1 : y < 128
      · go_wp2
        go_ret3
        exact ⟨.inl ⟨rfl, fun r => by have := r.1 (k + 1) (by omega) (by omega); rw [← EY.out] at this; omega⟩, rfl⟩
      · by_cases c2 : 191 < y
        · go_wp2
          go_ret3
          exact ⟨.inl ⟨rfl, fun r => by have := r.1 (k + 1) (by omega) (by omega); rw [← EY.out] at this; omega⟩, rfl⟩
        · go_wp2
          go_round
          case rel => exact ⟨k + 1, _, by omega, by go_num, rfl, by show _ = acc b (x % 16) (k + 1); simp only [acc]; rw [hA.out, EY.out], cont_succ hc.out (by rw [← EY.out]; omega) (by rw [← EY.out]; omega)⟩
          case measure => simp [intOf]; omega
    · obtain rfl : k = 2 := by omega
      by_cases c1 : A < 2048
      · go_wp2
        go_ret3
        exact ⟨.inl ⟨rfl, fun r => by have := r.2.1; rw [← hA.out] at this; omega⟩, rfl⟩
      · by_cases c2 : 1114111 < A
        · go_wp2
          go_ret3
          exact ⟨.inl ⟨rfl, fun r => by have := r.2.2.1; rw [← hA.out] at this; omega⟩, rfl⟩
        · by_cases c3 : A < 55296
          · go_wp2
            go_ret3
            exact ⟨.inr ⟨ret_yes hA.out (by omega), hc.out, by rw [← hA.out]; omega, by rw [← hA.out]; omega, by rw [← hA.out]; omega⟩, rfl⟩
          · by_cases c4 : A ≤ 57343
            · go_wp2
              go_ret3
              exact ⟨.inl ⟨rfl, fun r => by have := r.2.2.2; rw [← hA.out] at this; omega⟩, rfl⟩
            · go_wp2
              go_ret3
              exact ⟨.inr ⟨ret_yes hA.out (by omega), hc.out, by rw [← hA.out]; omega, by rw [← hA.out]; omega, by rw [← hA.out]; omega⟩, rfl⟩
set_option maxHeartbeats 400000 in
theorem spec_short3 (s : ByteArray) (i : Nat) (x : Int) (w : World) (hs : s.size ≤ maxLen) (hi : i < s.size) (hx0 : ∀ W : World, (Instr.index 9 (.string s) (.int .i64 (i : Int))).run Try.prog W = .ok (.int .u8 x) W) (h : 240 ≤ x) (h1 : x < 248) (h2 : s.size ≤ i + 3) :
    Calls Try.prog 121 #[.string s, .int .i64 i] w fun e w' => e = .returned nil3 ∧ w' = w := by
  unfold maxLen at hs
  have hb := i64_and7
  have h3 : (s.size : Int) - 1 - 3 < i := by omega
  go_enter Try.func121, Try.ntmps121
  go_wp2
  go_ret3
  exact ⟨rfl, rfl⟩
set_option maxHeartbeats 1000000 in
theorem spec_some3 (s : ByteArray) (i : Nat) (b : Nat → Int) (w : World) (hs : s.size ≤ maxLen) (hi : i + 3 < s.size) (hx0 : ∀ W : World, (Instr.index 9 (.string s) (.int .i64 (i : Int))).run Try.prog W = .ok (.int .u8 (b 0)) W)
    (hx : ∀ k : Nat, k < 3 → ∀ W : World, (Instr.index 9 (.string s) (.int .i64 ((i : Int) + ((k : Int) + 1)))).run Try.prog W = .ok (.int .u8 (b (k + 1))) W) (hbd : ∀ k, 0 ≤ b k ∧ b k ≤ 255) (h : 240 ≤ b 0) (h1 : b 0 < 248) :
    Calls Try.prog 121 #[.string s, .int .i64 i] w fun e w' => (e = .returned nil3 ∧ ¬ right b (b 0 % 8) 65536 3 ∨ e = .returned (yes3 (acc b (b 0 % 8) 3) (i + 1 + 3)) ∧ right b (b 0 % 8) 65536 3) ∧ w' = w := by
  unfold maxLen at hs
  have hb := i64_and7
  have h3 : (i : Int) ≤ s.size - 1 - 3 := by omega
  have HX : Hid (∀ k : Nat, k < 3 → ∀ W : World, (Instr.index 9 (.string s) (.int .i64 ((i : Int) + ((k : Int) + 1)))).run Try.prog W = .ok (.int .u8 (b (k + 1))) W) := hx
  have HB : Hid (∀ k, 0 ≤ b k ∧ b k ≤ 255) := hbd
  clear hx hbd
  obtain ⟨x, ex⟩ : ∃ x, x = b 0 := ⟨_, rfl⟩
  rw [← ex] at hx0 h h1 ⊢
  have EX : Hid (x = b 0) := ex
  clear ex
  go_enter Try.func121, Try.ntmps121
  go_wp2
  go_loop [10, 11] (fun v t => ∃ (k : Nat) (A : Int), k ≤ 3 ∧ t = .int .i64 ((k : Int) + 1) ∧ v = .int .i64 A ∧ Hid (A = acc b (x % 8) k) ∧ Hid (cont b k)) (fun _ t => 3 + 1 - (intOf t).toNat)
  case atStart => exact ⟨0, _, by omega, rfl, rfl, rfl, fun j h1 h2 => by omega⟩
  case round =>
    obtain ⟨k, A, hk, rfl, rfl, hA, hc⟩ := hrel
    have hab : 0 ≤ A ∧ A ≤ 8388607 := by rw [hA.out]; exact acc_bd (by omega) (by omega) (by omega) hc.out
    obtain ⟨hA0, hA1⟩ := hab
    by_cases hlt : k < 3
    · have hlt' : (k : Int) + 1 ≤ 3 := by omega
      have hxk := HX.out k hlt
      obtain ⟨y, ey⟩ : ∃ y, y = b (k + 1) := ⟨_, rfl⟩
      have hy : 0 ≤ y ∧ y ≤ 255 := by rw [ey]; exact HB.out (k + 1)
      obtain ⟨hy0, hy1⟩ := hy
      rw [← ey] at hxk
      have EY : Hid (y = b (k + 1)) := ey
      clear ey
      by_cases c1 : y < 128
      · go_wp2
        go_ret3
        exact ⟨.inl ⟨rfl, fun r => by have := r.1 (k + 1) (by omega) (by omega); rw [← EY.out] at this; omega⟩, rfl⟩
      · by_cases c2 : 191 < y
        · go_wp2
          go_ret3
          exact ⟨.inl ⟨rfl, fun r => by have := r.1 (k + 1) (by omega) (by omega); rw [← EY.out] at this; omega⟩, rfl⟩
        · go_wp2
          go_round
          case rel => exact ⟨k + 1, _, by omega, by go_num, rfl, by show _ = acc b (x % 8) (k + 1); simp only [acc]; rw [hA.out, EY.out], cont_succ hc.out (by rw [← EY.out]; omega) (by rw [← EY.out]; omega)⟩
          case measure => simp [intOf]; omega
    · obtain rfl : k = 3 := by omega
      by_cases c1 : A < 65536
      · go_wp2
        go_ret3
        exact ⟨.inl ⟨rfl, fun r => by have := r.2.1; rw [← hA.out] at this; omega⟩, rfl⟩
      · by_cases c2 : 1114111 < A
        · go_wp2
          go_ret3
          exact ⟨.inl ⟨rfl, fun r => by have := r.2.2.1; rw [← hA.out] at this; omega⟩, rfl⟩
        · go_wp2
          go_ret3
          exact ⟨.inr ⟨ret_yes hA.out (by omega), hc.out, by rw [← hA.out]; omega, by rw [← hA.out]; omega, by rw [← hA.out]; omega⟩, rfl⟩

/-! ### The two together: by the model's own decoding of a text at a place -/
def bytesOf (s : ByteArray) (i : Nat) : Nat → Int := fun k => ((s.get! (i + k)).toNat : Int)
theorem bytesOf_bd (s : ByteArray) (i k : Nat) : 0 ≤ bytesOf s i k ∧ bytesOf s i k ≤ 255 := by
  have := (s.get! (i + k)).toNat_lt
  unfold bytesOf; omega
theorem idx (s : ByteArray) (j : Nat) (h : j < s.size) (W : World) : (Instr.index 9 (.string s) (.int .i64 (j : Int))).run Try.prog W = .ok (.int .u8 ((s.get! j).toNat : Int)) W := by
  rw [run_index_string W 9 s .i64 j Try.underlying9, dif_pos ⟨by omega, by omega⟩]
  have := get_at s j h
  simp only [Nat.add_zero] at this
  simp [this]
theorem idx_add (s : ByteArray) (i k : Nat) (h : i + (k + 1) < s.size) (W : World) : (Instr.index 9 (.string s) (.int .i64 ((i : Int) + ((k : Int) + 1)))).run Try.prog W = .ok (.int .u8 (bytesOf s i (k + 1))) W := by
  have := idx s (i + (k + 1)) h W
  rw [show ((i + (k + 1) : Nat) : Int) = (i : Int) + ((k : Int) + 1) by omega] at this
  exact this
theorem cont_one {b : Nat → Int} : cont b 1 ↔ 128 ≤ b 1 ∧ b 1 ≤ 191 :=
  ⟨fun h => h 1 (by omega) (by omega), fun h j h1 h2 => by obtain rfl : j = 1 := by omega
                                                           exact h⟩
theorem cont_two {b : Nat → Int} : cont b 2 ↔ (128 ≤ b 1 ∧ b 1 ≤ 191) ∧ (128 ≤ b 2 ∧ b 2 ≤ 191) :=
  ⟨fun h => ⟨h 1 (by omega) (by omega), h 2 (by omega) (by omega)⟩, fun h j h1 h2 => by
    rcases (show j = 1 ∨ j = 2 by omega) with rfl | rfl
    · exact h.1
    · exact h.2⟩
theorem cont_three {b : Nat → Int} : cont b 3 ↔ (128 ≤ b 1 ∧ b 1 ≤ 191) ∧ (128 ≤ b 2 ∧ b 2 ≤ 191) ∧ (128 ≤ b 3 ∧ b 3 ≤ 191) :=
  ⟨fun h => ⟨h 1 (by omega) (by omega), h 2 (by omega) (by omega), h 3 (by omega) (by omega)⟩, fun h j h1 h2 => by
    rcases (show j = 1 ∨ j = 2 ∨ j = 3 by omega) with rfl | rfl | rfl
    · exact h.1
    · exact h.2.1
    · exact h.2.2⟩
set_option maxRecDepth 100000 in
set_option maxHeartbeats 4000000 in
theorem dec_none (n b0 b1 b2 b3 : Nat) (h : 128 ≤ b0 ∧ b0 < 192 ∨ 248 ≤ b0 ∧ b0 ≤ 255) : Lib.decodeN n b0 b1 b2 b3 = (65533, 1) := by
  unfold Lib.decodeN
  repeat' split
  all_goals first | rfl | (exfalso; omega)
set_option maxRecDepth 100000 in
set_option maxHeartbeats 4000000 in
theorem dec_short (n b0 b1 b2 b3 : Nat) (h : (192 ≤ b0 ∧ b0 < 224 ∧ n ≤ 1) ∨ (224 ≤ b0 ∧ b0 < 240 ∧ n ≤ 2) ∨ (240 ≤ b0 ∧ b0 < 248 ∧ n ≤ 3)) : Lib.decodeN n b0 b1 b2 b3 = (65533, 1) := by
  unfold Lib.decodeN
  repeat' split
  all_goals first | rfl | (exfalso; omega)
set_option maxRecDepth 100000 in
set_option maxHeartbeats 4000000 in
theorem dec_two (n b0 b1 b2 b3 : Nat) (hn : 1 < n) (h : 192 ≤ b0) (h1 : b0 < 224) (hb : b1 < 256) (b : Nat → Int) (e1 : b 1 = b1) :
    (right b ((b0 : Int) % 32) 128 1 → ((Lib.decodeN n b0 b1 b2 b3).1 : Int) = acc b ((b0 : Int) % 32) 1 ∧ (Lib.decodeN n b0 b1 b2 b3).2 = 2) ∧ (¬ right b ((b0 : Int) % 32) 128 1 → Lib.decodeN n b0 b1 b2 b3 = (65533, 1)) := by
  unfold right
  rw [cont_one]
  simp only [acc, Nat.zero_add, e1]
  unfold Lib.decodeN
  repeat' split
  all_goals first | (constructor <;> intro r <;> first | (constructor <;> simp only <;> omega) | rfl | (exfalso; omega))
set_option maxRecDepth 100000 in
set_option maxHeartbeats 4000000 in
theorem dec_three (n b0 b1 b2 b3 : Nat) (hn : 2 < n) (h : 224 ≤ b0) (h1 : b0 < 240) (hb : b1 < 256) (hb2 : b2 < 256) (b : Nat → Int) (e1 : b 1 = b1) (e2 : b 2 = b2) :
    (right b ((b0 : Int) % 16) 2048 2 → ((Lib.decodeN n b0 b1 b2 b3).1 : Int) = acc b ((b0 : Int) % 16) 2 ∧ (Lib.decodeN n b0 b1 b2 b3).2 = 3) ∧ (¬ right b ((b0 : Int) % 16) 2048 2 → Lib.decodeN n b0 b1 b2 b3 = (65533, 1)) := by
  unfold right
  rw [cont_two]
  simp only [acc, Nat.zero_add, Nat.reduceAdd, e1, e2]
  unfold Lib.decodeN
  repeat' split
  all_goals first | (constructor <;> intro r <;> first | (constructor <;> simp only <;> omega) | rfl | (exfalso; omega))
set_option maxRecDepth 100000 in
set_option maxHeartbeats 4000000 in
theorem dec_four (n b0 b1 b2 b3 : Nat) (hn : 3 < n) (h : 240 ≤ b0) (h1 : b0 < 248) (hb : b1 < 256) (hb2 : b2 < 256) (hb3 : b3 < 256) (b : Nat → Int) (e1 : b 1 = b1) (e2 : b 2 = b2) (e3 : b 3 = b3) :
    (right b ((b0 : Int) % 8) 65536 3 → ((Lib.decodeN n b0 b1 b2 b3).1 : Int) = acc b ((b0 : Int) % 8) 3 ∧ (Lib.decodeN n b0 b1 b2 b3).2 = 4) ∧ (¬ right b ((b0 : Int) % 8) 65536 3 → Lib.decodeN n b0 b1 b2 b3 = (65533, 1)) := by
  unfold right
  rw [cont_three]
  simp only [acc, Nat.zero_add, Nat.reduceAdd, e1, e2, e3]
  unfold Lib.decodeN
  repeat' split
  all_goals first | (constructor <;> intro r <;> first | (constructor <;> simp only <;> omega) | rfl | (exfalso; omega))
/-- The sign that stands at a place inside a text: what SignAt gives. -/
def satV (s : ByteArray) (i : Nat) : Value := if Utf8.decode s i = (65533, 1) then nil3 else yes3 ((Utf8.decode s i).1 : Int) ((i : Int) + ((Utf8.decode s i).2 : Int))
theorem satV_no {s : ByteArray} {i : Nat} (h : Utf8.decode s i = (65533, 1)) : satV s i = nil3 := by unfold satV; rw [if_pos h]
theorem satV_yes {s : ByteArray} {i : Nat} {v n : Int} {k : Nat} (h : ((Utf8.decode s i).1 : Int) = v) (h1 : (Utf8.decode s i).2 = k) (hk : k ≠ 1 ∨ v ≠ 65533) (hn : n = i + k) : satV s i = yes3 v n := by
  unfold satV
  rw [if_neg (by intro e; rw [e] at h h1; simp only at h h1; omega), h, h1, hn]
theorem ret_eq {a b : Value} (h : a = b) : Ending.returned a = .returned b := by rw [h]
/-- The specification's SignAt, at every place inside a text. -/
theorem spec_in (s : ByteArray) (i : Nat) (w : World) (hs : s.size ≤ maxLen) (hi : i < s.size) : Calls Try.prog 121 #[.string s, .int .i64 i] w fun e w' => e = .returned (satV s i) ∧ w' = w := by
  have hd := Lib.decode_at s i
  have hx0 : ∀ W : World, (Instr.index 9 (.string s) (.int .i64 (i : Int))).run Try.prog W = .ok (.int .u8 (bytesOf s i 0)) W := idx s i hi
  have hb := bytesOf_bd s i
  have e0 : bytesOf s i 0 = ((s.get! i).toNat : Int) := rfl
  have l1 := (s.get! (i + 1)).toNat_lt
  have l2 := (s.get! (i + 2)).toNat_lt
  have l3 := (s.get! (i + 3)).toNat_lt
  by_cases c1 : bytesOf s i 0 < 128
  · refine (spec_one s i _ w hs hi hx0 (hb 0).1 c1).mono fun e w' ⟨he, hw⟩ => ⟨?_, hw⟩
    rw [he]
    refine ret_eq (satV_yes (k := 1) ?_ ?_ (.inr (by omega)) (by omega)).symm
    · rw [hd]; unfold Lib.decodeN; rw [if_pos (by omega)]; exact e0.symm
    · rw [hd]; unfold Lib.decodeN; rw [if_pos (by omega)]
  · by_cases c2 : bytesOf s i 0 < 192 ∨ 248 ≤ bytesOf s i 0
    · refine (spec_none s i _ w hs hi hx0 (by have := (hb 0).2; omega)).mono fun e w' ⟨he, hw⟩ => ⟨?_, hw⟩
      rw [he, satV_no]
      rw [hd]; exact dec_none _ _ _ _ _ (by have := (hb 0).2; omega)
    · by_cases c3 : bytesOf s i 0 < 224
      · by_cases hz : s.size ≤ i + 1
        · refine (spec_short1 s i _ w hs hi hx0 (by omega) c3 hz).mono fun e w' ⟨he, hw⟩ => ⟨?_, hw⟩
          rw [he, satV_no]
          rw [hd]; exact dec_short _ _ _ _ _ (by omega)
        · have hd2 := dec_two (s.size - i) (s.get! i).toNat (s.get! (i + 1)).toNat (s.get! (i + 2)).toNat (s.get! (i + 3)).toNat (by omega) (by omega) (by omega) l1 (bytesOf s i) rfl
          rw [← hd, ← e0] at hd2
          refine (spec_some1 s i (bytesOf s i) w hs (by omega) hx0 (fun k hk W => idx_add s i k (by omega) W) hb (by omega) c3).mono fun e w' ⟨he, hw⟩ => ⟨?_, hw⟩
          rcases he with ⟨he, hr⟩ | ⟨he, hr⟩
          · rw [he, satV_no (hd2.2 hr)]
          · rw [he]
            exact ret_eq (satV_yes (hd2.1 hr).1 (hd2.1 hr).2 (.inl (by omega)) (by omega)).symm
      · by_cases c4 : bytesOf s i 0 < 240
        · by_cases hz : s.size ≤ i + 2
          · refine (spec_short2 s i _ w hs hi hx0 (by omega) c4 hz).mono fun e w' ⟨he, hw⟩ => ⟨?_, hw⟩
            rw [he, satV_no]
            rw [hd]; exact dec_short _ _ _ _ _ (by omega)
          · have hd2 := dec_three (s.size - i) (s.get! i).toNat (s.get! (i + 1)).toNat (s.get! (i + 2)).toNat (s.get! (i + 3)).toNat (by omega) (by omega) (by omega) l1 l2 (bytesOf s i) rfl rfl
            rw [← hd, ← e0] at hd2
            refine (spec_some2 s i (bytesOf s i) w hs (by omega) hx0 (fun k hk W => idx_add s i k (by omega) W) hb (by omega) c4).mono fun e w' ⟨he, hw⟩ => ⟨?_, hw⟩
            rcases he with ⟨he, hr⟩ | ⟨he, hr⟩
            · rw [he, satV_no (hd2.2 hr)]
            · rw [he]
              exact ret_eq (satV_yes (hd2.1 hr).1 (hd2.1 hr).2 (.inl (by omega)) (by omega)).symm
        · by_cases hz : s.size ≤ i + 3
          · refine (spec_short3 s i _ w hs hi hx0 (by omega) (by omega) hz).mono fun e w' ⟨he, hw⟩ => ⟨?_, hw⟩
            rw [he, satV_no]
            rw [hd]; exact dec_short _ _ _ _ _ (by omega)
          · have hd2 := dec_four (s.size - i) (s.get! i).toNat (s.get! (i + 1)).toNat (s.get! (i + 2)).toNat (s.get! (i + 3)).toNat (by omega) (by omega) (by omega) l1 l2 l3 (bytesOf s i) rfl rfl rfl
            rw [← hd, ← e0] at hd2
            refine (spec_some3 s i (bytesOf s i) w hs (by omega) hx0 (fun k hk W => idx_add s i k (by omega) W) hb (by omega) (by omega)).mono fun e w' ⟨he, hw⟩ => ⟨?_, hw⟩
            rcases he with ⟨he, hr⟩ | ⟨he, hr⟩
            · rw [he, satV_no (hd2.2 hr)]
            · rw [he]
              exact ret_eq (satV_yes (hd2.1 hr).1 (hd2.1 hr).2 (.inl (by omega)) (by omega)).symm
end Go.Proofs.Ytpejcblmglbjfaa.signs
