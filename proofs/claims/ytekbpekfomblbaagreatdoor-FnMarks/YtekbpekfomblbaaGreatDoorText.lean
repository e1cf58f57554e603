/-
  What SignText answers, of the specification and of the program: the bytes of a sign's UTF-8, or nothing.
-/
import Derived.Test.YtekbpekfomblbaaGreatDoorRows
import Derived.Test.YtekbpekfomblbaaGreatDoorPlain
import Derived.WalkKit
import Derived.ProofKit
import Derived.Laws.BytesArg
import Derived.Below
namespace Go.Proofs.YtekbpekfomblbaaGreatDoor.texts
open Go.ChangeShapes Go.WideShapes Go.ChangeAt Go.RowKit

/-! ### A new row of bytes, as a string -/
theorem conv1 (w : World) (a : Int) : (convert 22 9 (.slice (some ⟨w.heap.size, 0, none⟩) 1 1)).run Tryz.prog (w.alloc (.cells #[.int .u8 a] 5)) = .ok (.string (strOfNums [a])) (w.alloc (.cells #[.int .u8 a] 5)) :=
  run_convert_bytes_arg _ 22 5 Tryz.underlying22 Tryz.underlying5 w.heap.size 0 1 1 [a] rfl (fun i hi => by
    obtain rfl : i = 0 := by omega
    simp) 9 Tryz.underlying9
theorem conv2 (w : World) (a b : Int) : (convert 22 9 (.slice (some ⟨w.heap.size, 0, none⟩) 2 2)).run Tryz.prog (w.alloc (.cells #[.int .u8 a, .int .u8 b] 5)) = .ok (.string (strOfNums [a, b])) (w.alloc (.cells #[.int .u8 a, .int .u8 b] 5)) :=
  run_convert_bytes_arg _ 22 5 Tryz.underlying22 Tryz.underlying5 w.heap.size 0 2 2 [a, b] rfl (fun i hi => by
    rcases (show i = 0 ∨ i = 1 by omega) with rfl | rfl <;> simp) 9 Tryz.underlying9
theorem conv3 (w : World) (a b c : Int) : (convert 22 9 (.slice (some ⟨w.heap.size, 0, none⟩) 3 3)).run Tryz.prog (w.alloc (.cells #[.int .u8 a, .int .u8 b, .int .u8 c] 5)) = .ok (.string (strOfNums [a, b, c])) (w.alloc (.cells #[.int .u8 a, .int .u8 b, .int .u8 c] 5)) :=
  run_convert_bytes_arg _ 22 5 Tryz.underlying22 Tryz.underlying5 w.heap.size 0 3 3 [a, b, c] rfl (fun i hi => by
    rcases (show i = 0 ∨ i = 1 ∨ i = 2 by omega) with rfl | rfl | rfl <;> simp) 9 Tryz.underlying9
theorem conv4 (w : World) (a b c d : Int) : (convert 22 9 (.slice (some ⟨w.heap.size, 0, none⟩) 4 4)).run Tryz.prog (w.alloc (.cells #[.int .u8 a, .int .u8 b, .int .u8 c, .int .u8 d] 5)) = .ok (.string (strOfNums [a, b, c, d])) (w.alloc (.cells #[.int .u8 a, .int .u8 b, .int .u8 c, .int .u8 d] 5)) :=
  run_convert_bytes_arg _ 22 5 Tryz.underlying22 Tryz.underlying5 w.heap.size 0 4 4 [a, b, c, d] rfl (fun i hi => by
    rcases (show i = 0 ∨ i = 1 ∨ i = 2 ∨ i = 3 by omega) with rfl | rfl | rfl | rfl <;> simp) 9 Tryz.underlying9

/-! ### The program's -/
set_option maxHeartbeats 400000 in
theorem impl_no (n : Int) (h : n < 0 ∨ (55296 ≤ n ∧ n ≤ 57343) ∨ 1114111 < n) (w : World) : Calls Tryz.prog 75 #[.int .i64 n] w fun e w' => e = .returned (.string ⟨#[]⟩) ∧ w' = w := by
  rcases h with h | ⟨h, h1⟩ | h
  · go_enter Tryz.func75, Tryz.ntmps75
    go_wp2
    go_ret
    exact ⟨rfl, rfl⟩
  · have h2 : 0 ≤ n := by omega
    have h3 : n ≤ 1114111 := by omega
    go_enter Tryz.func75, Tryz.ntmps75
    go_wp2
    go_ret
    exact ⟨rfl, rfl⟩
  · have h2 : 0 ≤ n := by omega
    go_enter Tryz.func75, Tryz.ntmps75
    go_wp2
    go_ret
    exact ⟨rfl, rfl⟩
set_option maxHeartbeats 400000 in
theorem impl_lo (n : Int) (h : 0 ≤ n) (h1 : n < 55296) (w : World) : Calls Tryz.prog 75 #[.int .i64 n] w fun e w' => e = .returned (.string (Utf8.encode n)) ∧ w' = w := by
  go_enter Tryz.func75, Tryz.ntmps75
  go_wp2
  go_ret
  exact ⟨rfl, rfl⟩
set_option maxHeartbeats 400000 in
theorem impl_hi (n : Int) (h : 57343 < n) (h1 : n ≤ 1114111) (w : World) : Calls Tryz.prog 75 #[.int .i64 n] w fun e w' => e = .returned (.string (Utf8.encode n)) ∧ w' = w := by
  have h2 : 0 ≤ n := by omega
  have h3 : 55296 ≤ n := by omega
  go_enter Tryz.func75, Tryz.ntmps75
  go_wp2
  go_ret
  exact ⟨rfl, rfl⟩
/-- The program's SignText, at every number. -/
theorem impl_any (n : Int) (w : World) : Calls Tryz.prog 75 #[.int .i64 n] w fun e w' => e = .returned (.string (stx n)) ∧ w' = w := by
  by_cases h : n < 0 ∨ (55296 ≤ n ∧ n ≤ 57343) ∨ 1114111 < n
  · rw [stx_no h]; exact impl_no n h w
  · by_cases h1 : n < 55296
    · rw [stx_yes (valid_lo (by omega) h1)]; exact impl_lo n (by omega) h1 w
    · rw [stx_yes (valid_hi (by omega) (by omega))]; exact impl_hi n (by omega) (by omega) w

/-! ### The specification's -/
set_option maxHeartbeats 400000 in
theorem spec_no (n : Int) (h : n < 0 ∨ (55296 ≤ n ∧ n ≤ 57343) ∨ 1114111 < n) (w : World) : Calls Tryz.prog 84 #[.int .i64 n] w fun e w' => e = .returned (.string ⟨#[]⟩) ∧ Below w.heap.size w w' := by
  rcases h with h | ⟨h, h1⟩ | h
  · go_enter Tryz.func84, Tryz.ntmps84
    go_wp2
    go_ret
    exact ⟨rfl, Below.refl _ _⟩
  · have h2 : 0 ≤ n := by omega
    have h3 : n ≤ 1114111 := by omega
    go_enter Tryz.func84, Tryz.ntmps84
    go_wp2
    go_ret
    exact ⟨rfl, Below.refl _ _⟩
  · have h2 : 0 ≤ n := by omega
    go_enter Tryz.func84, Tryz.ntmps84
    go_wp2
    go_ret
    exact ⟨rfl, Below.refl _ _⟩
set_option maxHeartbeats 400000 in
theorem spec_1 (n : Int) (h : 0 ≤ n) (h1 : n < 128) (w : World) : Calls Tryz.prog 84 #[.int .i64 n] w fun e w' => e = .returned (.string (Utf8.encode n)) ∧ Below w.heap.size w w' := by
  have hc := conv1
  go_enter Tryz.func84, Tryz.ntmps84
  go_wp2
  go_ret
  exact ⟨ret_str (enc1 h h1), (Below.refl _ _).alloc (Nat.le_refl _) _⟩
set_option maxHeartbeats 400000 in
theorem spec_2 (n : Int) (h : 128 ≤ n) (h1 : n < 2048) (w : World) : Calls Tryz.prog 84 #[.int .i64 n] w fun e w' => e = .returned (.string (Utf8.encode n)) ∧ Below w.heap.size w w' := by
  have hc := conv2
  have hb := i64_and63
  go_enter Tryz.func84, Tryz.ntmps84
  go_wp2
  go_ret
  exact ⟨ret_str (enc2 h h1), (Below.refl _ _).alloc (Nat.le_refl _) _⟩
set_option maxHeartbeats 400000 in
theorem spec_3lo (n : Int) (h : 2048 ≤ n) (h1 : n < 55296) (w : World) : Calls Tryz.prog 84 #[.int .i64 n] w fun e w' => e = .returned (.string (Utf8.encode n)) ∧ Below w.heap.size w w' := by
  have hc := conv3
  have hb := i64_and63
  go_enter Tryz.func84, Tryz.ntmps84
  go_wp2
  go_ret
  exact ⟨ret_str (enc3 h (by omega) (valid_lo (by omega) h1)), (Below.refl _ _).alloc (Nat.le_refl _) _⟩
set_option maxHeartbeats 400000 in
theorem spec_3hi (n : Int) (h : 57343 < n) (h1 : n < 65536) (w : World) : Calls Tryz.prog 84 #[.int .i64 n] w fun e w' => e = .returned (.string (Utf8.encode n)) ∧ Below w.heap.size w w' := by
  have hc := conv3
  have hb := i64_and63
  go_enter Tryz.func84, Tryz.ntmps84
  go_wp2
  go_ret
  exact ⟨ret_str (enc3 (by omega) h1 (valid_hi h (by omega))), (Below.refl _ _).alloc (Nat.le_refl _) _⟩
set_option maxHeartbeats 400000 in
theorem spec_4 (n : Int) (h : 65536 ≤ n) (h1 : n ≤ 1114111) (w : World) : Calls Tryz.prog 84 #[.int .i64 n] w fun e w' => e = .returned (.string (Utf8.encode n)) ∧ Below w.heap.size w w' := by
  have hc := conv4
  have hb := i64_and63
  go_enter Tryz.func84, Tryz.ntmps84
  go_wp2
  go_ret
  exact ⟨ret_str (enc4 h h1), (Below.refl _ _).alloc (Nat.le_refl _) _⟩
/-- The specification's SignText, at every number. -/
theorem spec_any (n : Int) (w : World) : Calls Tryz.prog 84 #[.int .i64 n] w fun e w' => e = .returned (.string (stx n)) ∧ Below w.heap.size w w' := by
  by_cases h : n < 0 ∨ (55296 ≤ n ∧ n ≤ 57343) ∨ 1114111 < n
  · rw [stx_no h]; exact spec_no n h w
  · have hv : Utf8.valid n = true := by rw [validRune_eq]; simp [validRune]; omega
    rw [stx_yes hv]
    by_cases h1 : n < 128
    · exact spec_1 n (by omega) h1 w
    · by_cases h2 : n < 2048
      · exact spec_2 n (by omega) h2 w
      · by_cases h3 : n < 65536
        · by_cases h4 : n < 55296
          · exact spec_3lo n (by omega) h4 w
          · exact spec_3hi n (by omega) h3 w
        · exact spec_4 n (by omega) (by omega) w
end Go.Proofs.YtekbpekfomblbaaGreatDoor.texts
