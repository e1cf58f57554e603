/-
  What IsBlank and AllBlank answer, of the specification and of the program.
-/
import Derived.Test.YtlkolhfhcicpdaaDoorRows
import Derived.WalkKit
import Derived.ProofKit
import Derived.Outline
import Derived.LoopTactic
import Derived.Below
import Derived.Lib.ConvBytes
import Derived.Laws.RangeAny
namespace Go.Proofs.YtlkolhfhcicpdaaDoor.blanks
open Go.ChangeShapes Go.WideShapes Go.ChangeAt Go.RowKit
set_option linter.unusedVariables false

def blkB (n : Int) : Bool := decide (n = 9 ∨ n = 10 ∨ n = 13 ∨ n = 32)
theorem blk_no {n : Int} (h9 : ¬ n = 9) (h10 : ¬ n = 10) (h13 : ¬ n = 13) (h32 : ¬ n = 32) : blkB n = false := by simp [blkB, h9, h10, h13, h32]
theorem ret_bool {a b : Bool} (h : a = b) : Ending.returned (.bool a) = .returned (.bool b) := by rw [h]
set_option maxHeartbeats 400000 in
theorem spec_blank (n : Int) (w : World) : Calls Tryd.prog 22 #[.int .i64 n] w fun e w' => e = .returned (.bool (blkB n)) ∧ w' = w := by
  by_cases c9 : n = 9
  · subst c9; go_enter Tryd.func22, Tryd.ntmps22; go_wp2; go_ret; exact ⟨rfl, rfl⟩
  · by_cases c10 : n = 10
    · subst c10; go_enter Tryd.func22, Tryd.ntmps22; go_wp2; go_ret; exact ⟨rfl, rfl⟩
    · by_cases c13 : n = 13
      · subst c13; go_enter Tryd.func22, Tryd.ntmps22; go_wp2; go_ret; exact ⟨rfl, rfl⟩
      · by_cases c32 : n = 32
        · subst c32; go_enter Tryd.func22, Tryd.ntmps22; go_wp2; go_ret; exact ⟨rfl, rfl⟩
        · have hb := blk_no c9 c10 c13 c32
          have HB : Hid (blkB n = false) := hb
          have e9 : (n == 9) = false := by simpa using c9
          have e10 : (n == 10) = false := by simpa using c10
          have e13 : (n == 13) = false := by simpa using c13
          have e32 : (n == 32) = false := by simpa using c32
          clear c9 c10 c13 c32 hb
          go_enter Tryd.func22, Tryd.ntmps22; go_wp2; go_ret; exact ⟨ret_bool HB.out.symm, rfl⟩
set_option maxHeartbeats 400000 in
theorem impl_blank (n : Int) (w : World) : Calls Tryd.prog 16 #[.int .i64 n] w fun e w' => e = .returned (.bool (blkB n)) ∧ w' = w := by
  by_cases c9 : n = 9
  · subst c9; go_enter Tryd.func16, Tryd.ntmps16; go_wp2; go_ret; exact ⟨rfl, rfl⟩
  · by_cases c10 : n = 10
    · subst c10; go_enter Tryd.func16, Tryd.ntmps16; go_wp2; go_ret; exact ⟨rfl, rfl⟩
    · by_cases c13 : n = 13
      · subst c13; go_enter Tryd.func16, Tryd.ntmps16; go_wp2; go_ret; exact ⟨rfl, rfl⟩
      · by_cases c32 : n = 32
        · subst c32; go_enter Tryd.func16, Tryd.ntmps16; go_wp2; go_ret; exact ⟨rfl, rfl⟩
        · have hb := blk_no c9 c10 c13 c32
          have HB : Hid (blkB n = false) := hb
          have e9 : (n == 9) = false := by simpa using c9
          have e10 : (n == 10) = false := by simpa using c10
          have e13 : (n == 13) = false := by simpa using c13
          have e32 : (n == 32) = false := by simpa using c32
          clear c9 c10 c13 c32 hb
          go_enter Tryd.func16, Tryd.ntmps16; go_wp2; go_ret; exact ⟨ret_bool HB.out.symm, rfl⟩

/-! ### All of a text's bytes -/
def allB (s : ByteArray) : Nat → Bool
  | 0 => true
  | k + 1 => allB s k && blkB ((s.get! k).toNat : Int)
def allBlank (s : ByteArray) : Bool := allB s s.size && decide (0 < s.size)
theorem allB_no (s : ByteArray) (k : Nat) (h : blkB ((s.get! k).toNat : Int) = false) : ∀ n, k < n → allB s n = false
  | 0, hn => by omega
  | n + 1, hn => by
    by_cases e : k = n
    · subst e; simp [allB, h]
    · simp [allB, allB_no s k h n (by omega)]
theorem all_no (s : ByteArray) (k : Nat) (hk : k < s.size) (h : blkB ((s.get! k).toNat : Int) = false) : allBlank s = false := by
  simp [allBlank, allB_no s k h s.size hk]
theorem all_yes (s : ByteArray) (k : Nat) (hk : ¬ k < s.size) (hk2 : k ≤ s.size) (h : allB s k = true) : allBlank s = decide (0 < s.size) := by
  obtain rfl : k = s.size := by omega
  simp [allBlank, h]
theorem not_empty (s : ByteArray) : (!s.toList.isEmpty) = decide (0 < s.size) := by
  rw [ByteArray.toList_eq]
  have hl : s.data.toList.length = s.size := Array.length_toList
  cases h : s.data.toList with
  | nil => rw [h] at hl; simp at hl; simp [← hl]
  | cons x r => rw [h] at hl; simp at hl; simp; omega
theorem idx (s : ByteArray) (j : Nat) (h : j < s.size) (W : World) : (Instr.index 9 (.string s) (.int .i64 (j : Int))).run Tryd.prog W = .ok (.int .u8 ((s.get! j).toNat : Int)) W := by
  rw [run_index_string W 9 s .i64 j Tryd.underlying9, dif_pos ⟨by omega, by omega⟩]
  have := get_at s j h
  simp only [Nat.add_zero] at this
  simp [this]
set_option maxHeartbeats 400000 in
theorem spec_all (s : ByteArray) (w : World) (hs : s.size ≤ maxLen) : Calls Tryd.prog 20 #[.string s] w fun e w' => e = .returned (.bool (allBlank s)) ∧ w' = w := by
  unfold maxLen at hs
  go_enter Tryd.func20, Tryd.ntmps20
  go_wp2
  go_loop [3] (fun t => ∃ k : Nat, k ≤ s.size ∧ t = .int .i64 k ∧ Hid (allB s k = true)) (fun t => s.size - (intOf t).toNat)
  case atStart => exact ⟨0, Nat.zero_le _, rfl, rfl⟩
  case round =>
    obtain ⟨k, hk, rfl, ha⟩ := hrel
    by_cases hlt : k < s.size
    · have hx := idx s k hlt
      have hb := (s.get! k).toNat_lt
      obtain ⟨x, ex⟩ : ∃ x, x = ((s.get! k).toNat : Int) := ⟨_, rfl⟩
      have hx0 : 0 ≤ x := by omega
      have hx1 : x < 256 := by omega
      rw [← ex] at hx
      have EX : Hid (x = ((s.get! k).toNat : Int)) := ex
      clear ex hb
      cases hbk : blkB x
      · have HBK : Hid (blkB x = false) := hbk
        go_wp2_with (go_at_call 22; refine (spec_blank _ _).mono ?_; rintro e w' ⟨rfl, rfl⟩)
        go_ret
        exact ⟨ret_bool (all_no s k hlt (by rw [← EX.out]; exact HBK.out)).symm, rfl⟩
      · have HBK : Hid (blkB x = true) := hbk
        go_wp2_with (go_at_call 22; refine (spec_blank _ _).mono ?_; rintro e w' ⟨rfl, rfl⟩)
        go_round
        case rel => exact ⟨k + 1, by omega, by go_num, by show (allB s k && blkB _) = true; rw [ha.out, ← EX.out, HBK.out]; rfl⟩
        case measure => simp [intOf]; omega
    · have hY := all_yes s k hlt hk ha.out
      have HY : Hid (allBlank s = decide (0 < s.size)) := hY
      clear hY
      go_wp2
      go_ret
      exact ⟨ret_bool (by rw [HY.out]; exact not_empty s), rfl⟩
set_option maxHeartbeats 400000 in
/-- W: the world behind the conversion into bytes. -/
theorem impl_core (s : ByteArray) (w W : World) (c : Nat) (hs : s.size ≤ maxLen) (hcv : (convert 9 22 (.string s)).run Tryd.prog w = .ok (.slice (some ⟨w.heap.size, 0, none⟩) s.size c) W)
    (hcell : Hid (∀ j, j < s.size → W.cell? ⟨w.heap.size, j, none⟩ = some (.int .u8 ((s.get! j).toNat : Int)))) : Calls Tryd.prog 19 #[.string s] w fun e w' => e = .returned (.bool (allBlank s)) ∧ w' = W := by
  unfold maxLen at hs
  go_enter Tryd.func19, Tryd.ntmps19
  go_wp2
  go_loop [8] (fun t => ∃ k : Nat, k ≤ s.size ∧ t = .int .i64 k ∧ Hid (allB s k = true)) (fun t => s.size - (intOf t).toNat)
  case atStart => exact ⟨0, Nat.zero_le _, rfl, rfl⟩
  case round =>
    obtain ⟨k, hk, rfl, ha⟩ := hrel
    by_cases hlt : k < s.size
    · have hx := hcell.out k hlt
      have hb := (s.get! k).toNat_lt
      obtain ⟨x, ex⟩ : ∃ x, x = ((s.get! k).toNat : Int) := ⟨_, rfl⟩
      have hx0 : 0 ≤ x := by omega
      have hx1 : x < 256 := by omega
      rw [← ex] at hx
      have EX : Hid (x = ((s.get! k).toNat : Int)) := ex
      clear ex hb
      cases hbk : blkB x
      · have HBK : Hid (blkB x = false) := hbk
        go_wp2_with (go_at_call 16; refine (impl_blank _ _).mono ?_; rintro e w' ⟨rfl, rfl⟩)
        go_ret
        exact ⟨ret_bool (all_no s k hlt (by rw [← EX.out]; exact HBK.out)).symm, rfl⟩
      · have HBK : Hid (blkB x = true) := hbk
        go_wp2_with (go_at_call 16; refine (impl_blank _ _).mono ?_; rintro e w' ⟨rfl, rfl⟩)
        go_round
        case rel => exact ⟨k + 1, by omega, by go_num, by show (allB s k && blkB _) = true; rw [ha.out, ← EX.out, HBK.out]; rfl⟩
        case measure => simp [intOf]; omega
    · have hY := all_yes s k hlt hk ha.out
      have HY : Hid (allBlank s = decide (0 < s.size)) := hY
      clear hY
      go_wp2
      go_ret
      exact ⟨ret_bool (by rw [HY.out]; exact not_empty s), rfl⟩
theorem bytes_below (w : World) (e : TypeId) (s : ByteArray) : Below w.heap.size w (Lib.bytesWorld w e s) := by
  refine ⟨rfl, rfl, rfl, ?_, fun k hk => Lib.bytesWorld_at_old w e s k hk⟩
  rw [Lib.bytesWorld_size]; omega
theorem getD_get! (s : ByteArray) (j : Nat) (h : j < s.size) : s.data.toList.getD j 0 = s.get! j := by
  have := get_at s j h
  simp only [Nat.add_zero] at this
  rw [this, List.getD_eq_getElem?_getD, List.getElem?_eq_getElem (by rw [Array.length_toList]; exact h)]
  rfl
theorem impl_all (s : ByteArray) (w : World) (hs : s.size ≤ maxLen) : Calls Tryd.prog 19 #[.string s] w fun e w' => e = .returned (.bool (allBlank s)) ∧ Below w.heap.size w w' := by
  refine (impl_core s w _ _ hs (Lib.run_convert_string_bytes w 9 22 5 s Tryd.underlying9 Tryd.underlying22 Tryd.underlying5) fun j hj => ?_).mono fun e w' ⟨he, hw⟩ => ⟨he, by rw [hw]; exact bytes_below _ _ _⟩
  rw [Lib.bytesWorld_cell w 5 s j hj, getD_get! s j hj]
end Go.Proofs.YtlkolhfhcicpdaaDoor.blanks
