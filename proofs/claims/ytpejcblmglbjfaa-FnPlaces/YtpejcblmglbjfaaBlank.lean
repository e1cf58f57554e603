/-
  What IsBlank and AllBlank answer, of the specification and of the program.
-/
import Derived.Test.YtpejcblmglbjfaaRows
import Derived.WalkKit
import Derived.ProofKit
import Derived.Outline
import Derived.LoopTactic
import Derived.Below
import Derived.Lib.ConvBytes
import Derived.Laws.RangeAny
namespace Go.Proofs.Ytpejcblmglbjfaa.blanks
open Go.ChangeShapes Go.WideShapes Go.ChangeAt Go.RowKit
set_option linter.unusedVariables false

def blkB (n : Int) : Bool := decide (n = 9 ∨ n = 10 ∨ n = 13 ∨ n = 32)
theorem blk_no {n : Int} (h9 : ¬ n = 9) (h10 : ¬ n = 10) (h13 : ¬ n = 13) (h32 : ¬ n = 32) : blkB n = false := by simp [blkB, h9, h10, h13, h32]
theorem ret_bool {a b : Bool} (h : a = b) : Ending.returned (.bool a) = .returned (.bool b) := by rw [h]
set_option maxHeartbeats 400000 in
theorem spec_blank (n : Int) (w : World) : Calls Try.prog 119 #[.int .i64 n] w fun e w' => e = .returned (.bool (blkB n)) ∧ w' = w := by
  by_cases c9 : n = 9
  · subst c9; go_enter Try.func119, Try.ntmps119; go_wp2; go_ret; exact ⟨rfl, rfl⟩
  · by_cases c10 : n = 10
    · subst c10; go_enter Try.func119, Try.ntmps119; go_wp2; go_ret; exact ⟨rfl, rfl⟩
    · by_cases c13 : n = 13
      · subst c13; go_enter Try.func119, Try.ntmps119; go_wp2; go_ret; exact ⟨rfl, rfl⟩
      · by_cases c32 : n = 32
        · subst c32; go_enter Try.func119, Try.ntmps119; go_wp2; go_ret; exact ⟨rfl, rfl⟩
        · have hb := blk_no c9 c10 c13 c32
          have HB : Hid (blkB n = false) := hb
          have e9 : (n == 9) = false := by simpa using c9
          have e10 : (n == 10) = false := by simpa using c10
          have e13 : (n == 13) = false := by simpa using c13
          have e32 : (n == 32) = false := by simpa using c32
          clear c9 c10 c13 c32 hb
          go_enter Try.func119, Try.ntmps119; go_wp2; go_ret; exact ⟨ret_bool HB.out.symm, rfl⟩
end Go.Proofs.Ytpejcblmglbjfaa.blanks
