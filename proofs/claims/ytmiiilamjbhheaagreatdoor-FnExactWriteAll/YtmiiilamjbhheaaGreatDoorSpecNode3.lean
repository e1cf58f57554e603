/-
  What the specification's helpers of chapter 5 answer: xml in any letters.
-/
import Derived.Test.YtmiiilamjbhheaaGreatDoorSpecNode2
import Derived.Test.YtmiiilamjbhheaaGreatDoorEscP
namespace Go.Proofs.YtmiiilamjbhheaaGreatDoor.trees
open Go.ChangeShapes Go.WideShapes Go.ChangeAt Go.RowKit
open scopes (ret_bool)
open escs (byteAt)
set_option linter.unusedVariables false
def anyB (z a b : Int) : Bool := (z == a) || (z == b)
def xmlAnyB (s : ByteArray) : Bool := decide (s.size = 3) && (anyB (byteAt s 0) 120 88 && (anyB (byteAt s 1) 109 77 && anyB (byteAt s 2) 108 76))
set_option maxRecDepth 100000 in
set_option maxHeartbeats 2000000 in
theorem spec_l5xml (s : ByteArray) (w : World) (hs : s.size ≤ maxLen) : Calls Tryz.prog 72 #[.string s] w fun e w' => e = .returned (.bool (xmlAnyB s)) ∧ Below w.heap.size w w' := by
  by_cases h3 : s.size = 3
  · have hx0 := escs.idx s 0 (by omega)
    have hx1 := escs.idx s 1 (by omega)
    have hx2 := escs.idx s 2 (by omega)
    have HF : Hid (xmlAnyB s = (anyB (byteAt s 0) 120 88 && (anyB (byteAt s 1) 109 77 && anyB (byteAt s 2) 108 76))) := by show _ = _; unfold xmlAnyB; rw [decide_eq_true h3, Bool.true_and]
    rw [HF.out]
    have q : ((s.size : Int) != 3) = false := by simpa using (show (s.size : Int) = 3 by omega)
    have q' : ((s.size : Int) == 3) = true := by simpa using (show (s.size : Int) = 3 by omega)
    generalize byteAt s 0 = z0 at hx0
    generalize byteAt s 1 = z1 at hx1
    generalize byteAt s 2 = z2 at hx2
    have HX0 : ∀ W, (Instr.index 9 (.string s) (.int .i64 0)).run Tryz.prog W = .ok (.int .u8 z0) W := hx0
    have HX1 : ∀ W, (Instr.index 9 (.string s) (.int .i64 1)).run Tryz.prog W = .ok (.int .u8 z1) W := hx1
    have HX2 : ∀ W, (Instr.index 9 (.string s) (.int .i64 2)).run Tryz.prog W = .ok (.int .u8 z2) W := hx2
    clear hx0 hx1 hx2 h3 HF hs
    unfold anyB
    cases e0 : (z0 == 120) <;> cases f0 : (z0 == 88) <;> cases e1 : (z1 == 109) <;> cases f1 : (z1 == 77) <;> cases e2 : (z2 == 108)
    all_goals
      go_enter Tryz.func72, Tryz.ntmps72
      go_wp2
      go_ret
      exact ⟨ret_bool (by simp), Below.refl _ _⟩
  · have q : ((s.size : Int) != 3) = true := by simpa using (show ¬ (s.size : Int) = 3 by omega)
    have HF : Hid (xmlAnyB s = false) := by show _ = _; unfold xmlAnyB; rw [decide_eq_false h3, Bool.false_and]
    clear h3 hs
    go_enter Tryz.func72, Tryz.ntmps72
    go_wp2
    go_ret
    exact ⟨ret_bool HF.out.symm, Below.refl _ _⟩
end Go.Proofs.YtmiiilamjbhheaaGreatDoor.trees
