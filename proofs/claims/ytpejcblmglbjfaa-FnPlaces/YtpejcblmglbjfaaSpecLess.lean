/-
  The specification's order of Attrs.
-/
import Derived.Test.YtpejcblmglbjfaaTreeP
import Derived.WalkKit
import Derived.Below
namespace Go.Proofs.Ytpejcblmglbjfaa.draws
open Go.RowKit
open trees (Att)
set_option linter.unusedVariables false
def lessA (x y : Att) : Bool := Op.bytesLess x.uri.toList y.uri.toList || ((x.uri.toList == y.uri.toList) && Op.bytesLess x.loc.toList y.loc.toList)
theorem ret_less {a b : Bool} (h : a = b) : Ending.returned (.bool a) = .returned (.bool b) := by rw [h]
set_option maxRecDepth 100000 in
set_option maxHeartbeats 1000000 in
theorem less_any (x y : Att) (w : World) : Calls Try.prog 102 #[.agg #[.string x.pre, .string x.loc, .string x.uri, .string x.val], .agg #[.string y.pre, .string y.loc, .string y.uri, .string y.val]] w fun e w' => e = .returned (.bool (lessA x y)) ∧ Below w.heap.size w w' := by
  have hb := ((Below.refl w.heap.size w).alloc (Nat.le_refl _) (.cells #[.string x.pre, .string x.loc, .string x.uri, .string x.val] 87)).alloc (by simp) (.cells #[.string y.pre, .string y.loc, .string y.uri, .string y.val] 87)
  have HB : Hid _ := hb
  clear hb
  cases h1 : Op.bytesLess x.uri.toList y.uri.toList
  · cases h2 : (x.uri.toList == y.uri.toList)
    · have HF : Hid (lessA x y = false) := by show _ = _; unfold lessA; rw [h1, h2]; rfl
      go_enter Try.func102, Try.ntmps102
      go_wp2
      go_ret
      exact ⟨ret_less HF.out.symm, HB.out⟩
    · have HF : Hid (lessA x y = Op.bytesLess x.loc.toList y.loc.toList) := by show _ = _; unfold lessA; rw [h1, h2]; rfl
      go_enter Try.func102, Try.ntmps102
      go_wp2
      go_ret
      exact ⟨ret_less HF.out.symm, HB.out⟩
  · have HF : Hid (lessA x y = true) := by show _ = _; unfold lessA; rw [h1]; rfl
    go_enter Try.func102, Try.ntmps102
    go_wp2
    go_ret
    exact ⟨ret_less HF.out.symm, HB.out⟩
end Go.Proofs.Ytpejcblmglbjfaa.draws
