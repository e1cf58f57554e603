/-
  What the listed variable strconv.ErrSyntax gives the walk: it holds an error.
-/
import Derived.Test.YtehdpkigfjjbaaaGreatDoorParseUint
import Derived.Stop.LaidErr
namespace Go.Proofs.YtehdpkigfjjbaaaGreatDoor.parseu
open Go.RowKit Go.ChangeShapes
set_option linter.unusedVariables false
theorem star : "*" ++ "errors.errorString" = "*errors.errorString" := by decide
theorem rowE (u : TypeId) (h : Tryz.prog.typeName? 3 u = some "*errors.errorString") : u = 135 :=
  typeName_ptr_named (nm := "errors.errorString") (by rw [star]; kernel_rfl) (by kernel_rfl) (by decide) u (by rw [star]; exact h)
theorem err_of {text : List UInt8} {r : List (String × DataW Unit)} {W : World} (h : laidMet Tryz.prog (("strconv.ErrSyntax", .iface "*errors.errorString" (.ptr (.agg [.lit (.string text)]))) :: r) W) : ErrAt W := by
  have hg : Tryz.prog.globalNamed "strconv.ErrSyntax" = some 7 := by kernel_rfl
  obtain ⟨a, s, hv, _⟩ := laid_sentinel h hg (ti := 112) (by kernel_rfl) Tryz.underlying112 rowE Tryz.underlying135 Tryz.underlying137 rfl rfl Tryz.underlying9 (by kernel_rfl) (by kernel_rfl)
  have hc := World.var?_cell hg hv 0
  exact ⟨_, by simpa using hc, .inr ⟨_, _, rfl⟩⟩
theorem err_at {laid : List (String × DataW Unit)} {W : World} (h : laidMet Tryz.prog laid W) {text : List UInt8} : ∀ (k : Nat), laid[k]? = some ("strconv.ErrSyntax", .iface "*errors.errorString" (.ptr (.agg [.lit (.string text)]))) → ErrAt W
  | k, hk => by
    induction k generalizing laid with
    | zero =>
      match laid, hk, h with
      | x :: r, hk, h =>
        obtain rfl := Option.some.inj hk
        exact err_of h
    | succ k ih =>
      match laid, hk, h with
      | x :: r, hk, h => exact ih (laidMet.tail h) (by simpa using hk)
end Go.Proofs.YtehdpkigfjjbaaaGreatDoor.parseu
