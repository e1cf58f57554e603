/-
  At every int the law FnExactIsBlank returns true: IsBlank answers as its specification (whether the number is 9, 10, 13 or 32), at every argument. No condition.
  The frame was written by the kit's own program (proof-skeleton.mjs); the walk is ours.
-/
import Derived.Test.YtlkolhfhcicpdahRows
import Derived.WalkKit
import Derived.Below
import Derived.ProofKit
import Derived.OpenShut
import Derived.ShutString
namespace Go.Proofs.Ytlkolhfhcicpdah.fnExactIsBlank
open Go.ChangeShapes Go.WideShapes Go.ChangeAt Go.RowKit
open Go.ChangeMaps (open_string shut_string)
set_option linter.unusedVariables false      -- a walk need not use every 'w<i>' (that an integer argument fits its kind)

theorem own : ownKnob Try.prog.godebug = none := by kernel_rfl

/-! ### STEP 1: THE WALK: the Go text returns true. 'Below w.heap.size w w'': the world has at most new blocks (Derived/RowKit3.lean). Part the cases AHEAD of 'go_enter' where a test parts the walk; take each callee by a contract of your own. -/
theorem walk (a0 : Int) (w0 : (Lit.int .i64 a0).wf = true) (w : World) :
    Calls Try.prog 5 #[.int .i64 a0] w fun e w' => e = .returned (.bool true) ∧ Below w.heap.size w w' := by
  by_cases c9 : a0 = 9
  · subst c9; go_enter Try.func5, Try.ntmps5; go_wp2; go_ret; exact ⟨rfl, Below.refl _ _⟩
  · by_cases c10 : a0 = 10
    · subst c10; go_enter Try.func5, Try.ntmps5; go_wp2; go_ret; exact ⟨rfl, Below.refl _ _⟩
    · by_cases c13 : a0 = 13
      · subst c13; go_enter Try.func5, Try.ntmps5; go_wp2; go_ret; exact ⟨rfl, Below.refl _ _⟩
      · by_cases c32 : a0 = 32
        · subst c32; go_enter Try.func5, Try.ntmps5; go_wp2; go_ret; exact ⟨rfl, Below.refl _ _⟩
        · have e9 : (a0 == 9) = false := by simpa using c9
          have e10 : (a0 == 10) = false := by simpa using c10
          have e13 : (a0 == 13) = false := by simpa using c13
          have e32 : (a0 == 32) = false := by simpa using c32
          clear c9 c10 c13 c32
          go_enter Try.func5, Try.ntmps5; go_wp2; go_ret; exact ⟨rfl, Below.refl _ _⟩

/-! ### THE ROW's STEP: WRITTEN OUT: LEAVE IT -/
set_option maxRecDepth 100000 in
theorem lifted (os : Os) (started : os.Started) (H : Type) (enc : TypeId × Value → H) :
    ReturnsInHanded {} Try.checked os 5 .any (Rows.fnExactIsBlankSpec.pre6 enc Try.prog Try.f5 Rows.fnExactIsBlankRow.domain false) (Rows.fnExactIsBlankSpec.post enc Try.prog Try.f5 false true false false) := by
  refine returnsInHanded_of_change (C := Try.checked) own started (by kernel_rfl) Try.func5
    (ChangeSpec.witness6 (enc := enc) (C := Try.checked) false ⟨#[], #[.int .i64 0], []⟩ 8 (by kernel_rfl) (by kernel_rfl) (by kernel_rfl) (by kernel_rfl)) ?_
  intro W base args ds gs before hval0 hW hcnd _
  have hval : ∀ (j : Nat) t v, Try.f5.params[j]? = some t → args[j]? = some v → Value.okWide Try.prog W .any base t v := hval0
  have hW' := hW
  obtain ⟨p, q, hA0, hV, rfl, hfz, hnd⟩ := hW
  have hA : DataW.TrodAll enc Try.prog W 0 (fun _ => true) true Try.f5.params.toList args.toList ds p := hA0
  rw [Try.params5] at hA hval
  obtain ⟨v0, vs0, d0, ds0, p0, q0, hargs, rfl, rfl, h0, r0⟩ := trodAll_cons hA
  obtain ⟨rfl, rfl, rfl⟩ := trodAll_nil r0
  obtain rfl : args = #[v0] := by cases args; simp_all
  obtain ⟨rfl, rfl⟩ := trodVars_none hV
  obtain ⟨a0, rfl, rfl, rfl, w0⟩ := open_int Try.underlying3 (hval 0 3 v0 rfl rfl) h0
  clear hA0 hval0
  simp only [List.append_nil] at hW'
  refine (walk a0 w0 W).mono fun e W' ⟨he, bel⟩ => ?_
  subst he
  exact ⟨_, rfl, _, _, _, [], _, [], hW', (trodAll_cons_mk (shut_bool Try.underlying4 _) trodAll_mk0), (trodAll_cons_mk (shut_int Try.underlying3 w0) trodAll_mk0), rfl, bel.frame _, fun h => by cases h⟩

theorem over : Rows.fnExactIsBlankRow.holds Try.pinned (OpenSpec.ofChange Rows.fnExactIsBlankSpec) :=
  OpenClaim.holds_of_wide 5 Try.f5 rfl rfl rfl rfl rfl rfl rfl ⟨rfl, rfl, rfl, rfl, rfl⟩ rfl rfl rfl rfl rfl (by kernel_rfl) Try.func5 (by kernel_rfl)
    (of_decide_eq_true (by kernel_rfl)) (by unfold Func.isWrapper; first | (rw [if_pos (by decide +kernel)]; kernel_rfl) | (rw [if_neg (by decide +kernel)]; exact ⟨rfl, rfl⟩))
    (fun os started H enc _ => lifted os started H enc)

/-- ████ THE STATEMENT ████ -/
theorem proved : Rows.FnExactIsBlankSaid :=
  over
#print axioms proved
end Go.Proofs.Ytlkolhfhcicpdah.fnExactIsBlank
