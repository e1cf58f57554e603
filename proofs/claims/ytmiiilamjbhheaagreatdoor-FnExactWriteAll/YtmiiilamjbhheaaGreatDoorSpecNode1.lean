/-
  What the specification's helpers of chapter 5 answer.
-/
import Derived.Test.YtmiiilamjbhheaaGreatDoorNodeP
import Derived.Test.YtmiiilamjbhheaaGreatDoorDecl
namespace Go.Proofs.YtmiiilamjbhheaaGreatDoor.trees
open Go.ChangeShapes Go.WideShapes Go.ChangeAt Go.RowKit
open pairs (Pair at0 PairsAt)
open scopes (xmlB textB declsB ret_bool)
set_option linter.unusedVariables false
set_option maxRecDepth 100000 in
set_option maxHeartbeats 1000000 in
theorem spec_l5pre (s : ByteArray) (w : World) (hs : s.size ≤ maxLen) : Calls Tryz.prog 64 #[.string s] w fun e w' => e = .returned (.bool (l5PreB s)) ∧ Below w.heap.size w w' := by
  cases he : s.toList.isEmpty
  · have HP : Hid _ := names.spec_plain s w hs
    have HX : Hid (∀ w, _) := fun w => scopes.spec_xml s w hs
    have HF : Hid (l5PreB s = (names.plainB s && !xmlB s)) := by show _ = _; unfold l5PreB; rw [he, Bool.false_or]
    clear hs
    go_enter Tryz.func64, Tryz.ntmps64
    go_wp2_with fail
    refine Calls.mono HP.out ?_
    rintro e w1 ⟨rfl, hb1⟩
    have HB1 : Hid _ := hb1
    clear hb1 HP
    cases hp : names.plainB s
    · rw [hp] at HF
      go_wp2
      go_ret
      exact ⟨ret_bool HF.out.symm, HB1.out⟩
    · rw [hp] at HF
      go_wp2_with (go_at_call 79; refine (HX.out _).mono ?_; rintro e w2 ⟨rfl, hw1⟩; have hw2 := hw1.symm; clear hw1; subst hw2)
      go_ret
      exact ⟨ret_bool HF.out.symm, HB1.out⟩
  · have HF : Hid (l5PreB s = true) := by show _ = _; unfold l5PreB; rw [he, Bool.true_or]
    clear hs
    go_enter Tryz.func64, Tryz.ntmps64
    go_wp2
    go_ret
    exact ⟨ret_bool HF.out.symm, Below.refl _ _⟩
set_option maxRecDepth 100000 in
set_option maxHeartbeats 1000000 in
theorem spec_l5has (s t : ByteArray) (w : World) (hs : s.size ≤ 1048576) (ht : t.size ≤ 1048576) : Calls Tryz.prog 71 #[.string s, .string t] w fun e w' => e = .returned (.bool (hasB s t)) ∧ w' = w := by
  go_enter Tryz.func71, Tryz.ntmps71
  go_wp2
  go_loop [5] (fun q => ∃ i : Nat, i ≤ s.size + 1 ∧ q = .int .i64 i ∧ Hid (∀ j, j < i → j + t.size ≤ s.size → ((s.extract j (j + t.size)).toList == t.toList) = false)) (fun q => s.size + 1 - (intOf q).toNat)
  case atStart => exact ⟨0, Nat.zero_le _, rfl, fun j hj => by omega⟩
  case round =>
    obtain ⟨i, hi, rfl, hup⟩ := hrel
    by_cases hlt : i + t.size ≤ s.size
    · obtain ⟨j, hj⟩ : ∃ j : Nat, j = i + t.size := ⟨_, rfl⟩
      have hji : (i : Int) + (t.size : Int) = (j : Int) := by omega
      have hjs : (j : Int) ≤ s.size := by omega
      have hij : (i : Int) ≤ j := by omega
      have HJ : Hid _ := hj
      cases hq : ((s.extract i j).toList == t.toList)
      · have HUP : Hid (∀ j, j < i + 1 → j + t.size ≤ s.size → ((s.extract j (j + t.size)).toList == t.toList) = false) := fun j hj hj' => by
          by_cases e : j = i
          · rw [e, ← HJ.out]; exact hq
          · exact hup.out j (by omega) hj'
        clear hj
        go_wp2
        go_round
        case rel => exact ⟨i + 1, by have := HJ.out; omega, by go_num, HUP.out⟩
        case measure => simp [intOf]; omega
      · have HF : Hid (hasB s t = true) := has_yes hlt (by rw [← HJ.out]; exact hq)
        clear hj
        go_wp2
        go_ret
        exact ⟨ret_bool HF.out.symm, rfl⟩
    · have hlt' : ¬ (i : Int) + t.size ≤ s.size := by omega
      have HF : Hid (hasB s t = false) := has_no fun j hj => hup.out j (by omega) hj
      go_wp2
      go_ret
      exact ⟨ret_bool HF.out.symm, rfl⟩
end Go.Proofs.YtmiiilamjbhheaaGreatDoor.trees
