/-
  What the specification's EscText, EscAttr and Norm answer.
-/
import Derived.Test.YtmiiilamjbhheaaGreatDoorEscP
import Derived.Outline
import Derived.LoopTactic
import Derived.OwnWalk
import Derived.Below
import Derived.WalkSmall
import Derived.Laws.BytesArg
import Derived.Laws.OwnMore
import Derived.Test.YtmiiilamjbhheaaGreatDoorOwn8
namespace Go.Proofs.YtmiiilamjbhheaaGreatDoor.escs
open Go.ChangeShapes Go.WideShapes Go.ChangeAt Go.RowKit
set_option linter.unusedVariables false
theorem ret_str {a b : ByteArray} (h : a = b) : Ending.returned (.string a) = .returned (.string b) := by rw [h]
theorem esc_next {attr : Bool} {s x : ByteArray} {k : Nat} (h : escAt attr s k = x) : escT attr s k ++ x = escT attr s (k + 1) := by rw [escT, h]
theorem str_eq {a b : ByteArray} (h : a = b) : Value.string a = .string b := by rw [h]
set_option maxRecDepth 100000 in
set_option maxHeartbeats 4000000 in
theorem spec_esc (s : ByteArray) (attr : Bool) (w : World) (hs : s.size ≤ 1048576) : Calls Tryz.prog 55 #[.string s, .bool attr] w fun e w' => e = .returned (.string (escS attr s)) ∧ w' = w := by
  go_enter Tryz.func55, Tryz.ntmps55
  go_wp2
  go_loop [5, 6] (fun o t => ∃ k : Nat, k ≤ s.size ∧ t = .int .i64 k ∧ o = .string (escT attr s k)) (fun _ t => s.size - (intOf t).toNat)
  case atStart => exact ⟨0, Nat.zero_le _, rfl, rfl⟩
  case round =>
    obtain ⟨k, hk, rfl, rfl⟩ := hrel
    by_cases hlt : k < s.size
    · have hx := idx s k hlt
      have hcut := cut1 s k hlt
      have hr := byteAt_range s k
      have hz := escT_size attr s k
      have hk1 : (k : Int) + 1 ≤ s.size := by omega
      have hn := @esc_next attr s
      have hE : escAt attr s k = escA attr (byteAt s k) (s.extract k (k + 1)) := rfl
      obtain ⟨x, ex⟩ : ∃ x, x = byteAt s k := ⟨_, rfl⟩
      obtain ⟨o, eo⟩ : ∃ o, o = escT attr s k := ⟨_, rfl⟩
      rw [← ex] at hx hr hE
      rw [← eo] at hz ⊢
      have HN : Hid (∀ x : ByteArray, escAt attr s k = x → o ++ x = escT attr s (k + 1)) := fun x h => by rw [eo]; exact hn h
      have HE : Hid _ := hE
      clear ex eo hn hE
      by_cases hy : x = 38 ∨ x = 60 ∨ x = 62 ∨ x = 13 ∨ x = 34 ∨ x = 9 ∨ x = 10
      · rcases hy with rfl | rfl | rfl | rfl | rfl | rfl | rfl <;> cases attr
        all_goals
          go_wp2
          go_round
          case rel => exact ⟨k + 1, by omega, by go_num, str_eq (HN.out _ (by rw [HE.out]; rfl))⟩
          case measure => simp [intOf]; omega
      · have h1 : (x == 38) = false := by simp; omega
        have h2 : (x == 60) = false := by simp; omega
        have h3 : (x == 62) = false := by simp; omega
        have h4 : (x == 13) = false := by simp; omega
        have h5 : (x == 34) = false := by simp; omega
        have h6 : (x == 9) = false := by simp; omega
        have h7 : (x == 10) = false := by simp; omega
        have HO : Hid (escAt attr s k = s.extract k (k + 1)) := by show _ = _; rw [HE.out]; exact escA_own _ (by omega) (by omega) (by omega) (by omega) (by omega) (by omega) (by omega)
        clear hy
        go_wp2
        go_round
        case rel => exact ⟨k + 1, by omega, by go_num, str_eq (HN.out _ HO.out)⟩
        case measure => simp [intOf]; omega
    · have HF : Hid (k = s.size) := by show _ = _; omega
      go_wp2
      go_ret
      exact ⟨ret_str (by rw [HF.out]; rfl), rfl⟩
set_option maxHeartbeats 1000000 in
theorem spec_escText (s : ByteArray) (w : World) (hs : s.size ≤ 1048576) : Calls Tryz.prog 42 #[.string s] w fun e w' => e = .returned (.string (escS false s)) ∧ w' = w := by
  have HC : Hid (∀ w, _) := fun w => spec_esc s false w hs
  go_enter Tryz.func42, Tryz.ntmps42
  go_wp2_with (go_at_call 55; refine (HC.out _).mono ?_; rintro e w1 ⟨rfl, rfl⟩)
  go_ret
  exact ⟨rfl, rfl⟩
set_option maxHeartbeats 1000000 in
theorem spec_escAttr (s : ByteArray) (w : World) (hs : s.size ≤ 1048576) : Calls Tryz.prog 44 #[.string s] w fun e w' => e = .returned (.string (escS true s)) ∧ w' = w := by
  have HC : Hid (∀ w, _) := fun w => spec_esc s true w hs
  go_enter Tryz.func44, Tryz.ntmps44
  go_wp2_with (go_at_call 55; refine (HC.out _).mono ?_; rintro e w1 ⟨rfl, rfl⟩)
  go_ret
  exact ⟨rfl, rfl⟩
end Go.Proofs.YtmiiilamjbhheaaGreatDoor.escs
