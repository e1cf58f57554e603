/-
  What the specification's EntsOk and Expand answer.
-/
import Derived.Test.YtekbpekfomblbaaGreatDoorRefP
import Derived.Outline
import Derived.LoopTactic
import Derived.OwnWalk
import Derived.Below
import Derived.WalkSmall
namespace Go.Proofs.YtekbpekfomblbaaGreatDoor.refs
open Go.ChangeShapes Go.WideShapes Go.ChangeAt Go.RowKit
open escs (byteAt)
open pairs (Pair at0)
set_option linter.unusedVariables false
set_option maxHeartbeats 1000000 in
theorem spec_known (s : ByteArray) (w : World) : Calls Tryz.prog 41 #[.string s] w fun e w' => e = .returned (.string (known s)) ∧ w' = w := by
  go_enter Tryz.func41, Tryz.ntmps41
  go_wp2
  all_goals
    go_ret
    exact ⟨ret_str (by simp only [known, *]; rfl), rfl⟩
theorem pow_bound {n : Int} {k : Nat} (hk : k ≤ 7) (h : n < 16 ^ k) : n ≤ 268435456 := by
  have h1 : (16 : Int) ^ k ≤ 16 ^ 7 := by exact_mod_cast Nat.pow_le_pow_right (by decide) hk
  have h2 : (16 : Int) ^ 7 = 268435456 := by decide
  omega
theorem pow_step {n m : Int} {k : Nat} (h : n < 16 ^ k) (h0 : m ≤ n * 16 + 15) : m < 16 ^ (k + 1) := by
  rw [Int.pow_succ]
  omega
set_option maxRecDepth 100000 in
set_option maxHeartbeats 4000000 in
theorem spec_number16 (s : ByteArray) (w : World) (hs : s.size ≤ maxLen) : Calls Tryz.prog 83 #[.string s, .int .i64 16, .int .i64 6] w fun e w' => e = .returned (.int .i64 (number s 16 6)) ∧ w' = w := by
  unfold maxLen at hs
  by_cases hz : 1 ≤ s.size ∧ s.size ≤ 6
  · have h1 : spans.inOne 1 6 (s.size : Int) = true := spans.one_yes (by omega) (by omega)
    have hz2 := hz.2
    have HZ : Hid _ := hz
    clear hz
    go_enter Tryz.func83, Tryz.ntmps83
    go_wp2_with (go_at_call 64; refine (spans.in_any _ _ _ _).mono ?_; rintro e w1 ⟨rfl, hw1⟩; have hw2 := hw1.symm; clear hw1; subst hw2)
    go_loop [7, 8] (fun o t => ∃ (k : Nat) (n : Int), k ≤ s.size ∧ t = .int .i64 k ∧ o = .int .i64 n ∧ 0 ≤ n ∧ Hid (n < 16 ^ k) ∧ Hid (numTo s 16 k = some n)) (fun _ t => s.size - (intOf t).toNat)
    case atStart => exact ⟨0, 0, Nat.zero_le _, rfl, rfl, by omega, by show (0 : Int) < 16 ^ 0; decide, rfl⟩
    case round =>
      obtain ⟨k, n, hk, rfl, rfl, hn0, hn1, hn⟩ := hrel
      by_cases hlt : k < s.size
      · have hx := escs.idx s k hlt
        have hr := escs.byteAt_range s k
        have hnb : n ≤ 268435456 := pow_bound (by omega) hn1.out
        have hgo := @numTo_go s 16 n k hn.out
        have hstop := @numTo_stop s 16 n k hn.out
        have hbad := @number_bad s 16 6 (k + 1) (by omega)
        obtain ⟨x, ex⟩ : ∃ x, x = byteAt s k := ⟨_, rfl⟩
        rw [← ex] at hx hr hgo hstop
        have HBAD : Hid _ := hbad
        clear ex hbad
        rcases (show (48 ≤ x ∧ x ≤ 57) ∨ (97 ≤ x ∧ x ≤ 102) ∨ (65 ≤ x ∧ x ≤ 70) ∨ (¬ (48 ≤ x ∧ x ≤ 57) ∧ ¬ (97 ≤ x ∧ x ≤ 102) ∧ ¬ (65 ≤ x ∧ x ≤ 70)) by omega) with hc | hc | hc | hc
        · have h0 : spans.inOne 48 57 x = true := spans.one_yes (by omega) (by omega)
          have hd : digit x = x - 48 := by unfold digit; rw [if_pos hc]
          have HGO : Hid _ := hgo (decide_eq_true (by rw [hd]; omega))
          rw [hd] at HGO
          clear hgo hstop hd
          go_wp2_with (go_at_call 64; refine (spans.in_any _ _ _ _).mono ?_; rintro e w1 ⟨rfl, hw1⟩; have hw2 := hw1.symm; clear hw1; subst hw2)
          go_round
          case rel => exact ⟨k + 1, _, by omega, by go_num, rfl, by omega, pow_step hn1.out (by omega), HGO.out⟩
          case measure => simp [intOf]; omega
        · have h0 : spans.inOne 48 57 x = false := spans.one_no (by omega)
          have h0a : spans.inOne 97 102 x = true := spans.one_yes (by omega) (by omega)
          have hd : digit x = x - 97 + 10 := by unfold digit; rw [if_neg (by omega), if_pos hc]
          have HGO : Hid _ := hgo (decide_eq_true (by rw [hd]; omega))
          rw [hd] at HGO
          clear hgo hstop hd
          go_wp2_with (go_at_call 64; refine (spans.in_any _ _ _ _).mono ?_; rintro e w1 ⟨rfl, hw1⟩; have hw2 := hw1.symm; clear hw1; subst hw2)
          go_round
          case rel => exact ⟨k + 1, _, by omega, by go_num, rfl, by omega, pow_step hn1.out (by omega), HGO.out⟩
          case measure => simp [intOf]; omega
        · have h0 : spans.inOne 48 57 x = false := spans.one_no (by omega)
          have h0a : spans.inOne 97 102 x = false := spans.one_no (by omega)
          have h0A : spans.inOne 65 70 x = true := spans.one_yes (by omega) (by omega)
          have hd : digit x = x - 65 + 10 := by unfold digit; rw [if_neg (by omega), if_neg (by omega), if_pos hc]
          have HGO : Hid _ := hgo (decide_eq_true (by rw [hd]; omega))
          rw [hd] at HGO
          clear hgo hstop hd
          go_wp2_with (go_at_call 64; refine (spans.in_any _ _ _ _).mono ?_; rintro e w1 ⟨rfl, hw1⟩; have hw2 := hw1.symm; clear hw1; subst hw2)
          go_round
          case rel => exact ⟨k + 1, _, by omega, by go_num, rfl, by omega, pow_step hn1.out (by omega), HGO.out⟩
          case measure => simp [intOf]; omega
        · have h0 : spans.inOne 48 57 x = false := spans.one_no (by omega)
          have h0a : spans.inOne 97 102 x = false := spans.one_no (by omega)
          have h0A : spans.inOne 65 70 x = false := spans.one_no (by omega)
          have hd : digit x = -1 := by unfold digit; rw [if_neg hc.1, if_neg hc.2.1, if_neg hc.2.2]
          have HF : Hid (number s 16 6 = -1) := HBAD.out (hstop (decide_eq_false (by rw [hd]; omega)))
          clear hgo hstop hd
          go_wp2_with (go_at_call 64; refine (spans.in_any _ _ _ _).mono ?_; rintro e w1 ⟨rfl, hw1⟩; have hw2 := hw1.symm; clear hw1; subst hw2)
          go_ret
          exact ⟨ret_int HF.out.symm, rfl⟩
      · have HF : Hid (number s 16 6 = n) := number_yes HZ.out (by rw [← show k = s.size by omega]; exact hn.out)
        go_wp2
        go_ret
        exact ⟨ret_int HF.out.symm, rfl⟩
  · have h1 : spans.inOne 1 6 (s.size : Int) = false := spans.one_no (by omega)
    have HF : Hid (number s 16 6 = -1) := number_no hz
    clear hz
    go_enter Tryz.func83, Tryz.ntmps83
    go_wp2_with (go_at_call 64; refine (spans.in_any _ _ _ _).mono ?_; rintro e w1 ⟨rfl, hw1⟩; have hw2 := hw1.symm; clear hw1; subst hw2)
    go_ret
    exact ⟨ret_int HF.out.symm, rfl⟩
set_option maxRecDepth 100000 in
set_option maxHeartbeats 4000000 in
theorem spec_number10 (s : ByteArray) (w : World) (hs : s.size ≤ maxLen) : Calls Tryz.prog 83 #[.string s, .int .i64 10, .int .i64 7] w fun e w' => e = .returned (.int .i64 (number s 10 7)) ∧ w' = w := by
  unfold maxLen at hs
  by_cases hz : 1 ≤ s.size ∧ s.size ≤ 7
  · have h1 : spans.inOne 1 7 (s.size : Int) = true := spans.one_yes (by omega) (by omega)
    have hz2 := hz.2
    have HZ : Hid _ := hz
    clear hz
    go_enter Tryz.func83, Tryz.ntmps83
    go_wp2_with (go_at_call 64; refine (spans.in_any _ _ _ _).mono ?_; rintro e w1 ⟨rfl, hw1⟩; have hw2 := hw1.symm; clear hw1; subst hw2)
    go_loop [7, 8] (fun o t => ∃ (k : Nat) (n : Int), k ≤ s.size ∧ t = .int .i64 k ∧ o = .int .i64 n ∧ 0 ≤ n ∧ Hid (n < 16 ^ k) ∧ Hid (numTo s 10 k = some n)) (fun _ t => s.size - (intOf t).toNat)
    case atStart => exact ⟨0, 0, Nat.zero_le _, rfl, rfl, by omega, by show (0 : Int) < 16 ^ 0; decide, rfl⟩
    case round =>
      obtain ⟨k, n, hk, rfl, rfl, hn0, hn1, hn⟩ := hrel
      by_cases hlt : k < s.size
      · have hx := escs.idx s k hlt
        have hr := escs.byteAt_range s k
        have hnb : n ≤ 268435456 := pow_bound (by omega) hn1.out
        have hgo := @numTo_go s 10 n k hn.out
        have hstop := @numTo_stop s 10 n k hn.out
        have hbad := @number_bad s 10 7 (k + 1) (by omega)
        obtain ⟨x, ex⟩ : ∃ x, x = byteAt s k := ⟨_, rfl⟩
        rw [← ex] at hx hr hgo hstop
        have HBAD : Hid _ := hbad
        clear ex hbad
        rcases (show (48 ≤ x ∧ x ≤ 57) ∨ (97 ≤ x ∧ x ≤ 102) ∨ (65 ≤ x ∧ x ≤ 70) ∨ (¬ (48 ≤ x ∧ x ≤ 57) ∧ ¬ (97 ≤ x ∧ x ≤ 102) ∧ ¬ (65 ≤ x ∧ x ≤ 70)) by omega) with hc | hc | hc | hc
        · have h0 : spans.inOne 48 57 x = true := spans.one_yes (by omega) (by omega)
          have hd : digit x = x - 48 := by unfold digit; rw [if_pos hc]
          have HGO : Hid _ := hgo (decide_eq_true (by rw [hd]; omega))
          rw [hd] at HGO
          clear hgo hstop hd
          go_wp2_with (go_at_call 64; refine (spans.in_any _ _ _ _).mono ?_; rintro e w1 ⟨rfl, hw1⟩; have hw2 := hw1.symm; clear hw1; subst hw2)
          go_round
          case rel => exact ⟨k + 1, _, by omega, by go_num, rfl, by omega, pow_step hn1.out (by omega), HGO.out⟩
          case measure => simp [intOf]; omega
        · have h0 : spans.inOne 48 57 x = false := spans.one_no (by omega)
          have h0a : spans.inOne 97 102 x = true := spans.one_yes (by omega) (by omega)
          have hd : digit x = x - 97 + 10 := by unfold digit; rw [if_neg (by omega), if_pos hc]
          have HF : Hid (number s 10 7 = -1) := HBAD.out (hstop (decide_eq_false (by rw [hd]; omega)))
          clear hgo hstop hd
          go_wp2_with (go_at_call 64; refine (spans.in_any _ _ _ _).mono ?_; rintro e w1 ⟨rfl, hw1⟩; have hw2 := hw1.symm; clear hw1; subst hw2)
          go_ret
          exact ⟨ret_int HF.out.symm, rfl⟩
        · have h0 : spans.inOne 48 57 x = false := spans.one_no (by omega)
          have h0a : spans.inOne 97 102 x = false := spans.one_no (by omega)
          have h0A : spans.inOne 65 70 x = true := spans.one_yes (by omega) (by omega)
          have hd : digit x = x - 65 + 10 := by unfold digit; rw [if_neg (by omega), if_neg (by omega), if_pos hc]
          have HF : Hid (number s 10 7 = -1) := HBAD.out (hstop (decide_eq_false (by rw [hd]; omega)))
          clear hgo hstop hd
          go_wp2_with (go_at_call 64; refine (spans.in_any _ _ _ _).mono ?_; rintro e w1 ⟨rfl, hw1⟩; have hw2 := hw1.symm; clear hw1; subst hw2)
          go_ret
          exact ⟨ret_int HF.out.symm, rfl⟩
        · have h0 : spans.inOne 48 57 x = false := spans.one_no (by omega)
          have h0a : spans.inOne 97 102 x = false := spans.one_no (by omega)
          have h0A : spans.inOne 65 70 x = false := spans.one_no (by omega)
          have hd : digit x = -1 := by unfold digit; rw [if_neg hc.1, if_neg hc.2.1, if_neg hc.2.2]
          have HF : Hid (number s 10 7 = -1) := HBAD.out (hstop (decide_eq_false (by rw [hd]; omega)))
          clear hgo hstop hd
          go_wp2_with (go_at_call 64; refine (spans.in_any _ _ _ _).mono ?_; rintro e w1 ⟨rfl, hw1⟩; have hw2 := hw1.symm; clear hw1; subst hw2)
          go_ret
          exact ⟨ret_int HF.out.symm, rfl⟩
      · have HF : Hid (number s 10 7 = n) := number_yes HZ.out (by rw [← show k = s.size by omega]; exact hn.out)
        go_wp2
        go_ret
        exact ⟨ret_int HF.out.symm, rfl⟩
  · have h1 : spans.inOne 1 7 (s.size : Int) = false := spans.one_no (by omega)
    have HF : Hid (number s 10 7 = -1) := number_no hz
    clear hz
    go_enter Tryz.func83, Tryz.ntmps83
    go_wp2_with (go_at_call 64; refine (spans.in_any _ _ _ _).mono ?_; rintro e w1 ⟨rfl, hw1⟩; have hw2 := hw1.symm; clear hw1; subst hw2)
    go_ret
    exact ⟨ret_int HF.out.symm, rfl⟩
end Go.Proofs.YtekbpekfomblbaaGreatDoor.refs
