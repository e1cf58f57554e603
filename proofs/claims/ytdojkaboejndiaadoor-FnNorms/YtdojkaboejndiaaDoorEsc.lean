/-
  What the specification's EscText, EscAttr and Norm answer.
-/
import Derived.Test.YtdojkaboejndiaaDoorEscP
import Derived.Outline
import Derived.LoopTactic
import Derived.OwnWalk
import Derived.Below
import Derived.WalkSmall
import Derived.Laws.BytesArg
import Derived.Laws.OwnMore
import Derived.Test.YtdojkaboejndiaaDoorOwn8
namespace Go.Proofs.YtdojkaboejndiaaDoor.escs
open Go.ChangeShapes Go.WideShapes Go.ChangeAt Go.RowKit
set_option linter.unusedVariables false
theorem ret_str {a b : ByteArray} (h : a = b) : Ending.returned (.string a) = .returned (.string b) := by rw [h]
theorem norm_one {s : ByteArray} {k : Nat} {x : Int} (h : normAt s k = [x]) : normT s k ++ [x] = normT s (k + 1) := by rw [normT, h]
theorem norm_not {s : ByteArray} {k : Nat} (h : normAt s k = []) : normT s k = normT s (k + 1) := by rw [normT, h, List.append_nil]
theorem normAt_own {s : ByteArray} {k : Nat} (h : byteAt s k ≠ 13) : normAt s k = [byteAt s k] := by unfold normAt; rw [if_pos h]
theorem normAt_ten {s : ByteArray} {k : Nat} (h : byteAt s k = 13) (h1 : k + 1 = s.size ∨ byteAt s (k + 1) ≠ 10) : normAt s k = [10] := by unfold normAt; rw [if_neg (by omega), if_pos h1]
theorem normAt_not {s : ByteArray} {k : Nat} (h : byteAt s k = 13) (h1 : ¬ k + 1 = s.size) (h2 : byteAt s (k + 1) = 10) : normAt s k = [] := by unfold normAt; rw [if_neg (by omega), if_neg (by omega)]
theorem idx1 (s : ByteArray) (j : Nat) (h : j + 1 < s.size) (W : World) : (Instr.index 9 (.string s) (.int .i64 ((j : Int) + 1))).run Tryd.prog W = .ok (.int .u8 (byteAt s (j + 1))) W := idx s (j + 1) h W
theorem rel_norm {s : ByteArray} {k : Nat} {w w2 w3 : World} {v : Value} {x : Int} (hn : normAt s k = [x]) (ho : own8.Own w3 w.heap.size v (normT s k ++ [x])) (hb : Below w.heap.size w w2) (hb3 : Below w.heap.size w2 w3) : own8.Own w3 w.heap.size v (normT s (k + 1)) ∧ Below w.heap.size w w3 := by
  rw [norm_one hn] at ho
  exact ⟨ho, hb.trans hb3⟩
set_option maxRecDepth 100000 in
set_option maxHeartbeats 4000000 in
theorem spec_norm (s : ByteArray) (w : World) (hs : s.size ≤ 1048576) : Calls Tryd.prog 9 #[.string s] w fun e w' => e = .returned (.string (normS s)) ∧ Below w.heap.size w w' := by
  go_enter Tryd.func9, Tryd.ntmps9
  go_wp2
  go_loopw [3, 4] (fun v t wr => ∃ k : Nat, k ≤ s.size ∧ t = .int .i64 k ∧ Hid (own8.Own wr w.heap.size v (normT s k)) ∧ Hid (Below w.heap.size w wr)) (fun _ t _ => s.size - (intOf t).toNat)
  case atStart => exact ⟨0, Nat.zero_le _, rfl, own8.own_new w _ (Nat.le_refl _), (Below.refl _ _).alloc (Nat.le_refl _) _⟩
  case round =>
    obtain ⟨k, hk, rfl, ho, hb⟩ := hrel
    by_cases hlt : k < s.size
    · have hx := idx s k hlt
      have hr := byteAt_range s k
      have hz := normT_len s k
      have HZ : Hid ((normT s k).length + 1 ≤ 1000000000) := by show _ ≤ _; omega
      clear hz
      by_cases h13 : byteAt s k = 13
      · rw [h13] at hx
        by_cases hend : k + 1 = s.size
        · have e1 : ((k : Int) + 1 == (s.size : Int)) = true := by simp; omega
          have HN : Hid _ := normAt_ten h13 (.inl hend)
          clear h13 hend hr
          go_wp2_with (at_builtin; refine own8.wp_add w.heap.size _ _ 10 ho.out HZ.out hb.out.size (by rfl) _ _ (by rfl) (by rfl) (by rfl) ?_; rintro v' w3 ho3 hb3)
          have HR : Hid _ := rel_norm HN.out ho3 hb.out hb3
          clear ho3 hb3
          go_wp2
          go_roundw
          case rel => exact ⟨k + 1, by omega, by go_num, HR.out.1, HR.out.2⟩
          case measure => simp [intOf]; omega
        · have e1 : ((k : Int) + 1 == (s.size : Int)) = false := by simp; omega
          have hx1 := idx1 s k (by omega)
          have hr1 := byteAt_range s (k + 1)
          by_cases h10 : byteAt s (k + 1) = 10
          · have HN : Hid _ := normAt_not h13 hend h10
            rw [h10] at hx1
            clear h13 h10 hr hr1
            go_wp2
            go_roundw
            case rel => exact ⟨k + 1, by omega, by go_num, (by show own8.Own _ _ _ _; rw [← norm_not HN.out]; exact ho.out), hb.out⟩
            case measure => simp [intOf]; omega
          · have HN : Hid _ := normAt_ten h13 (.inr h10)
            obtain ⟨y, ey⟩ : ∃ y, y = byteAt s (k + 1) := ⟨_, rfl⟩
            rw [← ey] at hx1 hr1 h10
            have e2 : (y != 10) = true := by simpa using h10
            clear ey h13 h10 hr hend
            go_wp2_with (at_builtin; refine own8.wp_add w.heap.size _ _ 10 ho.out HZ.out hb.out.size (by rfl) _ _ (by rfl) (by rfl) (by rfl) ?_; rintro v' w3 ho3 hb3)
            have HR : Hid _ := rel_norm HN.out ho3 hb.out hb3
            clear ho3 hb3
            go_wp2
            go_roundw
            case rel => exact ⟨k + 1, by omega, by go_num, HR.out.1, HR.out.2⟩
            case measure => simp [intOf]; omega
      · have HN : Hid _ := normAt_own h13
        obtain ⟨x, ex⟩ : ∃ x, x = byteAt s k := ⟨_, rfl⟩
        rw [← ex] at hx hr h13 HN
        have e2 : (x != 13) = true := by simpa using h13
        clear ex h13
        go_wp2_with (at_builtin; refine own8.wp_add w.heap.size _ _ x ho.out HZ.out hb.out.size (by rfl) _ _ (by rfl) (by rfl) (by rfl) ?_; rintro v' w3 ho3 hb3)
        have HR : Hid _ := rel_norm HN.out ho3 hb.out hb3
        clear ho3 hb3
        go_wp2
        go_roundw
        case rel => exact ⟨k + 1, by omega, by go_num, HR.out.1, HR.out.2⟩
        case measure => simp [intOf]; omega
    · have HF : Hid (k = s.size) := by show _ = _; omega
      go_wp2
      refine own8.upon_of_run (own8.own_str ho.out) ?_
      go_wp2
      go_ret
      exact ⟨ret_str (by rw [HF.out]; rfl), hb.out⟩
end Go.Proofs.YtdojkaboejndiaaDoor.escs
