/-
  What the program's SignAt answers at every place: the same as the specification's, by the model's own decoding of a text.
-/
import Derived.Test.YtmiiilamjbhheaaGreatDoorSpecAt
import Derived.Test.YtmiiilamjbhheaaGreatDoorText
import Derived.WalkKit
import Derived.ProofKit
import Derived.Outline
import Derived.LoopTactic
import Derived.OwnWalk
import Derived.Below
import Derived.Deep.QuietTactic
import Derived.BigQuiet
import Derived.Lib.RuneCountTail
import Derived.Laws.RangeAny
import Derived.WalkSmall
namespace Go.Proofs.YtmiiilamjbhheaaGreatDoor.signs
open Go.ChangeShapes Go.WideShapes Go.ChangeAt Go.RowKit
set_option linter.unusedVariables false
set_option maxHeartbeats 400000 in
theorem impl_out (s : ByteArray) (a : Int) (w : World) (hs : s.size ≤ maxLen) (h : a < 0 ∨ (s.size : Int) ≤ a) : Calls Tryz.prog 105 #[.string s, .int .i64 a] w fun e w' => e = .returned nil3 ∧ w' = w := by
  unfold maxLen at hs
  rcases h with h | h
  · go_enter Tryz.func105, Tryz.ntmps105
    go_wp2
    go_ret3
    exact ⟨rfl, rfl⟩
  · have h0 : 0 ≤ a := by omega
    go_enter Tryz.func105, Tryz.ntmps105
    go_wp2
    go_ret3
    exact ⟨rfl, rfl⟩
set_option maxHeartbeats 1000000 in
/-- The walk: t is the rest of the text, c and k what its decoding at 0 gives. -/
theorem impl_core (s t : ByteArray) (i c k : Nat) (w : World) (hs : s.size ≤ maxLen) (hi : i < s.size) (ht : s.extract i s.size = t) (hz : t.size = s.size - i) (hd : Hid (Utf8.decode t 0 = (c, k))) (hk : 1 ≤ k) (hc : c ≤ 1114111)
    (hg : i + k ≤ s.size) (b : Bool) (hcmp2 : t.size ≤ k → ((texts.stx (c : Int)).toList == t.toList) = b) (hcmp : ((texts.stx (c : Int)).toList == (s.extract i (i + k)).toList) = b) :
    Calls Tryz.prog 105 #[.string s, .int .i64 i] w fun e w' => e = .returned (if b = true then yes3 c (i + k) else nil3) ∧ Below w.heap.size w w' := by
  unfold maxLen at hs
  have hi1 : (i : Int) < s.size := by omega
  have hi2 : (i : Int) ≤ s.size := by omega
  go_enter Tryz.func105, Tryz.ntmps105
  go_wp2
  go_loopw [7, 8] (fun n x w' => ∃ pos : Nat, w' = w.iter t pos ∧ x = .int .i64 s.size ∧ (pos = 0 ∧ n = .int .i64 0 ∨ k = pos ∧ n = .int .i64 c)) (fun _ _ w' => t.size - w'.iterPos w.heap.size)
  case atStart => exact ⟨0, rfl, rfl, .inl ⟨rfl, rfl⟩⟩
  case round =>
    obtain ⟨pos, rfl, rfl, hp⟩ := hrel
    rcases hp with ⟨rfl, rfl⟩ | ⟨rfl, rfl⟩
    · have h0 : 0 < t.size := by omega
      have hnx : ∀ ty, (Instr.next (.pointer (some ⟨w.heap.size, 0, none⟩)) true ty).run Tryz.prog (w.iter t 0) = .ok (.tuple #[.bool true, .int .i64 0, .int .i32 c]) (w.iter t k) := fun ty => by
        have := run_next_any (P := Tryz.prog) w t 0 ty h0
        rw [hd.out] at this
        simpa using this
      go_wp2
      go_roundw
      case rel => exact ⟨k, rfl, rfl, .inr ⟨rfl, by go_num⟩⟩
      case measure => simp; omega
    · by_cases hlt : k < t.size
      · have hnx : ∀ ty, (Instr.next (.pointer (some ⟨w.heap.size, 0, none⟩)) true ty).run Tryz.prog (w.iter t k) = .ok (.tuple #[.bool true, .int .i64 k, .int .i32 (Utf8.decode t k).1]) (w.iter t (k + (Utf8.decode t k).2)) := fun ty => run_next_any w t k ty hlt
        have hj1 : (i : Int) ≤ (i : Int) + k := by omega
        have hj2 : (i : Int) + k ≤ s.size := by omega
        cases b
        all_goals
          go_wp2
          go_quiet ((go_at_call 121; exact Calls.quiet_of_same (texts.impl_any _ _)))
          go_wp2
          go_ret3
          exact ⟨rfl, below_drewN ((Below.refl _ _).alloc (Nat.le_refl _) _) _⟩
      · have hnx : ∀ ty, (Instr.next (.pointer (some ⟨w.heap.size, 0, none⟩)) true ty).run Tryz.prog (w.iter t k) = .ok (.tuple #[.bool false]) (w.iter t k) := fun ty => run_next_end w t k ty hlt
        have hcm := hcmp2 (by omega)
        have hik : (s.size : Int) = i + k := by omega
        have HIK : Hid ((s.size : Int) = i + k) := hik
        clear hik hcmp hcmp2
        cases b
        all_goals
          go_wp2
          go_quiet ((go_at_call 121; exact Calls.quiet_of_same (texts.impl_any _ _)))
          go_wp2
          go_ret3
          exact ⟨by first | rfl | exact ret_yes rfl HIK.out, below_drewN ((Below.refl _ _).alloc (Nat.le_refl _) _) _⟩
theorem beq_same {a b : ByteArray} (h : a = b) : (a.toList == b.toList) = true := by rw [h]; simp
theorem beq_other {a b : ByteArray} (h : a ≠ b) : (a.toList == b.toList) = false := by
  simp only [beq_eq_false_iff_ne, ne_eq]
  intro e
  rw [ByteArray.toList_eq, ByteArray.toList_eq] at e
  exact h (ByteArray.ext (Array.toList_inj.mp e))
/-- The program's SignAt, at every place inside a text. -/
theorem impl_in (s : ByteArray) (i : Nat) (w : World) (hs : s.size ≤ maxLen) (hi : i < s.size) : Calls Tryz.prog 105 #[.string s, .int .i64 i] w fun e w' => e = .returned (satV s i) ∧ Below w.heap.size w w' := by
  have hz : (s.extract i s.size).size = s.size - i := by rw [ByteArray.size_extract]; omega
  have hd : Utf8.decode (s.extract i s.size) 0 = ((Utf8.decode s i).1, (Utf8.decode s i).2) := Lib.tail_decode s i 0
  have hv := dec.decode_valid s i hi
  rw [validRune_eq] at hv
  have hc : (Utf8.decode s i).1 ≤ 1114111 := by simp [validRune] at hv; omega
  by_cases hb : Utf8.decode s i = (65533, 1)
  · have e1 : (Utf8.decode s i).1 = 65533 := by rw [hb]
    have e2 : (Utf8.decode s i).2 = 1 := by rw [hb]
    rw [satV_no hb]
    refine (impl_core s _ i _ _ w hs hi rfl hz hd (by omega) hc (by omega) false (fun h => beq_other ?_) (beq_other ?_)).mono fun e w' ⟨he, hw⟩ => ⟨by rw [he]; rfl, hw⟩
    · rw [e1]; exact dec.bad s i s.size (by omega)
    · rw [e1, e2]; exact dec.bad s i (i + 1) (Nat.le_refl _)
  · obtain ⟨hg, hx⟩ := dec.back s i hi hb
    have e2 := dec.decode_pos s i hi
    unfold satV
    rw [if_neg hb]
    refine (impl_core s _ i _ _ w hs hi rfl hz hd e2 hc hg true (fun h => beq_same ?_) (beq_same hx)).mono fun e w' ⟨he, hw⟩ => ⟨by rw [he]; rfl, hw⟩
    rw [hx, show i + (Utf8.decode s i).2 = s.size by omega]
end Go.Proofs.YtmiiilamjbhheaaGreatDoor.signs
