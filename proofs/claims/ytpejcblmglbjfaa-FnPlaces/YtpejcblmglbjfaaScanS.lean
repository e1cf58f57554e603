/-
  Whether a text is signs that may stand in one, one behind the other: the specification's l1Signs and TextOk.
-/
import Derived.Test.YtpejcblmglbjfaaScanP
import Derived.Test.YtpejcblmglbjfaaSignS
import Derived.Test.YtpejcblmglbjfaaSpans
import Derived.WalkSmall
namespace Go.Proofs.Ytpejcblmglbjfaa.scans
open Go.ChangeShapes Go.WideShapes Go.ChangeAt Go.RowKit
set_option linter.unusedVariables false
def signs (s : ByteArray) : Bool := scan s (spans.inB spans.signL) s.size 0
theorem ret_bool {a b : Bool} (h : a = b) : Ending.returned (.bool a) = .returned (.bool b) := by rw [h]

/-! ### The specification's -/
set_option maxHeartbeats 1000000 in
theorem spec_signs (s : ByteArray) (w : World) (hs : s.size ≤ maxLen) : Calls Try.prog 124 #[.string s] w fun e w' => e = .returned (.bool (signs s && decide (s.size ≤ 1500))) ∧ w' = w := by
  have HS : Hid (s.size ≤ maxLen) := hs
  unfold maxLen at hs
  go_enter Try.func124, Try.ntmps124
  go_wp2
  go_loop [3] (fun t => ∃ pos f : Nat, pos ≤ s.size ∧ t = .int .i64 pos ∧ Hid (signs s = scan s (spans.inB spans.signL) f pos) ∧ Hid (s.size ≤ pos + f)) (fun t => s.size - (intOf t).toNat)
  case atStart => exact ⟨0, s.size, Nat.zero_le _, rfl, rfl, by show s.size ≤ 0 + s.size; omega⟩
  case round =>
    obtain ⟨pos, f, hp, rfl, hsc, hf⟩ := hrel
    by_cases hlt : pos < s.size
    · have hc := fun w => signs.spec_in s pos w HS.out hlt
      by_cases hb : Utf8.decode s pos = (65533, 1)
      · have hfin := scan_bad s (spans.inB spans.signL) f pos hlt hf.out (.inl hb)
        rw [← hsc.out] at hfin
        have HF : Hid (signs s = false) := hfin
        rw [signs.satV_no hb] at hc
        have HC : Hid (∀ w, _) := hc
        clear hc hb hfin
        go_wp2_with (go_at_call 121; refine (HC.out _).mono ?_; rintro e w' ⟨rfl, rfl⟩)
        go_ret
        exact ⟨ret_bool (by rw [HF.out]; rfl), rfl⟩
      · have hle := (dec.back s pos hlt hb).1
        have hps := dec.decode_pos s pos hlt
        unfold signs.satV at hc
        rw [if_neg hb] at hc
        obtain ⟨c, ec⟩ : ∃ c : Int, c = ((Utf8.decode s pos).1 : Int) := ⟨_, rfl⟩
        obtain ⟨k, ek⟩ : ∃ k : Nat, k = (Utf8.decode s pos).2 := ⟨_, rfl⟩
        cases ho : spans.inB spans.signL c
        · have hfin := scan_bad s (spans.inB spans.signL) f pos hlt hf.out (.inr (by rw [← ec]; exact ho))
          rw [← hsc.out] at hfin
          have HF : Hid (signs s = false) := hfin
          rw [← ec, ← ek] at hc
          have HC : Hid (∀ w, _) := hc
          clear hc hb hfin ec ek hle hps
          go_wp2_with (first
            | (go_at_call 121; refine (HC.out _).mono ?_; rintro e w' ⟨rfl, rfl⟩)
            | (go_at_call 127; refine (spans.spec_sign _ _).mono ?_; rintro e w' ⟨rfl, rfl⟩))
          go_ret
          exact ⟨ret_bool (by rw [HF.out]; rfl), rfl⟩
        · obtain ⟨g, hg, hg2⟩ := scan_good s (spans.inB spans.signL) f pos hlt hf.out hb (by rw [← ec]; exact ho)
          rw [← ek] at hle hps hg hg2
          have HG : Hid (signs s = scan s (spans.inB spans.signL) g (pos + k)) := by show _ = _; rw [hsc.out, hg]
          have HG2 : Hid (s.size ≤ pos + k + g) := hg2
          rw [← ec, ← ek] at hc
          have HC : Hid (∀ w, _) := hc
          clear hc hb hg hg2 ec ek
          go_wp2_with (first
            | (go_at_call 121; refine (HC.out _).mono ?_; rintro e w' ⟨rfl, rfl⟩)
            | (go_at_call 127; refine (spans.spec_sign _ _).mono ?_; rintro e w' ⟨rfl, rfl⟩))
          go_round
          case rel => exact ⟨pos + k, g, hle, by go_num, HG, HG2⟩
          case measure => simp [intOf]; omega
    · have hfin := scan_end s (spans.inB spans.signL) f pos hlt
      rw [← hsc.out] at hfin
      have HF : Hid (signs s = true) := hfin
      clear hfin
      go_wp2
      go_ret
      exact ⟨ret_bool (by rw [HF.out]; simp; omega), rfl⟩
set_option maxHeartbeats 1000000 in
theorem spec_text (s : ByteArray) (w : World) (hs : s.size ≤ maxLen) : Calls Try.prog 113 #[.string s] w fun e w' => e = .returned (.bool (decide (s.size ≤ 600) && signs s)) ∧ w' = w := by
  by_cases h : s.size ≤ 600
  · have h' : (s.size : Int) ≤ 600 := by omega
    have hc := fun w => spec_signs s w hs
    rw [show decide (s.size ≤ 1500) = true from decide_eq_true (by omega), Bool.and_true] at hc
    have HC : Hid (∀ w, _) := hc
    have HD : Hid (decide (s.size ≤ 600) = true) := decide_eq_true h
    clear hc h
    go_enter Try.func113, Try.ntmps113
    go_wp2_with (go_at_call 124; refine (HC.out _).mono ?_; rintro e w' ⟨rfl, rfl⟩)
    go_ret
    exact ⟨ret_bool (by rw [HD.out]; simp), rfl⟩
  · have h' : ¬ (s.size : Int) ≤ 600 := by omega
    have HD : Hid (decide (s.size ≤ 600) = false) := decide_eq_false h
    clear h
    go_enter Try.func113, Try.ntmps113
    go_wp2
    go_ret
    exact ⟨ret_bool (by rw [HD.out]; simp; try omega), rfl⟩
end Go.Proofs.Ytpejcblmglbjfaa.scans
