/-
  Marks: how far blanks go, and what Blanks answers, of the specification and of the program.
-/
import Derived.Test.YtekbpekfomblbaaGreatDoorImplAt
import Derived.Test.YtekbpekfomblbaaGreatDoorBlankSign
namespace Go.Proofs.YtekbpekfomblbaaGreatDoor.marks
open Go.ChangeShapes Go.WideShapes Go.ChangeAt Go.RowKit
open blanks (blkB)
set_option linter.unusedVariables false
/-- The place behind the blanks that stand there. -/
def blE (s : ByteArray) : Nat → Nat → Nat
  | 0, k => k
  | f + 1, k => bif decide (k < s.size) && blkB ((s.get! k).toNat : Int) then blE s f (k + 1) else k
def blanksE (s : ByteArray) (k : Nat) : Nat := blE s s.size k
theorem blE_stop (s : ByteArray) (f k : Nat) (h : (decide (k < s.size) && blkB ((s.get! k).toNat : Int)) = false) : blE s f k = k := by
  cases f with
  | zero => rfl
  | succ f => rw [blE, h]; rfl
theorem blE_out (s : ByteArray) (f k : Nat) (h : ¬ k < s.size) : blE s f k = k := blE_stop s f k (by rw [decide_eq_false h]; rfl)
theorem blE_no (s : ByteArray) (f k : Nat) (h : blkB ((s.get! k).toNat : Int) = false) : blE s f k = k := blE_stop s f k (by rw [h, Bool.and_false])
theorem blE_go (s : ByteArray) (f k : Nat) (h : k < s.size) (hf : s.size ≤ k + f) (hb : blkB ((s.get! k).toNat : Int) = true) : ∃ g, blE s f k = blE s g (k + 1) ∧ s.size ≤ k + 1 + g := by
  cases f with
  | zero => omega
  | succ f => exact ⟨f, by rw [blE, decide_eq_true h, hb]; rfl, by omega⟩
theorem blE_ge (s : ByteArray) : ∀ f k, k ≤ blE s f k
  | 0, _ => Nat.le_refl _
  | f + 1, k => by
    rw [blE]
    cases decide (k < s.size) && blkB ((s.get! k).toNat : Int)
    · exact Nat.le_refl _
    · exact Nat.le_trans (Nat.le_succ _) (blE_ge s f (k + 1))
theorem blE_le (s : ByteArray) : ∀ f k, k ≤ s.size → blE s f k ≤ s.size
  | 0, _, h => h
  | f + 1, k, h => by
    rw [blE]
    cases e : decide (k < s.size)
    · exact h
    · have := of_decide_eq_true e
      cases blkB ((s.get! k).toNat : Int)
      · exact h
      · exact blE_le s f (k + 1) (by omega)
theorem ret_nat {a b : Nat} (h : a = b) : Ending.returned (.int .i64 (a : Int)) = .returned (.int .i64 (b : Int)) := by rw [h]
set_option maxRecDepth 100000 in
set_option maxHeartbeats 1000000 in
theorem spec_blanks_in (s : ByteArray) (i : Nat) (w : World) (hs : s.size ≤ maxLen) (hi : i ≤ s.size) : Calls Tryz.prog 11 #[.string s, .int .i64 i] w fun e w' => e = .returned (.int .i64 (blanksE s i)) ∧ w' = w := by
  unfold maxLen at hs
  go_enter Tryz.func11, Tryz.ntmps11
  go_wp2
  go_loop [5] (fun t => ∃ k f : Nat, k ≤ s.size ∧ t = .int .i64 k ∧ Hid (blanksE s i = blE s f k) ∧ Hid (s.size ≤ k + f)) (fun t => s.size - (intOf t).toNat)
  case atStart => exact ⟨i, s.size, hi, rfl, rfl, by show s.size ≤ i + s.size; omega⟩
  case round =>
    obtain ⟨k, f, hk, rfl, ha, hf⟩ := hrel
    by_cases hlt : k < s.size
    · have hx := signs.idx s k hlt
      have hb := (s.get! k).toNat_lt
      have hgo := blE_go s f k hlt hf.out
      have hno := blE_no s f k
      obtain ⟨x, ex⟩ : ∃ x, x = ((s.get! k).toNat : Int) := ⟨_, rfl⟩
      have hx0 : 0 ≤ x := by omega
      have hx1 : x < 256 := by omega
      rw [← ex] at hx hgo hno
      have HGO : Hid _ := hgo
      have HNO : Hid _ := hno
      clear ex hb hgo hno
      cases hbk : blkB x
      · have HF : Hid (blanksE s i = k) := by show _ = _; rw [ha.out, HNO.out hbk]
        clear HGO HNO
        go_wp2_with (go_at_call 30; refine (blanks.spec_blank _ _).mono ?_; rintro e w' ⟨rfl, rfl⟩)
        go_ret
        exact ⟨ret_nat HF.out.symm, rfl⟩
      · obtain ⟨g, hg, hg2⟩ := HGO.out hbk
        have HG : Hid _ := hg
        have HG2 : Hid _ := hg2
        clear HGO HNO hg hg2
        go_wp2_with (go_at_call 30; refine (blanks.spec_blank _ _).mono ?_; rintro e w' ⟨rfl, rfl⟩)
        go_round
        case rel => exact ⟨k + 1, g, by omega, by go_num, by show _ = _; rw [ha.out, HG.out], HG2.out⟩
        case measure => simp [intOf]; omega
    · have HF : Hid (blanksE s i = k) := by show _ = _; rw [ha.out, blE_out s f k hlt]
      go_wp2
      go_ret
      exact ⟨ret_nat HF.out.symm, rfl⟩
set_option maxRecDepth 100000 in
set_option maxHeartbeats 1000000 in
theorem spec_blanks_out (s : ByteArray) (a : Int) (w : World) (hs : s.size ≤ maxLen) (h : a < 0 ∨ (s.size : Int) ≤ a) : Calls Tryz.prog 11 #[.string s, .int .i64 a] w fun e w' => e = .returned (.int .i64 a) ∧ w' = w := by
  unfold maxLen at hs
  by_cases h0 : a < 0
  · clear h
    go_enter Tryz.func11, Tryz.ntmps11
    go_wp2
    go_loop [5] (fun t => t = .int .i64 a) (fun t => 0)
    case atStart => rfl
    case round =>
      obtain rfl := hrel
      go_wp2
      go_ret
      exact ⟨rfl, rfl⟩
  · have h1 : ¬ a < s.size := by omega
    clear h
    go_enter Tryz.func11, Tryz.ntmps11
    go_wp2
    go_loop [5] (fun t => t = .int .i64 a) (fun t => 0)
    case atStart => rfl
    case round =>
      obtain rfl := hrel
      go_wp2
      go_ret
      exact ⟨rfl, rfl⟩
set_option maxRecDepth 100000 in
set_option maxHeartbeats 2000000 in
theorem runEnd_blank (s : ByteArray) (i : Nat) (w : World) (hs : s.size ≤ maxLen) (hi : i ≤ s.size) : Calls Tryz.prog 28 #[.string s, .int .i64 i, .func (.func 29) #[] #[]] w fun e w' => e = .returned (.int .i64 (blanksE s i)) ∧ Below w.heap.size w w' := by
  have HS : Hid (s.size ≤ maxLen) := hs
  unfold maxLen at hs
  go_enter Tryz.func28, Tryz.ntmps28
  go_wp2
  go_loopw [1] (fun t w' => ∃ pos f : Nat, pos ≤ s.size ∧ t = .int .i64 pos ∧ Hid (blanksE s i = blE s f pos) ∧ Hid (s.size ≤ pos + f) ∧ Hid (Below w.heap.size w w')) (fun t _ => s.size - (intOf t).toNat)
  case atStart => exact ⟨i, s.size, hi, rfl, rfl, by show s.size ≤ i + s.size; omega, Below.refl _ _⟩
  case round =>
    obtain ⟨pos, f, hp, rfl, hen, hf, hbw⟩ := hrel
    by_cases hlt : pos < s.size
    · have hc := fun w => signs.impl_in s pos w HS.out hlt
      by_cases hb : Utf8.decode s pos = (65533, 1)
      · have HF : Hid (blanksE s i = pos) := by show _ = _; rw [hen.out]; exact blE_no s f pos (bad_blank s pos hlt hb)
        rw [signs.satV_no hb] at hc
        have HC : Hid (∀ w, _) := hc
        clear hc hb
        go_wp2_with (go_at_call 53; refine (HC.out _).mono ?_; rintro e w2 ⟨rfl, hb2⟩)
        go_ret
        exact ⟨ret_nat HF.out.symm, hbw.out.trans (hb2.mono hbw.out.size)⟩
      · obtain ⟨hsb, hs1⟩ := sign_blank s pos hlt hb
        unfold signs.satV at hc
        rw [if_neg hb] at hc
        have hgo := blE_go s f pos hlt hf.out
        have hstop := blE_no s f pos
        rw [← hsb] at hgo hstop hs1
        obtain ⟨c, ec⟩ : ∃ c : Int, c = ((Utf8.decode s pos).1 : Int) := ⟨_, rfl⟩
        obtain ⟨k, ek⟩ : ∃ k : Nat, k = (Utf8.decode s pos).2 := ⟨_, rfl⟩
        rw [← ec] at hgo hstop hs1
        rw [← ek] at hs1
        rw [← ec, ← ek] at hc
        have HC : Hid (∀ w, _) := hc
        have HGO : Hid _ := hgo
        have HSTOP : Hid _ := hstop
        have hPt := blanks.impl_blank c
        clear hc hb hgo hstop ec ek hsb
        cases hpb : blkB c
        · have HF : Hid (blanksE s i = pos) := by show _ = _; rw [hen.out]; exact HSTOP.out hpb
          rw [hpb] at hPt
          have HPt : Hid (∀ w, _) := hPt
          clear hPt hpb hs1
          go_wp2_with (first
            | (go_at_call 53; refine (HC.out _).mono ?_; rintro e w2 ⟨rfl, hb2⟩)
            | (go_at_call 29; refine (HPt.out _).mono ?_; rintro e w3 ⟨rfl, rfl⟩))
          go_ret
          exact ⟨ret_nat HF.out.symm, hbw.out.trans (hb2.mono hbw.out.size)⟩
        · obtain ⟨g, hg, hg2⟩ := HGO.out hpb
          have HG : Hid _ := hg
          have HG2 : Hid _ := hg2
          obtain rfl := hs1 hpb
          rw [hpb] at hPt
          have HPt : Hid (∀ w, _) := hPt
          clear hPt hpb hg hg2 hs1
          go_wp2_with (first
            | (go_at_call 53; refine (HC.out _).mono ?_; rintro e w2 ⟨rfl, hb2⟩)
            | (go_at_call 29; refine (HPt.out _).mono ?_; rintro e w3 ⟨rfl, rfl⟩))
          go_roundw
          case rel => exact ⟨pos + 1, g, by omega, by go_num, by show _ = _; rw [hen.out, HG.out], HG2.out, hbw.out.trans (hb2.mono hbw.out.size)⟩
          case measure => simp [intOf]; omega
    · have HF : Hid (blanksE s i = pos) := by show _ = _; rw [hen.out]; exact blE_out s f pos hlt
      have hc := fun w => signs.impl_out s pos w HS.out (.inr (by omega))
      have HC : Hid (∀ w, _) := hc
      clear hc
      go_wp2_with (go_at_call 53; refine (HC.out _).mono ?_; rintro e w2 ⟨rfl, rfl⟩)
      go_ret
      exact ⟨ret_nat HF.out.symm, hbw.out⟩
set_option maxRecDepth 100000 in
set_option maxHeartbeats 2000000 in
theorem runEnd_none (s : ByteArray) (a : Int) (w : World) (hs : s.size ≤ maxLen) (h : a < 0 ∨ (s.size : Int) ≤ a) : Calls Tryz.prog 28 #[.string s, .int .i64 a, .func (.func 29) #[] #[]] w fun e w' => e = .returned (.int .i64 a) ∧ w' = w := by
  have HC : Hid (∀ w, _) := fun w => signs.impl_out s a w hs h
  clear h hs
  go_enter Tryz.func28, Tryz.ntmps28
  go_wp2
  go_loopw [1] (fun t w' => t = .int .i64 a ∧ w' = w) (fun t _ => 0)
  case atStart => exact ⟨rfl, rfl⟩
  case round =>
    obtain ⟨rfl, rfl⟩ := hrel
    go_wp2_with (go_at_call 53; refine (HC.out _).mono ?_; rintro e w2 ⟨rfl, rfl⟩)
    go_ret
    exact ⟨rfl, rfl⟩
theorem impl_blanks_in (s : ByteArray) (i : Nat) (w : World) (hs : s.size ≤ maxLen) (hi : i ≤ s.size) : Calls Tryz.prog 10 #[.string s, .int .i64 i] w fun e w' => e = .returned (.int .i64 (blanksE s i)) ∧ Below w.heap.size w w' := by
  have HC : Hid (∀ w, _) := fun w => runEnd_blank s i w hs hi
  clear hs hi
  go_enter Tryz.func10, Tryz.ntmps10
  go_wp2_with (go_at_call 28; refine (HC.out _).mono ?_; rintro e w2 ⟨rfl, hb2⟩)
  go_ret
  exact ⟨rfl, hb2⟩
theorem impl_blanks_out (s : ByteArray) (a : Int) (w : World) (hs : s.size ≤ maxLen) (h : a < 0 ∨ (s.size : Int) ≤ a) : Calls Tryz.prog 10 #[.string s, .int .i64 a] w fun e w' => e = .returned (.int .i64 a) ∧ w' = w := by
  have HC : Hid (∀ w, _) := fun w => runEnd_none s a w hs h
  clear hs h
  go_enter Tryz.func10, Tryz.ntmps10
  go_wp2_with (go_at_call 28; refine (HC.out _).mono ?_; rintro e w2 ⟨rfl, rfl⟩)
  go_ret
  exact ⟨rfl, rfl⟩
end Go.Proofs.YtekbpekfomblbaaGreatDoor.marks
