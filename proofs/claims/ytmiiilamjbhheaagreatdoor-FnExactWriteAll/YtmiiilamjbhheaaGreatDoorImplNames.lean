/-
  Names: what the program's PlainOk, SplitName, JoinName and NameAt answer, over its own tables: the same as the specification's.
-/
import Derived.Test.YtmiiilamjbhheaaGreatDoorNames
import Derived.Test.YtmiiilamjbhheaaGreatDoorImplAt
import Derived.Lib.Bytealg
namespace Go.Proofs.YtmiiilamjbhheaaGreatDoor.names
open Go.ChangeShapes Go.WideShapes Go.ChangeAt Go.RowKit
set_option linter.unusedVariables false

/-! ### The tables -/
structure Tabs (w : World) : Prop where
  start : ∃ b off cap, spans.SpansAt w 0 spans.startL b off cap
  part : ∃ b off cap, spans.SpansAt w 1 spans.partL b off cap
theorem Tabs.below {w w' : World} (h : Tabs w) (hb : Below w.heap.size w w') : Tabs w' := by
  obtain ⟨⟨b, o, c, h1⟩, b2, o2, c2, h2⟩ := h
  exact ⟨⟨b, o, c, h1.below (Nat.le_refl _) hb⟩, b2, o2, c2, h2.below (Nat.le_refl _) hb⟩
theorem impl_isStart (n : Int) (w : World) (h : Tabs w) : Calls Tryz.prog 106 #[.int .i64 n] w fun e w' => e = .returned (.bool (startB n)) ∧ Below w.heap.size w w' := by
  obtain ⟨⟨b, o, c, h1⟩, b2, o2, c2, h2⟩ := h
  exact spans.impl_start n spans.startL b o c w h1
theorem impl_isPart (n : Int) (w : World) (h : Tabs w) : Calls Tryz.prog 108 #[.int .i64 n] w fun e w' => e = .returned (.bool (partB n)) ∧ Below w.heap.size w w' := by
  obtain ⟨⟨b, o, c, h1⟩, b2, o2, c2, h2⟩ := h
  exact spans.impl_part n spans.partL b2 o2 c2 spans.startL b o c w h2 h1

/-! ### How far signs of a kind go -/
theorem ret_nat {a b : Nat} (h : a = b) : Ending.returned (.int .i64 (a : Int)) = .returned (.int .i64 (b : Int)) := by rw [h]
def run (s : ByteArray) (ok : Int → Bool) : Nat → Nat → Nat
  | 0, pos => pos
  | f + 1, pos => if pos < s.size ∧ Utf8.decode s pos ≠ (65533, 1) ∧ ok ((Utf8.decode s pos).1 : Int) = true then run s ok f (pos + (Utf8.decode s pos).2) else pos
theorem run_stop (s : ByteArray) (ok : Int → Bool) (f pos : Nat) (h : ¬ (pos < s.size ∧ Utf8.decode s pos ≠ (65533, 1) ∧ ok ((Utf8.decode s pos).1 : Int) = true)) : run s ok f pos = pos := by
  cases f with
  | zero => rfl
  | succ f => rw [run, if_neg h]
theorem run_go (s : ByteArray) (ok : Int → Bool) (f pos : Nat) (h : pos < s.size) (hf : s.size ≤ pos + f) (hb : Utf8.decode s pos ≠ (65533, 1)) (ho : ok ((Utf8.decode s pos).1 : Int) = true) : ∃ g, run s ok f pos = run s ok g (pos + (Utf8.decode s pos).2) ∧ s.size ≤ pos + (Utf8.decode s pos).2 + g := by
  cases f with
  | zero => omega
  | succ f =>
    refine ⟨f, ?_, ?_⟩
    · rw [run, if_pos ⟨h, hb, ho⟩]
    · have := dec.decode_pos s pos h; omega
theorem run_name (s : ByteArray) : ∀ f pos, run s nameB f pos = ends s f pos
  | 0, _ => rfl
  | f + 1, pos => by
    rw [run, ends, run_name s f]
theorem run_ge (s : ByteArray) (ok : Int → Bool) : ∀ f pos, pos ≤ run s ok f pos
  | 0, _ => Nat.le_refl _
  | f + 1, pos => by
    rw [run]
    split
    · exact Nat.le_trans (Nat.le_add_right _ _) (run_ge s ok f _)
    · exact Nat.le_refl _
theorem run_le (s : ByteArray) (ok : Int → Bool) : ∀ f pos, pos ≤ s.size → run s ok f pos ≤ s.size
  | 0, _, h => h
  | f + 1, pos, h => by
    rw [run]
    split
    · rename_i hc
      exact run_le s ok f _ (dec.back s pos hc.1 hc.2.1).1
    · exact h
theorem run_scan (s : ByteArray) (ok : Int → Bool) : ∀ f pos, pos ≤ s.size → s.size ≤ pos + f → ((run s ok f pos : Int) == (s.size : Int)) = scans.scan s ok f pos
  | 0, pos, h, hf => by
    have e : pos = s.size := by omega
    rw [e, scans.scan_end s ok 0 _ (by omega)]
    simp [run]
  | f + 1, pos, h, hf => by
    by_cases hlt : pos < s.size
    · by_cases hc : Utf8.decode s pos ≠ (65533, 1) ∧ ok ((Utf8.decode s pos).1 : Int) = true
      · have hp := dec.decode_pos s pos hlt
        have ih := run_scan s ok f (pos + (Utf8.decode s pos).2) (dec.back s pos hlt hc.1).1 (by omega)
        rw [run, if_pos ⟨hlt, hc.1, hc.2⟩, ih, scans.scan, if_pos hlt, decide_eq_true hc.1, hc.2]
        simp
      · rw [run_stop s ok _ _ (fun h' => hc h'.2), scans.scan_bad s ok _ pos hlt hf ?_]
        · simp; omega
        · by_cases hb : Utf8.decode s pos = (65533, 1)
          · exact .inl hb
          · right
            cases ho : ok ((Utf8.decode s pos).1 : Int)
            · rfl
            · exact absurd ⟨hb, ho⟩ hc
    · have e : pos = s.size := by omega
      rw [scans.scan_end s ok _ _ hlt, run_stop s ok _ _ (fun h' => hlt h'.1), e]
      simp
set_option maxRecDepth 100000 in
set_option maxHeartbeats 2000000 in
theorem runEnd_part (s : ByteArray) (i : Nat) (w : World) (hs : s.size ≤ maxLen) (hi : i ≤ s.size) (hT : Hid (Tabs w)) : Calls Tryz.prog 107 #[.string s, .int .i64 i, .func (.func 108) #[] #[]] w fun e w' => e = .returned (.int .i64 (run s partB s.size i)) ∧ Below w.heap.size w w' := by
  have HS : Hid (s.size ≤ maxLen) := hs
  unfold maxLen at hs
  go_enter Tryz.func107, Tryz.ntmps107
  go_wp2
  go_loopw [1] (fun t w' => ∃ pos f : Nat, pos ≤ s.size ∧ t = .int .i64 pos ∧ Hid (run s partB s.size i = run s partB f pos) ∧ Hid (s.size ≤ pos + f) ∧ Hid (Below w.heap.size w w')) (fun t _ => s.size - (intOf t).toNat)
  case atStart => exact ⟨i, s.size, hi, rfl, rfl, by show s.size ≤ i + s.size; omega, Below.refl _ _⟩
  case round =>
    obtain ⟨pos, f, hp, rfl, hen, hf, hbw⟩ := hrel
    by_cases hlt : pos < s.size
    · have hc := fun w => signs.impl_in s pos w HS.out hlt
      by_cases hb : Utf8.decode s pos = (65533, 1)
      · have HF : Hid (run s partB s.size i = pos) := by show _ = _; rw [hen.out]; exact run_stop s _ f pos (fun h => h.2.1 hb)
        rw [signs.satV_no hb] at hc
        have HC : Hid (∀ w, _) := hc
        clear hc hb
        go_wp2_with (go_at_call 105; refine (HC.out _).mono ?_; rintro e w2 ⟨rfl, hb2⟩)
        go_ret
        exact ⟨ret_nat HF.out.symm, hbw.out.trans (hb2.mono hbw.out.size)⟩
      · have hle := (dec.back s pos hlt hb).1
        have hps := dec.decode_pos s pos hlt
        unfold signs.satV at hc
        rw [if_neg hb] at hc
        have hgo := run_go s partB f pos hlt hf.out hb
        have hstop : partB ((Utf8.decode s pos).1 : Int) = false → run s partB f pos = pos := fun h => run_stop s _ f pos (fun h' => by rw [h] at h'; exact absurd h'.2.2 (by decide))
        obtain ⟨c, ec⟩ : ∃ c : Int, c = ((Utf8.decode s pos).1 : Int) := ⟨_, rfl⟩
        obtain ⟨k, ek⟩ : ∃ k : Nat, k = (Utf8.decode s pos).2 := ⟨_, rfl⟩
        rw [← ec] at hgo hstop
        rw [← ek] at hgo hle hps
        rw [← ec, ← ek] at hc
        have HC : Hid (∀ w, _) := hc
        have HGO : Hid _ := hgo
        have HSTOP : Hid _ := hstop
        have hPt := impl_isPart c
        clear hc hb hgo hstop ec ek
        cases hpb : partB c
        · have HF : Hid (run s partB s.size i = pos) := by show _ = _; rw [hen.out]; exact HSTOP.out hpb
          rw [hpb] at hPt
          have HPt : Hid (∀ w, _) := hPt
          clear hPt hpb
          go_wp2_with (first
            | (go_at_call 105; refine (HC.out _).mono ?_; rintro e w2 ⟨rfl, hb2⟩)
            | (go_at_call 108; refine (HPt.out _ ((hT.out.below hbw.out).below hb2)).mono ?_; rintro e w3 ⟨rfl, hb3⟩))
          go_ret
          exact ⟨ret_nat HF.out.symm, (hbw.out.trans (hb2.mono hbw.out.size)).trans (hb3.mono (Nat.le_trans hbw.out.size hb2.size))⟩
        · obtain ⟨g, hg, hg2⟩ := HGO.out hpb
          have HG : Hid _ := hg
          have HG2 : Hid _ := hg2
          rw [hpb] at hPt
          have HPt : Hid (∀ w, _) := hPt
          clear hPt hpb hg hg2
          go_wp2_with (first
            | (go_at_call 105; refine (HC.out _).mono ?_; rintro e w2 ⟨rfl, hb2⟩)
            | (go_at_call 108; refine (HPt.out _ ((hT.out.below hbw.out).below hb2)).mono ?_; rintro e w3 ⟨rfl, hb3⟩))
          go_roundw
          case rel => exact ⟨pos + k, g, hle, by go_num, by show _ = _; rw [hen.out, HG.out], HG2.out, (hbw.out.trans (hb2.mono hbw.out.size)).trans (hb3.mono (Nat.le_trans hbw.out.size hb2.size))⟩
          case measure => simp [intOf]; omega
    · have HF : Hid (run s partB s.size i = pos) := by show _ = _; rw [hen.out]; exact run_stop s _ f pos (fun h => hlt h.1)
      have hc := fun w => signs.impl_out s pos w HS.out (.inr (by omega))
      have HC : Hid (∀ w, _) := hc
      clear hc
      go_wp2_with (go_at_call 105; refine (HC.out _).mono ?_; rintro e w2 ⟨rfl, rfl⟩)
      go_ret
      exact ⟨ret_nat HF.out.symm, hbw.out⟩

/-! ### A plain name -/
set_option maxRecDepth 100000 in
set_option maxHeartbeats 2000000 in
theorem impl_plain (s : ByteArray) (w : World) (hs : s.size ≤ maxLen) (hT : Hid (Tabs w)) : Calls Tryz.prog 91 #[.string s] w fun e w' => e = .returned (.bool (plainB s)) ∧ Below w.heap.size w w' := by
  have HS : Hid (s.size ≤ maxLen) := hs
  unfold maxLen at hs
  by_cases hz : s.size ≤ 16
  · have hz' : (s.size : Int) ≤ 16 := by omega
    by_cases h0 : 0 < s.size
    · have hc : ∀ w, Calls Tryz.prog 105 #[.string s, .int .i64 0] w fun e w' => e = .returned (signs.satV s 0) ∧ Below w.heap.size w w' := fun w => signs.impl_in s 0 w HS.out h0
      have hr : ∀ w, Hid (Tabs w) → Calls Tryz.prog 107 #[.string s, .int .i64 0, .func (.func 108) #[] #[]] w fun e w' => e = .returned (.int .i64 (run s partB s.size 0)) ∧ Below w.heap.size w w' := fun w h => runEnd_part s 0 w HS.out (Nat.zero_le _) h
      have hsc := run_scan s partB s.size 0 (Nat.zero_le _) (by omega)
      by_cases hb : Utf8.decode s 0 = (65533, 1)
      · have HF : Hid (plainB s = false) := plain_scan (scans.scan_bad s partB _ 0 h0 (by omega) (.inl hb))
        rw [signs.satV_no hb] at hc
        have HC : Hid (∀ w, _) := hc
        clear hc hr hsc hb
        go_enter Tryz.func91, Tryz.ntmps91
        go_wp2_with (go_at_call 105; refine (HC.out _).mono ?_; rintro e w2 ⟨rfl, hb2⟩)
        go_ret
        exact ⟨ret_bool HF.out.symm, hb2⟩
      · unfold signs.satV at hc
        rw [if_neg hb] at hc
        have hno := @plain_start s
        have hno2 := @plain_scan s
        have hyes := @plain_yes s ⟨h0, hz⟩
        obtain ⟨c, ec⟩ : ∃ c : Int, c = ((Utf8.decode s 0).1 : Int) := ⟨_, rfl⟩
        obtain ⟨k, ek⟩ : ∃ k : Nat, k = (Utf8.decode s 0).2 := ⟨_, rfl⟩
        obtain ⟨r, er⟩ : ∃ r : Nat, r = run s partB s.size 0 := ⟨_, rfl⟩
        rw [← ec] at hno hyes
        rw [← ec, ← ek] at hc
        rw [← er] at hr hsc
        have HC : Hid (∀ w, _) := hc
        have HR : Hid (∀ w, _) := hr
        have hSt := impl_isStart c
        clear hc hr hb ec ek er
        cases hst : startB c
        · have HF : Hid (plainB s = false) := hno hst
          rw [hst] at hSt
          have HSt : Hid (∀ w, _) := hSt
          clear hSt hst hno hno2 hyes hsc
          go_enter Tryz.func91, Tryz.ntmps91
          go_wp2_with (first
            | (go_at_call 105; refine (HC.out _).mono ?_; rintro e w2 ⟨rfl, hb2⟩)
            | (go_at_call 106; refine (HSt.out _ (hT.out.below hb2)).mono ?_; rintro e w3 ⟨rfl, hb3⟩))
          go_ret
          exact ⟨ret_bool HF.out.symm, hb2.trans (hb3.mono hb2.size)⟩
        · rw [hst] at hSt
          have HSt : Hid (∀ w, _) := hSt
          cases hsn : scans.scan s partB s.size 0
          · have HF : Hid (plainB s = false) := hno2 hsn
            rw [hsn] at hsc
            clear hSt hst hno hno2 hyes hsn
            go_enter Tryz.func91, Tryz.ntmps91
            go_wp2_with (first
              | (go_at_call 105; refine (HC.out _).mono ?_; rintro e w2 ⟨rfl, hb2⟩)
              | (go_at_call 106; refine (HSt.out _ (hT.out.below hb2)).mono ?_; rintro e w3 ⟨rfl, hb3⟩)
              | (go_at_call 107; refine (HR.out _ ((hT.out.below hb2).below hb3)).mono ?_; rintro e w4 ⟨rfl, hb4⟩))
            go_ret
            exact ⟨ret_bool HF.out.symm, (hb2.trans (hb3.mono hb2.size)).trans (hb4.mono (Nat.le_trans hb2.size hb3.size))⟩
          · have HF : Hid (plainB s = true) := hyes hsn hst
            rw [hsn] at hsc
            clear hSt hst hno hno2 hyes hsn
            go_enter Tryz.func91, Tryz.ntmps91
            go_wp2_with (first
              | (go_at_call 105; refine (HC.out _).mono ?_; rintro e w2 ⟨rfl, hb2⟩)
              | (go_at_call 106; refine (HSt.out _ (hT.out.below hb2)).mono ?_; rintro e w3 ⟨rfl, hb3⟩)
              | (go_at_call 107; refine (HR.out _ ((hT.out.below hb2).below hb3)).mono ?_; rintro e w4 ⟨rfl, hb4⟩))
            go_ret
            exact ⟨ret_bool HF.out.symm, (hb2.trans (hb3.mono hb2.size)).trans (hb4.mono (Nat.le_trans hb2.size hb3.size))⟩
    · have HF : Hid (plainB s = false) := plain_size (by omega)
      have HC : Hid (∀ w, _) := fun w => signs.impl_out s 0 w HS.out (.inr (by omega))
      go_enter Tryz.func91, Tryz.ntmps91
      go_wp2_with (go_at_call 105; refine (HC.out _).mono ?_; rintro e w2 ⟨rfl, rfl⟩)
      go_ret
      exact ⟨ret_bool HF.out.symm, Below.refl _ _⟩
  · have HF : Hid (plainB s = false) := plain_size (by omega)
    have hz' : (16 : Int) < s.size := by omega
    go_enter Tryz.func91, Tryz.ntmps91
    go_wp2
    go_ret
    exact ⟨ret_bool HF.out.symm, Below.refl _ _⟩
end Go.Proofs.YtmiiilamjbhheaaGreatDoor.names
