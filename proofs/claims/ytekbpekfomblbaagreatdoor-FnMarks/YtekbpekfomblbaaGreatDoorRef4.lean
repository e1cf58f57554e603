/-
  What the specification's Expand answers.
-/
import Derived.Test.YtekbpekfomblbaaGreatDoorRef3
namespace Go.Proofs.YtekbpekfomblbaaGreatDoor.refs
open Go.ChangeShapes Go.WideShapes Go.ChangeAt Go.RowKit
open escs (byteAt)
open pairs (Pair at0 PairsAt)
set_option linter.unusedVariables false
theorem exp_signs {s : ByteArray} {L : List Pair} (h : (scans.signs s && decide (s.size ≤ 1500)) = false) : expandR s L = (⟨#[]⟩, false) := by
  unfold expandR; rw [if_neg (fun h' => by rw [h] at h'; exact absurd h'.1 (by decide))]
theorem exp_ents {s : ByteArray} {L : List Pair} (h : entsB L = false) : expandR s L = (⟨#[]⟩, false) := by
  unfold expandR; rw [if_neg (fun h' => by rw [h] at h'; exact absurd h'.2 (by decide))]
theorem exp_none {s : ByteArray} {L : List Pair} (h : expE s L = none) : expandR s L = (⟨#[]⟩, false) := by
  unfold expandR; rw [h]; split <;> rfl
theorem exp_long {s out : ByteArray} {L : List Pair} (h : expE s L = some out) (h1 : (decide (out.size ≤ 600) && scans.signs out) = false) : expandR s L = (⟨#[]⟩, false) := by
  unfold expandR; rw [h]; simp only; unfold textB; rw [h1]; split <;> rfl
theorem exp_yes {s out : ByteArray} {L : List Pair} (h0 : (scans.signs s && decide (s.size ≤ 1500)) = true) (h2 : entsB L = true) (h : expE s L = some out) (h1 : (decide (out.size ≤ 600) && scans.signs out) = true) : expandR s L = (out, true) := by
  unfold expandR; rw [if_pos ⟨h0, h2⟩, h]; simp only; unfold textB; rw [if_pos h1]
theorem cutFrom (s : ByteArray) (p k : Nat) (h : p + 1 ≤ k) (h1 : k ≤ s.size) (W : World) : (Instr.slice 9 (.string s) (some (.int .i64 ((p : Int) + 1))) (some (.int .i64 (k : Int))) none).run Tryz.prog W = .ok (.string (s.extract (p + 1) k)) W := escs.cut s (p + 1) k h h1 W
theorem spec_oneH (s x : ByteArray) (ok : Bool) (a : Option Addr) (L : List Pair) (cap : Nat) (hs : s.size ≤ maxLen) (h : oneR s L = (x, ok)) (w : World) (hL : PairsAt w a L) :
    Calls Tryz.prog 71 #[.string s, .slice a L.length cap] w fun e w' => e = .returned (.tuple #[.string x, .bool ok]) ∧ Below w.heap.size w w' := by
  have := spec_one s a L cap w hs hL
  rw [h] at this
  exact this
set_option maxRecDepth 100000 in
set_option maxHeartbeats 8000000 in
theorem spec_expand (s : ByteArray) (a : Option Addr) (L : List Pair) (cap : Nat) (w : World) (hs : s.size ≤ maxLen) (hL : Hid (PairsAt w a L)) (hv : ∀ i, i < L.length → (at0 L i).2.size ≤ 1048576) :
    Calls Tryz.prog 47 #[.string s, .slice a L.length cap] w fun e w' => e = .returned (sb (expandR s L)) ∧ Below w.heap.size w w' := by
  have HS : Hid (s.size ≤ maxLen) := hs
  have HV : Hid _ := hv
  clear hv
  have hG := fun w => scans.spec_signs s w hs
  cases hg : (scans.signs s && decide (s.size ≤ 1500))
  · have HF : Hid _ := exp_signs (L := L) hg
    rw [hg] at hG
    have HG : Hid (∀ w, _) := hG
    clear hG hg
    go_enter Tryz.func47, Tryz.ntmps47
    go_wp2_with (go_at_call 49; refine (HG.out _).mono ?_; rintro e w1 ⟨rfl, hw1⟩; have hw2 := hw1.symm; clear hw1; subst hw2)
    go_ret2
    exact ⟨ret_sb HF.out, Below.refl _ _⟩
  · have hsz : s.size ≤ 1500 := by
      have := (Bool.and_eq_true _ _ ▸ hg).2
      exact of_decide_eq_true this
    have HGY : Hid _ := hg
    rw [hg] at hG
    have HG : Hid (∀ w, _) := hG
    clear hG hg hs
    have hE := fun w h => spec_ents a L cap w h
    cases he : entsB L
    · have HF : Hid _ := exp_ents (s := s) he
      rw [he] at hE
      have HE : Hid (∀ w, _) := hE
      clear hE he
      go_enter Tryz.func47, Tryz.ntmps47
      go_wp2_with fail
      refine (HG.out _).mono ?_
      rintro e w1 ⟨rfl, hw1⟩
      have hw2 := hw1.symm
      clear hw1
      subst hw2
      go_wp2_with fail
      refine (HE.out _ hL).mono ?_
      rintro e w2 ⟨rfl, hb2⟩
      have HB2 : Hid _ := hb2
      clear hb2
      go_wp2
      go_ret2
      exact ⟨ret_sb HF.out, HB2.out⟩
    · have HEY : Hid _ := he
      rw [he] at hE
      have HE : Hid (∀ w, _) := hE
      clear hE he
      go_enter Tryz.func47, Tryz.ntmps47
      go_wp2_with fail
      refine (HG.out _).mono ?_
      rintro e w1 ⟨rfl, hw1⟩
      have hw2 := hw1.symm
      clear hw1
      subst hw2
      go_wp2_with fail
      refine (HE.out _ hL).mono ?_
      rintro e w2 ⟨rfl, hb2⟩
      have HB2 : Hid _ := hb2
      clear hb2
      go_wp2
      go_loopw [6, 7] (fun o t wr => ∃ (p f : Nat) (out : ByteArray), p ≤ s.size ∧ t = .int .i64 p ∧ o = .string out ∧ out.size ≤ p * 1048576 ∧ Hid (expE s L = expF s L f p out) ∧ Hid (s.size ≤ p + f) ∧ Hid (Below w.heap.size w wr)) (fun _ t _ => s.size - (intOf t).toNat)
      case atStart => exact ⟨0, s.size, ⟨#[]⟩, Nat.zero_le _, rfl, rfl, Nat.zero_le _, rfl, (by show s.size ≤ 0 + s.size; omega), HB2⟩
      case round =>
        obtain ⟨p, f, out, hp, rfl, rfl, hoz, hex, hf, hbw⟩ := hrel
        by_cases hlt : p < s.size
        · have hx := escs.idx s p hlt
          have hr := escs.byteAt_range s p
          by_cases h38 : byteAt s p = 38
          · have h59 : byteAt s p ≠ 59 := by omega
            have H38 : Hid _ := h38
            rw [h38] at hx
            clear h38 hr
            go_wp2
            go_loop [8] (fun t => ∃ k g : Nat, p ≤ k ∧ k ≤ s.size ∧ t = .int .i64 k ∧ Hid (semi s p = semiF s g k) ∧ Hid (s.size ≤ k + g)) (fun t => s.size - (intOf t).toNat)
            case atStart => exact ⟨p, s.size, Nat.le_refl _, hp, rfl, rfl, by show s.size ≤ p + s.size; omega⟩
            case round =>
              obtain ⟨k, g, hpk, hks, rfl, hse, hkf⟩ := hrel
              clear hx
              by_cases hkl : k < s.size
              · have hy := escs.idx s k hkl
                have hry := escs.byteAt_range s k
                by_cases hyk : byteAt s k = 59
                · have HSE : Hid (semi s p = k) := by show _ = _; rw [hse.out]; exact semiF_stop s g k (fun h => h.2 hyk)
                  have hpk2 : p + 1 ≤ k := by
                    rcases Nat.lt_or_ge p k with h | h
                    · omega
                    · rw [show k = p by omega] at hyk; exact absurd hyk h59
                  rw [hyk] at hy
                  have hcut := cutFrom s p k hpk2 hks
                  have hbad := expF_bad s L f p out hf.out hlt H38.out (by rw [HSE.out]; omega)
                  have hgo := expF_go s L f p out hf.out hlt H38.out (by rw [HSE.out]; omega)
                  have hoz1 := one_size (s.extract (p + 1) k) L HV.out
                  rw [HSE.out] at hbad hgo
                  have hzz : (s.extract (p + 1) k).size ≤ maxLen := by rw [ByteArray.size_extract]; unfold maxLen; omega
                  obtain ⟨x, ok, hone⟩ : ∃ x ok, oneR (s.extract (p + 1) k) L = (x, ok) := ⟨_, _, rfl⟩
                  have hO := spec_oneH _ x ok a L cap hzz hone
                  rw [hone] at hbad hgo hoz1
                  have HO : Hid (∀ w, _) := hO
                  have hks' : ((k : Int) == (s.size : Int)) = false := by simp; omega
                  clear hO hone hyk hry h59 hzz
                  cases ok
                  · have HF : Hid _ := exp_none (by rw [hex.out]; exact hbad rfl)
                    clear hbad hgo
                    go_wp2_with fail
                    refine (HO.out _ (hL.out.below (Nat.le_refl _) hbw.out)).mono ?_
                    rintro e w4 ⟨rfl, hb4⟩
                    have HB4 : Hid _ := hbw.out.trans (hb4.mono hbw.out.size)
                    clear hb4
                    go_wp2
                    go_ret2
                    exact ⟨ret_sb HF.out, HB4.out⟩
                  · obtain ⟨g2, hg1, hg2⟩ := hgo rfl
                    have HG1 : Hid _ := hg1
                    have HG2 : Hid _ := hg2
                    clear hbad hgo hg1 hg2
                    go_wp2_with fail
                    refine (HO.out _ (hL.out.below (Nat.le_refl _) hbw.out)).mono ?_
                    rintro e w4 ⟨rfl, hb4⟩
                    have HB4 : Hid _ := hbw.out.trans (hb4.mono hbw.out.size)
                    clear hb4
                    go_wp2
                    go_roundw
                    case rel => exact ⟨k + 1, g2, _, by omega, by go_num, rfl, (by rw [ByteArray.size_append]; omega), (by show _ = _; rw [hex.out, HG1.out]), HG2.out, HB4.out⟩
                    case measure => simp [intOf]; omega
                · obtain ⟨g2, hg1, hg2⟩ := semiF_go s g k hkf.out ⟨hkl, hyk⟩
                  have HG1 : Hid _ := hg1
                  have HG2 : Hid _ := hg2
                  obtain ⟨y, ey⟩ : ∃ y, y = byteAt s k := ⟨_, rfl⟩
                  rw [← ey] at hy hry hyk
                  have e59 : (y != 59) = true := by simpa using hyk
                  clear ey hyk hg1 hg2
                  go_wp2
                  go_round
                  case rel => exact ⟨k + 1, g2, by omega, by omega, by go_num, by show _ = _; rw [hse.out, HG1.out], HG2.out⟩
                  case measure => simp [intOf]; omega
              · have HSE : Hid (semi s p = s.size) := by show _ = _; rw [hse.out, semiF_stop s g k (fun h => hkl h.1)]; omega
                have HF : Hid _ := exp_none (by rw [hex.out]; exact expF_none s L f p out hf.out hlt H38.out HSE.out)
                have hks' : ((k : Int) == (s.size : Int)) = true := by simp; omega
                go_wp2
                go_ret2
                exact ⟨ret_sb HF.out, hbw.out⟩
          · obtain ⟨g, hg1, hg2⟩ := expF_own s L f p out hf.out hlt h38
            have HG1 : Hid _ := hg1
            have HG2 : Hid _ := hg2
            have hcut := escs.cut1 s p hlt
            have hcz : (s.extract p (p + 1)).size ≤ 1 := by rw [ByteArray.size_extract]; omega
            obtain ⟨x, ex⟩ : ∃ x, x = byteAt s p := ⟨_, rfl⟩
            rw [← ex] at hx hr h38
            have e38 : (x != 38) = true := by simpa using h38
            clear ex h38 hg1 hg2
            go_wp2
            go_roundw
            case rel => exact ⟨p + 1, g, _, by omega, by go_num, rfl, (by rw [ByteArray.size_append]; omega), (by show _ = _; rw [hex.out, HG1.out]), HG2.out, hbw.out⟩
            case measure => simp [intOf]; omega
        · have HX : Hid (expE s L = some out) := by show _ = _; rw [hex.out]; exact expF_end s L f p out hlt
          have hT := fun w => scans.spec_text out w (by unfold maxLen; omega)
          cases ht : (decide (out.size ≤ 600) && scans.signs out)
          · have HF : Hid _ := exp_long HX.out ht
            rw [ht] at hT
            have HT : Hid (∀ w, _) := hT
            clear hT ht
            go_wp2_with (go_at_call 25; refine (HT.out _).mono ?_; rintro e w1 ⟨rfl, hw1⟩; have hw2 := hw1.symm; clear hw1; subst hw2)
            go_ret2
            exact ⟨ret_sb HF.out, hbw.out⟩
          · have HF : Hid _ := exp_yes HGY.out HEY.out HX.out ht
            rw [ht] at hT
            have HT : Hid (∀ w, _) := hT
            clear hT ht
            go_wp2_with (go_at_call 25; refine (HT.out _).mono ?_; rintro e w1 ⟨rfl, hw1⟩; have hw2 := hw1.symm; clear hw1; subst hw2)
            go_ret2
            exact ⟨ret_sb HF.out, hbw.out⟩
end Go.Proofs.YtekbpekfomblbaaGreatDoor.refs
