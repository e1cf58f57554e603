/-
  What the specification's EntsOk answers.
-/
import Derived.Test.YtekbpekfomblbaaGreatDoorRef2
namespace Go.Proofs.YtekbpekfomblbaaGreatDoor.refs
open Go.ChangeShapes Go.WideShapes Go.ChangeAt Go.RowKit
open escs (byteAt)
open pairs (Pair at0 PairsAt)
set_option linter.unusedVariables false
theorem good_plain {L : List Pair} {i : Nat} (h : names.plainB (at0 L i).1 = false) : (good L i && uniq L i) = false := by unfold good; rw [h]; rfl
theorem good_known {L : List Pair} {i : Nat} (h : (known (at0 L i).1).toList.isEmpty = false) : (good L i && uniq L i) = false := by unfold good; rw [h]; simp
theorem good_text {L : List Pair} {i : Nat} (h : (decide ((at0 L i).2.size ≤ 600) && scans.signs (at0 L i).2) = false) : (good L i && uniq L i) = false := by unfold good; rw [h]; simp
theorem good_yes {L : List Pair} {i : Nat} (h : names.plainB (at0 L i).1 = true) (h1 : (known (at0 L i).1).toList.isEmpty = true) (h2 : (decide ((at0 L i).2.size ≤ 600) && scans.signs (at0 L i).2) = true) : good L i = true := by unfold good; rw [h, h1, h2]; rfl
theorem good_both {L : List Pair} {i : Nat} (h : good L i = true) (h1 : uniq L i = true) : (good L i && uniq L i) = true := by rw [h, h1]; rfl
theorem good_twice {L : List Pair} {i : Nat} (h1 : uniq L i = false) : (good L i && uniq L i) = false := by rw [h1]; simp
theorem upto_next {L : List Pair} {i : Nat} (h : ∀ j, j < i → (good L j && uniq L j) = true) (h1 : (good L i && uniq L i) = true) : ∀ j, j < i + 1 → (good L j && uniq L j) = true := fun j hj => by
  by_cases e : j = i
  · rw [e]; exact h1
  · exact h j (by omega)
theorem names_next {L : List Pair} {i k : Nat} (h : ∀ j, j < k → ((at0 L j).1.toList == (at0 L i).1.toList) = false) (h1 : ((at0 L k).1.toList == (at0 L i).1.toList) = false) : ∀ j, j < k + 1 → ((at0 L j).1.toList == (at0 L i).1.toList) = false := fun j hj => by
  by_cases e : j = k
  · rw [e]; exact h1
  · exact h j (by omega)
set_option maxRecDepth 100000 in
set_option maxHeartbeats 8000000 in
theorem spec_ents (a : Option Addr) (L : List Pair) (cap : Nat) (w : World) (hL : Hid (PairsAt w a L)) : Calls Tryz.prog 23 #[.slice a L.length cap] w fun e w' => e = .returned (.bool (entsB L)) ∧ Below w.heap.size w w' := by
  have hlen := hL.out.short
  unfold maxLen at hlen
  go_enter Tryz.func23, Tryz.ntmps23
  go_wp2
  go_loopw [3] (fun t wr => ∃ i : Nat, i ≤ L.length ∧ t = .int .i64 i ∧ Hid (∀ j, j < i → (good L j && uniq L j) = true) ∧ Hid (Below w.heap.size w wr)) (fun t _ => L.length - (intOf t).toNat)
  case atStart => exact ⟨0, Nat.zero_le _, rfl, fun j hj => by omega, Below.refl _ _⟩
  case round =>
    obtain ⟨i, hi, rfl, hup, hbw⟩ := hrel
    by_cases hlt : i < L.length
    · obtain ⟨b, off, ha, hblt, hc⟩ := (hL.out.below (Nat.le_refl _) hbw.out).row (by omega)
      have hts := hL.out.texts i hlt
      have hP := fun w => names.spec_plain (at0 L i).1 w hts.1
      have hK := fun w => spec_known (at0 L i).1 w
      have hX := fun w => scans.spec_text (at0 L i).2 w hts.2
      have hcells : ∀ W, Below wr.heap.size wr W → ∀ j, j < L.length → W.cell? ⟨b, off + j * 2, none⟩ = some (.string (at0 L j).1) ∧ W.cell? ⟨b, off + j * 2 + 1, none⟩ = some (.string (at0 L j).2) := fun W h j hj =>
        ⟨(h.cell (p := ⟨b, off + j * 2, none⟩) hblt).trans (hc j hj).1, (h.cell (p := ⟨b, off + j * 2 + 1, none⟩) hblt).trans (hc j hj).2⟩
      have HCE : Hid _ := hcells
      have hno := @ents_no L i hlt
      have hg1 := @good_plain L i
      have hg2 := @good_known L i
      have hg3 := @good_text L i
      have hg4 := @good_yes L i
      obtain ⟨hc1, hc2⟩ := hc i hlt
      subst ha
      obtain ⟨n, en⟩ : ∃ n, n = (at0 L i).1 := ⟨_, rfl⟩
      obtain ⟨v, ev⟩ : ∃ v, v = (at0 L i).2 := ⟨_, rfl⟩
      rw [← en] at hc1 hP hK hg1 hg2 hg4
      rw [← ev] at hc2 hX hg3 hg4
      have EN : Hid _ := en
      have EV : Hid _ := ev
      clear en ev hc hcells hts
      cases hp : names.plainB n
      · have HF : Hid (entsB L = false) := hno (hg1 hp)
        rw [hp] at hP
        have HP : Hid (∀ w, _) := hP
        clear hP hK hX hg1 hg2 hg3 hg4 hno hp
        go_wp2_with fail
        refine (HP.out _).mono ?_
        rintro e w2 ⟨rfl, hb2⟩
        have HB2 : Hid _ := hbw.out.trans (hb2.mono hbw.out.size)
        clear hb2
        go_wp2
        go_ret
        exact ⟨ret_bool HF.out.symm, HB2.out⟩
      · rw [hp] at hP
        have HP : Hid (∀ w, _) := hP
        cases hk : (known n).toList.isEmpty
        · have HF : Hid (entsB L = false) := hno (hg2 hk)
          obtain ⟨kn, ek⟩ : ∃ kn, kn = known n := ⟨_, rfl⟩
          rw [← ek] at hK hk
          have HK : Hid (∀ w, _) := hK
          clear hP hK hX hg1 hg2 hg3 hg4 hno hp ek
          go_wp2_with fail
          refine (HP.out _).mono ?_
          rintro e w2 ⟨rfl, hb2⟩
          have HB2 : Hid _ := hbw.out.trans (hb2.mono hbw.out.size)
          have hd1 := ((HCE.out w2 hb2) i hlt).1
          rw [← EN.out] at hd1
          clear hb2
          go_wp2_with fail
          refine (HK.out _).mono ?_
          rintro e w3 ⟨rfl, hw1⟩
          have hw2 := hw1.symm
          clear hw1
          subst hw2
          go_wp2
          go_ret
          exact ⟨ret_bool HF.out.symm, HB2.out⟩
        · have hk' := hk
          obtain ⟨kn, ek⟩ : ∃ kn, kn = known n := ⟨_, rfl⟩
          rw [← ek] at hK hk'
          have HK : Hid (∀ w, _) := hK
          cases hx : (decide (v.size ≤ 600) && scans.signs v)
          · have HF : Hid (entsB L = false) := hno (hg3 hx)
            rw [hx] at hX
            have HX : Hid (∀ w, _) := hX
            clear hP hK hX hg1 hg2 hg3 hg4 hno hp ek hx hk
            go_wp2_with fail
            refine (HP.out _).mono ?_
            rintro e w2 ⟨rfl, hb2⟩
            have HB2 : Hid _ := hbw.out.trans (hb2.mono hbw.out.size)
            have HBL : Hid _ := hb2
            have hd1 := ((HCE.out w2 hb2) i hlt).1
            have hd2 := ((HCE.out w2 hb2) i hlt).2
            rw [← EN.out] at hd1
            rw [← EV.out] at hd2
            clear hb2
            go_wp2_with fail
            refine (HK.out _).mono ?_
            rintro e w3 ⟨rfl, hw1⟩
            have hw2 := hw1.symm
            clear hw1
            subst hw2
            go_wp2_with fail
            refine (HX.out _).mono ?_
            rintro e w3 ⟨rfl, hw1⟩
            have hw2 := hw1.symm
            clear hw1
            subst hw2
            go_wp2
            go_ret
            exact ⟨ret_bool HF.out.symm, HB2.out⟩
          · have HG : Hid (good L i = true) := hg4 hp hk hx
            rw [hx] at hX
            have HX : Hid (∀ w, _) := hX
            have HNO : Hid _ := hno
            clear hP hK hX hg1 hg2 hg3 hg4 hno hp ek hx hk
            go_wp2_with fail
            refine (HP.out _).mono ?_
            rintro e w2 ⟨rfl, hb2⟩
            have HB2 : Hid _ := hbw.out.trans (hb2.mono hbw.out.size)
            have HBL : Hid _ := hb2
            have hd1 := ((HCE.out w2 hb2) i hlt).1
            have hd2 := ((HCE.out w2 hb2) i hlt).2
            rw [← EN.out] at hd1
            rw [← EV.out] at hd2
            clear hb2
            go_wp2_with fail
            refine (HK.out _).mono ?_
            rintro e w3 ⟨rfl, hw1⟩
            have hw2 := hw1.symm
            clear hw1
            subst hw2
            go_wp2_with fail
            refine (HX.out _).mono ?_
            rintro e w3 ⟨rfl, hw1⟩
            have hw2 := hw1.symm
            clear hw1
            subst hw2
            go_wp2
            go_loopw [4] (fun t wq => ∃ k : Nat, k ≤ i ∧ t = .int .i64 k ∧ Hid (∀ j, j < k → ((at0 L j).1.toList == (at0 L i).1.toList) = false) ∧ Hid (Below wr.heap.size wr wq)) (fun t _ => i - (intOf t).toNat)
            case atStart => exact ⟨0, Nat.zero_le _, rfl, fun j hj => by omega, HBL⟩
            case round =>
              obtain ⟨k, hki, rfl, hns, hbq⟩ := hrel
              by_cases hki2 : k < i
              · have hq1 := ((HCE.out _ hbq.out) k (by omega)).1
                have hq2 := ((HCE.out _ hbq.out) i hlt).1
                have hklt : k < L.length := by omega
                have hnx := @names_next L i k hns.out
                have hun := @uniq_no L i k hki2
                rw [← EN.out] at hq2 hnx hun
                generalize (at0 L k).1 = m at hq1 hnx hun
                clear hd1 hd2 hc1 hc2
                cases hq : (m.toList == n.toList)
                · have HNX : Hid _ := hnx hq
                  clear hnx hun
                  go_wp2
                  go_quiet (fail)
                  go_wp2
                  go_roundw
                  case rel => exact ⟨k + 1, by omega, by go_num, (by show ∀ j, _; rw [← EN.out]; exact HNX.out), below_drewN hbq.out _⟩
                  case measure => simp [intOf]; omega
                · have HF : Hid (entsB L = false) := HNO.out (good_twice (hun hq))
                  clear hnx hun
                  go_wp2
                  go_quiet (fail)
                  go_wp2
                  go_ret
                  exact ⟨ret_bool HF.out.symm, below_drewN (hbw.out.trans (hbq.out.mono hbw.out.size)) _⟩
              · have HU : Hid (∀ j, j < i + 1 → (good L j && uniq L j) = true) := upto_next hup.out (good_both HG.out (uniq_yes fun j hj => hns.out j (by omega)))
                clear hd1 hd2 hc1 hc2
                go_wp2
                go_roundw
                case rel => exact ⟨i + 1, by omega, by go_num, HU.out, hbw.out.trans (hbq.out.mono hbw.out.size)⟩
                case measure => simp [intOf]; omega
    · have HF : Hid (entsB L = decide ((L.length : Int) ≤ 4)) := ents_end fun j hj => hup.out j (by omega)
      go_wp2
      go_ret
      exact ⟨ret_bool HF.out.symm, hbw.out⟩
end Go.Proofs.YtekbpekfomblbaaGreatDoor.refs
