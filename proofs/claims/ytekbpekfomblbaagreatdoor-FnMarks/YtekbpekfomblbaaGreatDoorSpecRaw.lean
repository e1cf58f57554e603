/-
  What the specification's l6Raw answers.
-/
import Derived.Test.YtekbpekfomblbaaGreatDoorSpecTold
import Derived.Test.YtekbpekfomblbaaGreatDoorUnBlank
import Derived.Test.YtekbpekfomblbaaGreatDoorSpecNode1
namespace Go.Proofs.YtekbpekfomblbaaGreatDoor.cuts
open Go.ChangeShapes Go.WideShapes Go.ChangeAt Go.RowKit
open names (splitT nameE)
open marks (blanksE)
open pairs (Pair at0 PairsAt)
set_option linter.unusedVariables false
/-- What stands behind the quote at k, up to the next one. -/
def valE (s : ByteArray) (k : Nat) (L : List Pair) : Option (ByteArray × Nat) :=
  match toI s (s.extract k (k + 1)) (k + 1) with
  | none => none
  | some j => if trees.hasB (s.extract (k + 1) j) ⟨#[60]⟩ = false ∧ (refs.expandR (unbl.plain (s.extract (k + 1) j)) L).2 = true then some ((refs.expandR (unbl.plain (s.extract (k + 1) j)) L).1, j + 1) else none
/-- One of what an element has: its name, its text, and the place behind. -/
def rawE (s : ByteArray) (a : Nat) (L : List Pair) : Option (ByteArray × ByteArray × Nat) :=
  if (splitT (s.extract a (nameE s a))).2.2 = true then
    if isAt s ⟨#[61]⟩ (blanksE s (nameE s a)) = true then
      if isAt s ⟨#[34]⟩ (blanksE s (blanksE s (nameE s a) + 1)) = true ∨ isAt s ⟨#[39]⟩ (blanksE s (blanksE s (nameE s a) + 1)) = true then
        match valE s (blanksE s (blanksE s (nameE s a) + 1)) L with
        | none => none
        | some (x, j) => some (s.extract a (nameE s a), x, j)
      else none
    else none
  else none
def rawOk : Option (ByteArray × ByteArray × Nat) → Ending → Prop
  | none, e => e = .returned (.tuple #[.agg #[.string ⟨#[]⟩, .string ⟨#[]⟩], .int .i64 (-1)])
  | some (n, x, j), e => e = .returned (.tuple #[.agg #[.string n, .string x], .int .i64 (j : Int)])
theorem raw_bad {r : Option (ByteArray × ByteArray × Nat)} {e : Ending} (h : r = none) (hb : e = .returned (.tuple #[.agg #[.string ⟨#[]⟩, .string ⟨#[]⟩], .int .i64 (-1)])) : rawOk r e := by subst h; exact hb
theorem raw_good {r : Option (ByteArray × ByteArray × Nat)} {n x : ByteArray} {j : Nat} {e : Ending} (h : r = some (n, x, j)) (hb : e = .returned (.tuple #[.agg #[.string n, .string x], .int .i64 (j : Int)])) : rawOk r e := by subst h; exact hb
theorem isAt_one {s t : ByteArray} {k : Nat} (h : isAt s t k = true) : k + t.size ≤ s.size := by
  by_cases hk : k + t.size ≤ s.size
  · exact hk
  · rw [isAt_out hk] at h; exact absurd h (by decide)
theorem boxR {w : World} {b : Nat} {t : TypeId} {c0 c1 : Value} (h : w.heap[b]? = some (.cells #[c0, c1] t (0, 0))) : (w.cell? ⟨b, 0, none⟩ = some c0 ∧ w.cell? ⟨b, 1, none⟩ = some c1) ∧ w.frozen? ⟨b, 0, none⟩ = false ∧ w.frozen? ⟨b, 1, none⟩ = false := by
  simp [World.cell?, World.frozen?, h]
theorem belowR {w W : World} {u0 u1 : Value} (h : Below w.heap.size w W) : Below w.heap.size w ((W.setCell ⟨w.heap.size, 0, none⟩ u0).setCell ⟨w.heap.size, 1, none⟩ u1) :=
  (h.setCell (p := ⟨w.heap.size, 0, none⟩) (Nat.le_refl _) _).setCell (p := ⟨w.heap.size, 1, none⟩) (Nat.le_refl _) _
theorem one_size {s : ByteArray} {k : Nat} (h : k + 1 ≤ s.size) : (s.extract k (k + 1)).size = 1 := by rw [ByteArray.size_extract]; omega
theorem expandH (s : ByteArray) (x : ByteArray) (ok : Bool) (L : List Pair) (hs : s.size ≤ maxLen) (hv : ∀ i, i < L.length → (at0 L i).2.size ≤ 1048576) (h : refs.expandR s L = (x, ok)) (a : Option Addr) (cap : Nat) (w : World) (hL : PairsAt w a L) : Calls Tryz.prog 47 #[.string s, .slice a L.length cap] w fun e w' => e = .returned (.tuple #[.string x, .bool ok]) ∧ Below w.heap.size w w' := by
  have := refs.spec_expand s a L cap w hs hL hv
  rw [h] at this
  exact this
set_option maxRecDepth 100000 in
set_option maxHeartbeats 2000000 in
theorem spec_raw (s : ByteArray) (a : Nat) (L : List Pair) (ad : Option Addr) (cap : Nat) (w : World) (hs : s.size ≤ 1048576) (ha : a ≤ s.size) (hL : PairsAt w ad L) (hv : ∀ i, i < L.length → (at0 L i).2.size ≤ 1048576) : Calls Tryz.prog 70 #[.string s, .int .i64 a, .slice ad L.length cap] w fun e w' => rawOk (rawE s a L) e ∧ Below w.heap.size w w' := by
  have HL : Hid (PairsAt w ad L) := hL
  have HV : Hid _ := hv
  have H1 : Hid (∀ W, _) := fun W => spec_name s a W hs ha
  have hkl : nameE s a ≤ s.size := ends_le s _ _ ha
  obtain ⟨R, hR⟩ : ∃ R, rawE s a L = R := ⟨_, rfl⟩
  rw [hR]
  have HE : Hid (rawE s a L = R) := hR
  clear hR hL hv
  unfold rawE at HE
  by_cases hok : (splitT (s.extract a (nameE s a))).2.2 = true
  · rw [nameR_yes hok] at H1
    rw [if_pos hok] at HE
    obtain ⟨n, hn⟩ : ∃ n, s.extract a (nameE s a) = n := ⟨_, rfl⟩
    obtain ⟨k, hk⟩ : ∃ k, nameE s a = k := ⟨_, rfl⟩
    rw [hn] at H1 HE
    rw [hk] at H1 HE hkl
    clear hn hk hok
    have H2 : Hid (∀ W, _) := fun W => marks.spec_blanks_in s k W (by unfold maxLen; omega) hkl
    have hfl : blanksE s k ≤ s.size := marks.blE_le s _ _ hkl
    obtain ⟨f, hf⟩ : ∃ f, blanksE s k = f := ⟨_, rfl⟩
    rw [hf] at H2 HE hfl
    clear hf
    have H3 : Hid (∀ W, _) := fun W => spec_is s ⟨#[61]⟩ f W hs (by decide) hfl
    cases hq : isAt s ⟨#[61]⟩ f
    · rw [hq] at H3 HE
      rw [if_neg (by decide)] at HE
      clear hq
      go_enter Tryz.func70, Tryz.ntmps70
      go_wp2_with fail
      refine Calls.mono (H1.out _) ?_
      rintro e w1 ⟨rfl, hb⟩
      have HB1 : Hid (Below w.heap.size w w1) := box_under hb
      obtain ⟨⟨x0, x1⟩, f0, f1⟩ := boxR (box_kept hb)
      clear hb
      go_wp2_with (first
        | (go_at_call 42; refine Calls.mono (H3.out _) ?_; rintro e w2 ⟨rfl, hw2⟩; have hw3 := hw2.symm; clear hw2; subst hw3)
        | (go_at_call 11; refine Calls.mono (H2.out _) ?_; rintro e w2 ⟨rfl, hw2⟩; have hw3 := hw2.symm; clear hw2; subst hw3))
      refine bodyPost_ret (by simp [results, Tryz.results70, go_sem, x0, x1]; try rfl) rfl ?_
      exact ⟨raw_bad HE.out.symm rfl, belowR HB1.out⟩
    · have hf1 : f + 1 ≤ s.size := isAt_one hq
      rw [hq] at H3 HE
      rw [if_pos rfl] at HE
      clear hq
      have H4 : Hid (∀ W, Calls Tryz.prog 11 #[.string s, .int .i64 ((f : Int) + 1)] W fun e w' => e = .returned (.int .i64 (blanksE s (f + 1))) ∧ w' = W) := fun W => marks.spec_blanks_in s (f + 1) W (by unfold maxLen; omega) hf1
      have hgl : blanksE s (f + 1) ≤ s.size := marks.blE_le s _ _ hf1
      obtain ⟨g, hg⟩ : ∃ g, blanksE s (f + 1) = g := ⟨_, rfl⟩
      rw [hg] at H4 HE hgl
      clear hg
      have H5 : Hid (∀ W, _) := fun W => spec_is s ⟨#[34]⟩ g W hs (by decide) hgl
      have H6 : Hid (∀ W, _) := fun W => spec_is s ⟨#[39]⟩ g W hs (by decide) hgl
      have HG : Hid ((isAt s ⟨#[34]⟩ g = true ∨ isAt s ⟨#[39]⟩ g = true) → g + 1 ≤ s.size) := fun h => h.elim (fun h => isAt_one h) (fun h => isAt_one h)
      obtain ⟨b5, h5⟩ : ∃ b, isAt s ⟨#[34]⟩ g = b := ⟨_, rfl⟩
      obtain ⟨b6, h6⟩ : ∃ b, isAt s ⟨#[39]⟩ g = b := ⟨_, rfl⟩
      rw [h5] at H5 HE HG
      rw [h6] at H6 HE HG
      clear h5 h6
      by_cases hqq : b5 = true ∨ b6 = true
      · have hg1 := HG.out hqq
        rw [if_pos hqq] at HE
        unfold valE at HE
        have hcut := escs.cut1 s g hg1
        have hq1 := one_size hg1
        obtain ⟨q, hq⟩ : ∃ q, s.extract g (g + 1) = q := ⟨_, rfl⟩
        rw [hq] at HE hcut hq1
        clear hq
        have H7 : Hid (∀ W, Calls Tryz.prog 43 #[.string s, .int .i64 ((g : Int) + 1), .string q] W fun e w' => e = .returned (.tuple #[.string (toR s q (g + 1)).1, .int .i64 (toR s q (g + 1)).2]) ∧ w' = W) := fun W => spec_to s q (g + 1) W hs (by omega) hg1
        cases hj : toI s q (g + 1) with
        | none =>
          rw [toR_none hj] at H7
          rw [hj] at HE
          clear hj
          obtain ⟨v, hv⟩ : ∃ v : ByteArray, v = ⟨#[]⟩ := ⟨_, rfl⟩
          have hvz : v.size ≤ 1048576 := by rw [hv]; decide
          rw [← hv] at H7
          clear hv
          obtain ⟨x, ok, hx⟩ : ∃ x ok, refs.expandR (unbl.plain v) L = (x, ok) := ⟨_, _, rfl⟩
          have HXP : Hid _ := hx
          clear hx
          cases b5 <;> cases b6
          · exact absurd hqq (by simp)
          · go_enter Tryz.func70, Tryz.ntmps70
            go_wp2_with fail
            refine Calls.mono (H1.out _) ?_
            rintro e w1 ⟨rfl, hb⟩
            have HB1 : Hid (Below w.heap.size w w1) := box_under hb
            have HX1 : Hid _ := box_kept hb
            clear hb
            have HCV : Hid (∃ c, (convert 9 22 (.string v)).run Tryz.prog w1 = .ok (.slice (some ⟨w1.heap.size, 0, none⟩) v.size c) (Lib.bytesWorld w1 5 v)) := ⟨_, Lib.run_convert_string_bytes w1 9 22 5 v Tryz.underlying9 Tryz.underlying22 Tryz.underlying5⟩
            have HR0 : Hid (unbl.RowB w1 (Lib.bytesWorld w1 5 v) v 0) := unbl.RowB.start w1 v
            obtain ⟨W, hW⟩ : ∃ W, Lib.bytesWorld w1 5 v = W := ⟨_, rfl⟩
            rw [hW] at HCV HR0
            obtain ⟨c, hcv⟩ := HCV.out
            clear hW
            go_wp2_with (first
              | (go_at_call 42; (first | (refine Calls.mono (H3.out _) ?_; clear H3) | (refine Calls.mono (H5.out _) ?_; clear H5) | (refine Calls.mono (H6.out _) ?_; clear H6)); rintro e w2 ⟨rfl, hw2⟩; have hw3 := hw2.symm; clear hw2; subst hw3)
              | (go_at_call 11; (first | (refine Calls.mono (H2.out _) ?_; clear H2) | (refine Calls.mono (H4.out _) ?_; clear H4)); rintro e w2 ⟨rfl, hw2⟩; have hw3 := hw2.symm; clear hw2; subst hw3)
              | (go_at_call 43; refine Calls.mono (H7.out _) ?_; rintro e w2 ⟨rfl, hw2⟩; have hw3 := hw2.symm; clear hw2; subst hw3))
            go_loopw [13] (fun t wr => ∃ k : Nat, k ≤ v.size ∧ t = .int .i64 k ∧ Hid (unbl.RowB w1 wr v k)) (fun t _ => v.size - (intOf t).toNat)
            case atStart => exact ⟨0, Nat.zero_le _, rfl, HR0⟩
            case round =>
              obtain ⟨i, hi, rfl, hR⟩ := hrel
              by_cases hlt : i < v.size
              · obtain ⟨hx, hfz⟩ := hR.out.cell hlt
                rw [if_neg (by omega)] at hx
                have hb := (v.get! i).toNat_lt
                obtain ⟨y, ey⟩ : ∃ y, y = ((v.get! i).toNat : Int) := ⟨_, rfl⟩
                have hy0 : 0 ≤ y := by omega
                have hy1 : y < 256 := by omega
                rw [← ey] at hx
                have EY : Hid (y = ((v.get! i).toNat : Int)) := ey
                clear ey hb hcv
                cases hbk : blanks.blkB y
                · have HN : Hid (unbl.RowB w1 wr v (i + 1)) := hR.out.skip (by rw [← EY.out]; exact hbk)
                  go_wp2_with (go_at_call 30; refine (blanks.spec_blank _ _).mono ?_; rintro e w' ⟨rfl, rfl⟩)
                  go_roundw
                  case rel => exact ⟨i + 1, by omega, by go_num, HN.out⟩
                  case measure => simp [intOf]; omega
                · have HN : Hid (unbl.RowB w1 (wr.setCell ⟨w1.heap.size, i, none⟩ (.int .u8 32)) v (i + 1)) := hR.out.turn hlt (by rw [← EY.out]; exact hbk)
                  go_wp2_with (go_at_call 30; refine (blanks.spec_blank _ _).mono ?_; rintro e w' ⟨rfl, rfl⟩)
                  go_roundw
                  case rel => exact ⟨i + 1, by omega, by go_num, HN.out⟩
                  case measure => simp [intOf]; omega
              · obtain rfl : i = v.size := by omega
                have hback := hR.out.back c
                have HBr : Hid (Below w.heap.size w wr) := HB1.out.trans (hR.out.bel.mono HB1.out.size)
                have HXr : Hid _ := (hR.out.bel.block _ (lt_heap HX1.out)).trans HX1.out
                clear hcv
                go_wp2_with fail
                refine Calls.mono (expandH (unbl.plain v) x ok L (by rw [unbl.plain_size]; unfold maxLen; omega) HV.out HXP.out ad cap _ (HL.out.below (Nat.le_refl _) HBr.out)) ?_
                rintro e w3 ⟨rfl, hb⟩
                have HB3 : Hid (Below w.heap.size w w3) := HBr.out.trans (hb.mono HBr.out.size)
                obtain ⟨⟨x0, x1⟩, f0, f1⟩ := boxR ((hb.block _ (lt_heap HXr.out)).trans HXr.out)
                clear hb hback
                go_wp2
                refine bodyPost_ret (by simp [results, Tryz.results70, go_sem, x0, x1]; try rfl) rfl ?_
                exact ⟨raw_bad HE.out.symm rfl, belowR HB3.out⟩
          · go_enter Tryz.func70, Tryz.ntmps70
            go_wp2_with fail
            refine Calls.mono (H1.out _) ?_
            rintro e w1 ⟨rfl, hb⟩
            have HB1 : Hid (Below w.heap.size w w1) := box_under hb
            have HX1 : Hid _ := box_kept hb
            clear hb
            have HCV : Hid (∃ c, (convert 9 22 (.string v)).run Tryz.prog w1 = .ok (.slice (some ⟨w1.heap.size, 0, none⟩) v.size c) (Lib.bytesWorld w1 5 v)) := ⟨_, Lib.run_convert_string_bytes w1 9 22 5 v Tryz.underlying9 Tryz.underlying22 Tryz.underlying5⟩
            have HR0 : Hid (unbl.RowB w1 (Lib.bytesWorld w1 5 v) v 0) := unbl.RowB.start w1 v
            obtain ⟨W, hW⟩ : ∃ W, Lib.bytesWorld w1 5 v = W := ⟨_, rfl⟩
            rw [hW] at HCV HR0
            obtain ⟨c, hcv⟩ := HCV.out
            clear hW
            go_wp2_with (first
              | (go_at_call 42; (first | (refine Calls.mono (H3.out _) ?_; clear H3) | (refine Calls.mono (H5.out _) ?_; clear H5) | (refine Calls.mono (H6.out _) ?_; clear H6)); rintro e w2 ⟨rfl, hw2⟩; have hw3 := hw2.symm; clear hw2; subst hw3)
              | (go_at_call 11; (first | (refine Calls.mono (H2.out _) ?_; clear H2) | (refine Calls.mono (H4.out _) ?_; clear H4)); rintro e w2 ⟨rfl, hw2⟩; have hw3 := hw2.symm; clear hw2; subst hw3)
              | (go_at_call 43; refine Calls.mono (H7.out _) ?_; rintro e w2 ⟨rfl, hw2⟩; have hw3 := hw2.symm; clear hw2; subst hw3))
            go_loopw [13] (fun t wr => ∃ k : Nat, k ≤ v.size ∧ t = .int .i64 k ∧ Hid (unbl.RowB w1 wr v k)) (fun t _ => v.size - (intOf t).toNat)
            case atStart => exact ⟨0, Nat.zero_le _, rfl, HR0⟩
            case round =>
              obtain ⟨i, hi, rfl, hR⟩ := hrel
              by_cases hlt : i < v.size
              · obtain ⟨hx, hfz⟩ := hR.out.cell hlt
                rw [if_neg (by omega)] at hx
                have hb := (v.get! i).toNat_lt
                obtain ⟨y, ey⟩ : ∃ y, y = ((v.get! i).toNat : Int) := ⟨_, rfl⟩
                have hy0 : 0 ≤ y := by omega
                have hy1 : y < 256 := by omega
                rw [← ey] at hx
                have EY : Hid (y = ((v.get! i).toNat : Int)) := ey
                clear ey hb hcv
                cases hbk : blanks.blkB y
                · have HN : Hid (unbl.RowB w1 wr v (i + 1)) := hR.out.skip (by rw [← EY.out]; exact hbk)
                  go_wp2_with (go_at_call 30; refine (blanks.spec_blank _ _).mono ?_; rintro e w' ⟨rfl, rfl⟩)
                  go_roundw
                  case rel => exact ⟨i + 1, by omega, by go_num, HN.out⟩
                  case measure => simp [intOf]; omega
                · have HN : Hid (unbl.RowB w1 (wr.setCell ⟨w1.heap.size, i, none⟩ (.int .u8 32)) v (i + 1)) := hR.out.turn hlt (by rw [← EY.out]; exact hbk)
                  go_wp2_with (go_at_call 30; refine (blanks.spec_blank _ _).mono ?_; rintro e w' ⟨rfl, rfl⟩)
                  go_roundw
                  case rel => exact ⟨i + 1, by omega, by go_num, HN.out⟩
                  case measure => simp [intOf]; omega
              · obtain rfl : i = v.size := by omega
                have hback := hR.out.back c
                have HBr : Hid (Below w.heap.size w wr) := HB1.out.trans (hR.out.bel.mono HB1.out.size)
                have HXr : Hid _ := (hR.out.bel.block _ (lt_heap HX1.out)).trans HX1.out
                clear hcv
                go_wp2_with fail
                refine Calls.mono (expandH (unbl.plain v) x ok L (by rw [unbl.plain_size]; unfold maxLen; omega) HV.out HXP.out ad cap _ (HL.out.below (Nat.le_refl _) HBr.out)) ?_
                rintro e w3 ⟨rfl, hb⟩
                have HB3 : Hid (Below w.heap.size w w3) := HBr.out.trans (hb.mono HBr.out.size)
                obtain ⟨⟨x0, x1⟩, f0, f1⟩ := boxR ((hb.block _ (lt_heap HXr.out)).trans HXr.out)
                clear hb hback
                go_wp2
                refine bodyPost_ret (by simp [results, Tryz.results70, go_sem, x0, x1]; try rfl) rfl ?_
                exact ⟨raw_bad HE.out.symm rfl, belowR HB3.out⟩
          · go_enter Tryz.func70, Tryz.ntmps70
            go_wp2_with fail
            refine Calls.mono (H1.out _) ?_
            rintro e w1 ⟨rfl, hb⟩
            have HB1 : Hid (Below w.heap.size w w1) := box_under hb
            have HX1 : Hid _ := box_kept hb
            clear hb
            have HCV : Hid (∃ c, (convert 9 22 (.string v)).run Tryz.prog w1 = .ok (.slice (some ⟨w1.heap.size, 0, none⟩) v.size c) (Lib.bytesWorld w1 5 v)) := ⟨_, Lib.run_convert_string_bytes w1 9 22 5 v Tryz.underlying9 Tryz.underlying22 Tryz.underlying5⟩
            have HR0 : Hid (unbl.RowB w1 (Lib.bytesWorld w1 5 v) v 0) := unbl.RowB.start w1 v
            obtain ⟨W, hW⟩ : ∃ W, Lib.bytesWorld w1 5 v = W := ⟨_, rfl⟩
            rw [hW] at HCV HR0
            obtain ⟨c, hcv⟩ := HCV.out
            clear hW
            go_wp2_with (first
              | (go_at_call 42; (first | (refine Calls.mono (H3.out _) ?_; clear H3) | (refine Calls.mono (H5.out _) ?_; clear H5) | (refine Calls.mono (H6.out _) ?_; clear H6)); rintro e w2 ⟨rfl, hw2⟩; have hw3 := hw2.symm; clear hw2; subst hw3)
              | (go_at_call 11; (first | (refine Calls.mono (H2.out _) ?_; clear H2) | (refine Calls.mono (H4.out _) ?_; clear H4)); rintro e w2 ⟨rfl, hw2⟩; have hw3 := hw2.symm; clear hw2; subst hw3)
              | (go_at_call 43; refine Calls.mono (H7.out _) ?_; rintro e w2 ⟨rfl, hw2⟩; have hw3 := hw2.symm; clear hw2; subst hw3))
            go_loopw [13] (fun t wr => ∃ k : Nat, k ≤ v.size ∧ t = .int .i64 k ∧ Hid (unbl.RowB w1 wr v k)) (fun t _ => v.size - (intOf t).toNat)
            case atStart => exact ⟨0, Nat.zero_le _, rfl, HR0⟩
            case round =>
              obtain ⟨i, hi, rfl, hR⟩ := hrel
              by_cases hlt : i < v.size
              · obtain ⟨hx, hfz⟩ := hR.out.cell hlt
                rw [if_neg (by omega)] at hx
                have hb := (v.get! i).toNat_lt
                obtain ⟨y, ey⟩ : ∃ y, y = ((v.get! i).toNat : Int) := ⟨_, rfl⟩
                have hy0 : 0 ≤ y := by omega
                have hy1 : y < 256 := by omega
                rw [← ey] at hx
                have EY : Hid (y = ((v.get! i).toNat : Int)) := ey
                clear ey hb hcv
                cases hbk : blanks.blkB y
                · have HN : Hid (unbl.RowB w1 wr v (i + 1)) := hR.out.skip (by rw [← EY.out]; exact hbk)
                  go_wp2_with (go_at_call 30; refine (blanks.spec_blank _ _).mono ?_; rintro e w' ⟨rfl, rfl⟩)
                  go_roundw
                  case rel => exact ⟨i + 1, by omega, by go_num, HN.out⟩
                  case measure => simp [intOf]; omega
                · have HN : Hid (unbl.RowB w1 (wr.setCell ⟨w1.heap.size, i, none⟩ (.int .u8 32)) v (i + 1)) := hR.out.turn hlt (by rw [← EY.out]; exact hbk)
                  go_wp2_with (go_at_call 30; refine (blanks.spec_blank _ _).mono ?_; rintro e w' ⟨rfl, rfl⟩)
                  go_roundw
                  case rel => exact ⟨i + 1, by omega, by go_num, HN.out⟩
                  case measure => simp [intOf]; omega
              · obtain rfl : i = v.size := by omega
                have hback := hR.out.back c
                have HBr : Hid (Below w.heap.size w wr) := HB1.out.trans (hR.out.bel.mono HB1.out.size)
                have HXr : Hid _ := (hR.out.bel.block _ (lt_heap HX1.out)).trans HX1.out
                clear hcv
                go_wp2_with fail
                refine Calls.mono (expandH (unbl.plain v) x ok L (by rw [unbl.plain_size]; unfold maxLen; omega) HV.out HXP.out ad cap _ (HL.out.below (Nat.le_refl _) HBr.out)) ?_
                rintro e w3 ⟨rfl, hb⟩
                have HB3 : Hid (Below w.heap.size w w3) := HBr.out.trans (hb.mono HBr.out.size)
                obtain ⟨⟨x0, x1⟩, f0, f1⟩ := boxR ((hb.block _ (lt_heap HXr.out)).trans HXr.out)
                clear hb hback
                go_wp2
                refine bodyPost_ret (by simp [results, Tryz.results70, go_sem, x0, x1]; try rfl) rfl ?_
                exact ⟨raw_bad HE.out.symm rfl, belowR HB3.out⟩
        | some j =>
          rw [toR_some hj, hq1] at H7
          rw [hj] at HE
          clear hj
          obtain ⟨v, hv⟩ : ∃ v : ByteArray, s.extract (g + 1) j = v := ⟨_, rfl⟩
          have hvz : v.size ≤ 1048576 := by rw [← hv, ByteArray.size_extract]; omega
          rw [hv] at H7
          simp only [hv] at HE
          clear hv
          obtain ⟨x, ok, hx⟩ : ∃ x ok, refs.expandR (unbl.plain v) L = (x, ok) := ⟨_, _, rfl⟩
          have HXP : Hid _ := hx
          simp only [hx] at HE
          clear hx
          cases b5 <;> cases b6
          · exact absurd hqq (by simp)
          · go_enter Tryz.func70, Tryz.ntmps70
            go_wp2_with fail
            refine Calls.mono (H1.out _) ?_
            rintro e w1 ⟨rfl, hb⟩
            have HB1 : Hid (Below w.heap.size w w1) := box_under hb
            have HX1 : Hid _ := box_kept hb
            clear hb
            have HCV : Hid (∃ c, (convert 9 22 (.string v)).run Tryz.prog w1 = .ok (.slice (some ⟨w1.heap.size, 0, none⟩) v.size c) (Lib.bytesWorld w1 5 v)) := ⟨_, Lib.run_convert_string_bytes w1 9 22 5 v Tryz.underlying9 Tryz.underlying22 Tryz.underlying5⟩
            have HR0 : Hid (unbl.RowB w1 (Lib.bytesWorld w1 5 v) v 0) := unbl.RowB.start w1 v
            obtain ⟨W, hW⟩ : ∃ W, Lib.bytesWorld w1 5 v = W := ⟨_, rfl⟩
            rw [hW] at HCV HR0
            obtain ⟨c, hcv⟩ := HCV.out
            clear hW
            go_wp2_with (first
              | (go_at_call 42; (first | (refine Calls.mono (H3.out _) ?_; clear H3) | (refine Calls.mono (H5.out _) ?_; clear H5) | (refine Calls.mono (H6.out _) ?_; clear H6)); rintro e w2 ⟨rfl, hw2⟩; have hw3 := hw2.symm; clear hw2; subst hw3)
              | (go_at_call 11; (first | (refine Calls.mono (H2.out _) ?_; clear H2) | (refine Calls.mono (H4.out _) ?_; clear H4)); rintro e w2 ⟨rfl, hw2⟩; have hw3 := hw2.symm; clear hw2; subst hw3)
              | (go_at_call 43; refine Calls.mono (H7.out _) ?_; rintro e w2 ⟨rfl, hw2⟩; have hw3 := hw2.symm; clear hw2; subst hw3))
            go_loopw [13] (fun t wr => ∃ k : Nat, k ≤ v.size ∧ t = .int .i64 k ∧ Hid (unbl.RowB w1 wr v k)) (fun t _ => v.size - (intOf t).toNat)
            case atStart => exact ⟨0, Nat.zero_le _, rfl, HR0⟩
            case round =>
              obtain ⟨i, hi, rfl, hR⟩ := hrel
              by_cases hlt : i < v.size
              · obtain ⟨hx, hfz⟩ := hR.out.cell hlt
                rw [if_neg (by omega)] at hx
                have hb := (v.get! i).toNat_lt
                obtain ⟨y, ey⟩ : ∃ y, y = ((v.get! i).toNat : Int) := ⟨_, rfl⟩
                have hy0 : 0 ≤ y := by omega
                have hy1 : y < 256 := by omega
                rw [← ey] at hx
                have EY : Hid (y = ((v.get! i).toNat : Int)) := ey
                clear ey hb hcv
                cases hbk : blanks.blkB y
                · have HN : Hid (unbl.RowB w1 wr v (i + 1)) := hR.out.skip (by rw [← EY.out]; exact hbk)
                  go_wp2_with (go_at_call 30; refine (blanks.spec_blank _ _).mono ?_; rintro e w' ⟨rfl, rfl⟩)
                  go_roundw
                  case rel => exact ⟨i + 1, by omega, by go_num, HN.out⟩
                  case measure => simp [intOf]; omega
                · have HN : Hid (unbl.RowB w1 (wr.setCell ⟨w1.heap.size, i, none⟩ (.int .u8 32)) v (i + 1)) := hR.out.turn hlt (by rw [← EY.out]; exact hbk)
                  go_wp2_with (go_at_call 30; refine (blanks.spec_blank _ _).mono ?_; rintro e w' ⟨rfl, rfl⟩)
                  go_roundw
                  case rel => exact ⟨i + 1, by omega, by go_num, HN.out⟩
                  case measure => simp [intOf]; omega
              · obtain rfl : i = v.size := by omega
                have hback := hR.out.back c
                have HBr : Hid (Below w.heap.size w wr) := HB1.out.trans (hR.out.bel.mono HB1.out.size)
                have HXr : Hid _ := (hR.out.bel.block _ (lt_heap HX1.out)).trans HX1.out
                clear hcv
                go_wp2_with fail
                refine Calls.mono (expandH (unbl.plain v) x ok L (by rw [unbl.plain_size]; unfold maxLen; omega) HV.out HXP.out ad cap _ (HL.out.below (Nat.le_refl _) HBr.out)) ?_
                rintro e w3 ⟨rfl, hb⟩
                have HB3 : Hid (Below w.heap.size w w3) := HBr.out.trans (hb.mono HBr.out.size)
                obtain ⟨⟨x0, x1⟩, f0, f1⟩ := boxR ((hb.block _ (lt_heap HXr.out)).trans HXr.out)
                clear hb hback
                have HH : Hid (∀ W, _) := fun W => trees.spec_l5has v ⟨#[60]⟩ W hvz (by decide)
                cases hh : trees.hasB v ⟨#[60]⟩
                · rw [hh] at HH HE
                  clear hh
                  cases ok
                  · rw [if_neg (fun h => absurd h.2 (by decide))] at HE
                    go_wp2_with (first
                      | (go_at_call 48; refine Calls.mono (HH.out _) ?_; rintro e w2 ⟨rfl, hw2⟩; have hw3 := hw2.symm; clear hw2; subst hw3)
                      | fail)
                    refine bodyPost_ret (by simp [results, Tryz.results70, go_sem, x0, x1]; try rfl) rfl ?_
                    exact ⟨raw_bad HE.out.symm rfl, belowR HB3.out⟩
                  · rw [if_pos ⟨rfl, rfl⟩] at HE
                    go_wp2_with (first
                      | (go_at_call 48; refine Calls.mono (HH.out _) ?_; rintro e w2 ⟨rfl, hw2⟩; have hw3 := hw2.symm; clear hw2; subst hw3)
                      | fail)
                    refine bodyPost_ret (by simp [results, Tryz.results70, go_sem, x0, x1]; try rfl) rfl ?_
                    exact ⟨raw_good HE.out.symm rfl, belowR HB3.out⟩
                · rw [hh] at HH HE
                  clear hh
                  rw [if_neg (fun h => absurd h.1 (by decide))] at HE
                  go_wp2_with (first
                    | (go_at_call 48; refine Calls.mono (HH.out _) ?_; rintro e w2 ⟨rfl, hw2⟩; have hw3 := hw2.symm; clear hw2; subst hw3)
                    | fail)
                  refine bodyPost_ret (by simp [results, Tryz.results70, go_sem, x0, x1]; try rfl) rfl ?_
                  exact ⟨raw_bad HE.out.symm rfl, belowR HB3.out⟩
          · go_enter Tryz.func70, Tryz.ntmps70
            go_wp2_with fail
            refine Calls.mono (H1.out _) ?_
            rintro e w1 ⟨rfl, hb⟩
            have HB1 : Hid (Below w.heap.size w w1) := box_under hb
            have HX1 : Hid _ := box_kept hb
            clear hb
            have HCV : Hid (∃ c, (convert 9 22 (.string v)).run Tryz.prog w1 = .ok (.slice (some ⟨w1.heap.size, 0, none⟩) v.size c) (Lib.bytesWorld w1 5 v)) := ⟨_, Lib.run_convert_string_bytes w1 9 22 5 v Tryz.underlying9 Tryz.underlying22 Tryz.underlying5⟩
            have HR0 : Hid (unbl.RowB w1 (Lib.bytesWorld w1 5 v) v 0) := unbl.RowB.start w1 v
            obtain ⟨W, hW⟩ : ∃ W, Lib.bytesWorld w1 5 v = W := ⟨_, rfl⟩
            rw [hW] at HCV HR0
            obtain ⟨c, hcv⟩ := HCV.out
            clear hW
            go_wp2_with (first
              | (go_at_call 42; (first | (refine Calls.mono (H3.out _) ?_; clear H3) | (refine Calls.mono (H5.out _) ?_; clear H5) | (refine Calls.mono (H6.out _) ?_; clear H6)); rintro e w2 ⟨rfl, hw2⟩; have hw3 := hw2.symm; clear hw2; subst hw3)
              | (go_at_call 11; (first | (refine Calls.mono (H2.out _) ?_; clear H2) | (refine Calls.mono (H4.out _) ?_; clear H4)); rintro e w2 ⟨rfl, hw2⟩; have hw3 := hw2.symm; clear hw2; subst hw3)
              | (go_at_call 43; refine Calls.mono (H7.out _) ?_; rintro e w2 ⟨rfl, hw2⟩; have hw3 := hw2.symm; clear hw2; subst hw3))
            go_loopw [13] (fun t wr => ∃ k : Nat, k ≤ v.size ∧ t = .int .i64 k ∧ Hid (unbl.RowB w1 wr v k)) (fun t _ => v.size - (intOf t).toNat)
            case atStart => exact ⟨0, Nat.zero_le _, rfl, HR0⟩
            case round =>
              obtain ⟨i, hi, rfl, hR⟩ := hrel
              by_cases hlt : i < v.size
              · obtain ⟨hx, hfz⟩ := hR.out.cell hlt
                rw [if_neg (by omega)] at hx
                have hb := (v.get! i).toNat_lt
                obtain ⟨y, ey⟩ : ∃ y, y = ((v.get! i).toNat : Int) := ⟨_, rfl⟩
                have hy0 : 0 ≤ y := by omega
                have hy1 : y < 256 := by omega
                rw [← ey] at hx
                have EY : Hid (y = ((v.get! i).toNat : Int)) := ey
                clear ey hb hcv
                cases hbk : blanks.blkB y
                · have HN : Hid (unbl.RowB w1 wr v (i + 1)) := hR.out.skip (by rw [← EY.out]; exact hbk)
                  go_wp2_with (go_at_call 30; refine (blanks.spec_blank _ _).mono ?_; rintro e w' ⟨rfl, rfl⟩)
                  go_roundw
                  case rel => exact ⟨i + 1, by omega, by go_num, HN.out⟩
                  case measure => simp [intOf]; omega
                · have HN : Hid (unbl.RowB w1 (wr.setCell ⟨w1.heap.size, i, none⟩ (.int .u8 32)) v (i + 1)) := hR.out.turn hlt (by rw [← EY.out]; exact hbk)
                  go_wp2_with (go_at_call 30; refine (blanks.spec_blank _ _).mono ?_; rintro e w' ⟨rfl, rfl⟩)
                  go_roundw
                  case rel => exact ⟨i + 1, by omega, by go_num, HN.out⟩
                  case measure => simp [intOf]; omega
              · obtain rfl : i = v.size := by omega
                have hback := hR.out.back c
                have HBr : Hid (Below w.heap.size w wr) := HB1.out.trans (hR.out.bel.mono HB1.out.size)
                have HXr : Hid _ := (hR.out.bel.block _ (lt_heap HX1.out)).trans HX1.out
                clear hcv
                go_wp2_with fail
                refine Calls.mono (expandH (unbl.plain v) x ok L (by rw [unbl.plain_size]; unfold maxLen; omega) HV.out HXP.out ad cap _ (HL.out.below (Nat.le_refl _) HBr.out)) ?_
                rintro e w3 ⟨rfl, hb⟩
                have HB3 : Hid (Below w.heap.size w w3) := HBr.out.trans (hb.mono HBr.out.size)
                obtain ⟨⟨x0, x1⟩, f0, f1⟩ := boxR ((hb.block _ (lt_heap HXr.out)).trans HXr.out)
                clear hb hback
                have HH : Hid (∀ W, _) := fun W => trees.spec_l5has v ⟨#[60]⟩ W hvz (by decide)
                cases hh : trees.hasB v ⟨#[60]⟩
                · rw [hh] at HH HE
                  clear hh
                  cases ok
                  · rw [if_neg (fun h => absurd h.2 (by decide))] at HE
                    go_wp2_with (first
                      | (go_at_call 48; refine Calls.mono (HH.out _) ?_; rintro e w2 ⟨rfl, hw2⟩; have hw3 := hw2.symm; clear hw2; subst hw3)
                      | fail)
                    refine bodyPost_ret (by simp [results, Tryz.results70, go_sem, x0, x1]; try rfl) rfl ?_
                    exact ⟨raw_bad HE.out.symm rfl, belowR HB3.out⟩
                  · rw [if_pos ⟨rfl, rfl⟩] at HE
                    go_wp2_with (first
                      | (go_at_call 48; refine Calls.mono (HH.out _) ?_; rintro e w2 ⟨rfl, hw2⟩; have hw3 := hw2.symm; clear hw2; subst hw3)
                      | fail)
                    refine bodyPost_ret (by simp [results, Tryz.results70, go_sem, x0, x1]; try rfl) rfl ?_
                    exact ⟨raw_good HE.out.symm rfl, belowR HB3.out⟩
                · rw [hh] at HH HE
                  clear hh
                  rw [if_neg (fun h => absurd h.1 (by decide))] at HE
                  go_wp2_with (first
                    | (go_at_call 48; refine Calls.mono (HH.out _) ?_; rintro e w2 ⟨rfl, hw2⟩; have hw3 := hw2.symm; clear hw2; subst hw3)
                    | fail)
                  refine bodyPost_ret (by simp [results, Tryz.results70, go_sem, x0, x1]; try rfl) rfl ?_
                  exact ⟨raw_bad HE.out.symm rfl, belowR HB3.out⟩
          · go_enter Tryz.func70, Tryz.ntmps70
            go_wp2_with fail
            refine Calls.mono (H1.out _) ?_
            rintro e w1 ⟨rfl, hb⟩
            have HB1 : Hid (Below w.heap.size w w1) := box_under hb
            have HX1 : Hid _ := box_kept hb
            clear hb
            have HCV : Hid (∃ c, (convert 9 22 (.string v)).run Tryz.prog w1 = .ok (.slice (some ⟨w1.heap.size, 0, none⟩) v.size c) (Lib.bytesWorld w1 5 v)) := ⟨_, Lib.run_convert_string_bytes w1 9 22 5 v Tryz.underlying9 Tryz.underlying22 Tryz.underlying5⟩
            have HR0 : Hid (unbl.RowB w1 (Lib.bytesWorld w1 5 v) v 0) := unbl.RowB.start w1 v
            obtain ⟨W, hW⟩ : ∃ W, Lib.bytesWorld w1 5 v = W := ⟨_, rfl⟩
            rw [hW] at HCV HR0
            obtain ⟨c, hcv⟩ := HCV.out
            clear hW
            go_wp2_with (first
              | (go_at_call 42; (first | (refine Calls.mono (H3.out _) ?_; clear H3) | (refine Calls.mono (H5.out _) ?_; clear H5) | (refine Calls.mono (H6.out _) ?_; clear H6)); rintro e w2 ⟨rfl, hw2⟩; have hw3 := hw2.symm; clear hw2; subst hw3)
              | (go_at_call 11; (first | (refine Calls.mono (H2.out _) ?_; clear H2) | (refine Calls.mono (H4.out _) ?_; clear H4)); rintro e w2 ⟨rfl, hw2⟩; have hw3 := hw2.symm; clear hw2; subst hw3)
              | (go_at_call 43; refine Calls.mono (H7.out _) ?_; rintro e w2 ⟨rfl, hw2⟩; have hw3 := hw2.symm; clear hw2; subst hw3))
            go_loopw [13] (fun t wr => ∃ k : Nat, k ≤ v.size ∧ t = .int .i64 k ∧ Hid (unbl.RowB w1 wr v k)) (fun t _ => v.size - (intOf t).toNat)
            case atStart => exact ⟨0, Nat.zero_le _, rfl, HR0⟩
            case round =>
              obtain ⟨i, hi, rfl, hR⟩ := hrel
              by_cases hlt : i < v.size
              · obtain ⟨hx, hfz⟩ := hR.out.cell hlt
                rw [if_neg (by omega)] at hx
                have hb := (v.get! i).toNat_lt
                obtain ⟨y, ey⟩ : ∃ y, y = ((v.get! i).toNat : Int) := ⟨_, rfl⟩
                have hy0 : 0 ≤ y := by omega
                have hy1 : y < 256 := by omega
                rw [← ey] at hx
                have EY : Hid (y = ((v.get! i).toNat : Int)) := ey
                clear ey hb hcv
                cases hbk : blanks.blkB y
                · have HN : Hid (unbl.RowB w1 wr v (i + 1)) := hR.out.skip (by rw [← EY.out]; exact hbk)
                  go_wp2_with (go_at_call 30; refine (blanks.spec_blank _ _).mono ?_; rintro e w' ⟨rfl, rfl⟩)
                  go_roundw
                  case rel => exact ⟨i + 1, by omega, by go_num, HN.out⟩
                  case measure => simp [intOf]; omega
                · have HN : Hid (unbl.RowB w1 (wr.setCell ⟨w1.heap.size, i, none⟩ (.int .u8 32)) v (i + 1)) := hR.out.turn hlt (by rw [← EY.out]; exact hbk)
                  go_wp2_with (go_at_call 30; refine (blanks.spec_blank _ _).mono ?_; rintro e w' ⟨rfl, rfl⟩)
                  go_roundw
                  case rel => exact ⟨i + 1, by omega, by go_num, HN.out⟩
                  case measure => simp [intOf]; omega
              · obtain rfl : i = v.size := by omega
                have hback := hR.out.back c
                have HBr : Hid (Below w.heap.size w wr) := HB1.out.trans (hR.out.bel.mono HB1.out.size)
                have HXr : Hid _ := (hR.out.bel.block _ (lt_heap HX1.out)).trans HX1.out
                clear hcv
                go_wp2_with fail
                refine Calls.mono (expandH (unbl.plain v) x ok L (by rw [unbl.plain_size]; unfold maxLen; omega) HV.out HXP.out ad cap _ (HL.out.below (Nat.le_refl _) HBr.out)) ?_
                rintro e w3 ⟨rfl, hb⟩
                have HB3 : Hid (Below w.heap.size w w3) := HBr.out.trans (hb.mono HBr.out.size)
                obtain ⟨⟨x0, x1⟩, f0, f1⟩ := boxR ((hb.block _ (lt_heap HXr.out)).trans HXr.out)
                clear hb hback
                have HH : Hid (∀ W, _) := fun W => trees.spec_l5has v ⟨#[60]⟩ W hvz (by decide)
                cases hh : trees.hasB v ⟨#[60]⟩
                · rw [hh] at HH HE
                  clear hh
                  cases ok
                  · rw [if_neg (fun h => absurd h.2 (by decide))] at HE
                    go_wp2_with (first
                      | (go_at_call 48; refine Calls.mono (HH.out _) ?_; rintro e w2 ⟨rfl, hw2⟩; have hw3 := hw2.symm; clear hw2; subst hw3)
                      | fail)
                    refine bodyPost_ret (by simp [results, Tryz.results70, go_sem, x0, x1]; try rfl) rfl ?_
                    exact ⟨raw_bad HE.out.symm rfl, belowR HB3.out⟩
                  · rw [if_pos ⟨rfl, rfl⟩] at HE
                    go_wp2_with (first
                      | (go_at_call 48; refine Calls.mono (HH.out _) ?_; rintro e w2 ⟨rfl, hw2⟩; have hw3 := hw2.symm; clear hw2; subst hw3)
                      | fail)
                    refine bodyPost_ret (by simp [results, Tryz.results70, go_sem, x0, x1]; try rfl) rfl ?_
                    exact ⟨raw_good HE.out.symm rfl, belowR HB3.out⟩
                · rw [hh] at HH HE
                  clear hh
                  rw [if_neg (fun h => absurd h.1 (by decide))] at HE
                  go_wp2_with (first
                    | (go_at_call 48; refine Calls.mono (HH.out _) ?_; rintro e w2 ⟨rfl, hw2⟩; have hw3 := hw2.symm; clear hw2; subst hw3)
                    | fail)
                  refine bodyPost_ret (by simp [results, Tryz.results70, go_sem, x0, x1]; try rfl) rfl ?_
                  exact ⟨raw_bad HE.out.symm rfl, belowR HB3.out⟩
      · rw [if_neg hqq] at HE
        obtain rfl : b5 = false := by cases b5 <;> simp_all
        obtain rfl : b6 = false := by cases b6 <;> simp_all
        go_enter Tryz.func70, Tryz.ntmps70
        go_wp2_with fail
        refine Calls.mono (H1.out _) ?_
        rintro e w1 ⟨rfl, hb⟩
        have HB1 : Hid (Below w.heap.size w w1) := box_under hb
        have HX1 : Hid _ := box_kept hb
        clear hb
        obtain ⟨⟨x0, x1⟩, f0, f1⟩ := boxR HX1.out
        go_wp2_with (first
          | (go_at_call 42; (first | (refine Calls.mono (H3.out _) ?_; clear H3) | (refine Calls.mono (H5.out _) ?_; clear H5) | (refine Calls.mono (H6.out _) ?_; clear H6)); rintro e w2 ⟨rfl, hw2⟩; have hw3 := hw2.symm; clear hw2; subst hw3)
          | (go_at_call 11; (first | (refine Calls.mono (H2.out _) ?_; clear H2) | (refine Calls.mono (H4.out _) ?_; clear H4)); rintro e w2 ⟨rfl, hw2⟩; have hw3 := hw2.symm; clear hw2; subst hw3))
        refine bodyPost_ret (by simp [results, Tryz.results70, go_sem, x0, x1]; try rfl) rfl ?_
        exact ⟨raw_bad HE.out.symm rfl, belowR HB1.out⟩
  · rw [nameR_no hok] at H1
    rw [if_neg hok] at HE
    clear hok
    go_enter Tryz.func70, Tryz.ntmps70
    go_wp2_with fail
    refine Calls.mono (H1.out _) ?_
    rintro e w1 ⟨rfl, hb⟩
    have HB1 : Hid (Below w.heap.size w w1) := box_under hb
    obtain ⟨⟨x0, x1⟩, f0, f1⟩ := boxR (box_kept hb)
    clear hb
    go_wp2
    refine bodyPost_ret (by simp [results, Tryz.results70, go_sem, x0, x1]; try rfl) rfl ?_
    exact ⟨raw_bad HE.out.symm rfl, belowR HB1.out⟩
end Go.Proofs.YtekbpekfomblbaaGreatDoor.cuts
