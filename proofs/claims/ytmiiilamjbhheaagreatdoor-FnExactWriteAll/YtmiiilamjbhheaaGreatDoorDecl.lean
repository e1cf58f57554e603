/-
  What the specification's DeclOk and DeclsOk answer.
-/
import Derived.Test.YtmiiilamjbhheaaGreatDoorDeclP
import Derived.Test.YtmiiilamjbhheaaGreatDoorQuiet
import Derived.Deep.QuietTactic
import Derived.BigQuiet
import Derived.WalkSmall
import Derived.Laws.Cover1
namespace Go.Proofs.YtmiiilamjbhheaaGreatDoor.scopes
open Go.ChangeShapes Go.WideShapes Go.ChangeAt Go.RowKit
open pairs (Pair at0 PairsAt)
set_option linter.unusedVariables false
set_option maxHeartbeats 1000000 in
theorem spec_xml (s : ByteArray) (w : World) (hs : s.size ≤ maxLen) : Calls Tryz.prog 79 #[.string s] w fun e w' => e = .returned (.bool (xmlB s)) ∧ w' = w := by
  unfold maxLen at hs
  by_cases h : 3 ≤ s.size
  · have h' : (3 : Int) ≤ s.size := by omega
    have HF : Hid (xmlB s = ((s.extract 0 3).toList == [120, 109, 108])) := by show _ = _; unfold xmlB; rw [decide_eq_true h, Bool.true_and]
    clear h
    go_enter Tryz.func79, Tryz.ntmps79
    go_wp2
    go_ret
    exact ⟨ret_bool HF.out.symm, rfl⟩
  · have h' : ¬ (3 : Int) ≤ s.size := by omega
    have HF : Hid (xmlB s = false) := by show _ = _; unfold xmlB; rw [decide_eq_false h, Bool.false_and]
    clear h
    go_enter Tryz.func79, Tryz.ntmps79
    go_wp2
    go_ret
    exact ⟨ret_bool HF.out.symm, rfl⟩
theorem pre_empty {n u : ByteArray} (h : n.toList.isEmpty = true) : preB (n, u) = true := by unfold preB; rw [h]; rfl
theorem pre_plain {n u : ByteArray} (h : n.toList.isEmpty = false) (h1 : names.plainB n = false) : preB (n, u) = false := by unfold preB; simp only; rw [h, h1]; rfl
theorem pre_xml {n u : ByteArray} (h : n.toList.isEmpty = false) (h1 : xmlB n = true) : preB (n, u) = false := by unfold preB; simp only; rw [h, h1]; simp
theorem pre_uri {n u : ByteArray} (h : n.toList.isEmpty = false) (h1 : u.toList.isEmpty = true) : preB (n, u) = false := by unfold preB; simp only; rw [h, h1]; simp
theorem pre_yes {n u : ByteArray} (h : n.toList.isEmpty = false) (h1 : names.plainB n = true) (h2 : xmlB n = false) (h3 : u.toList.isEmpty = false) : preB (n, u) = true := by unfold preB; simp only; rw [h, h1, h2, h3]; rfl
theorem decl_pre {n u : ByteArray} (h : preB (n, u) = false) : declB (n, u) = false := by unfold declB; rw [h]; rfl
theorem decl_text {n u : ByteArray} (h : (decide (u.size ≤ 600) && scans.signs u) = false) : declB (n, u) = false := by unfold declB textB; simp only; rw [h]; simp
theorem decl_end {n u : ByteArray} (h : preB (n, u) = true) (h1 : (decide (u.size ≤ 600) && scans.signs u) = true) : declB (n, u) = decide ((u.size : Int) ≤ 40) := by
  unfold declB textB
  simp only
  rw [h, h1, Bool.true_and, Bool.true_and, Bool.eq_iff_iff]
  simp
  omega
theorem box_cells (w w' : World) (n u : ByteArray) (t : TypeId) (hb : Below (w.alloc (.cells #[.string n, .string u] t)).heap.size (w.alloc (.cells #[.string n, .string u] t)) w') : w'.cell? ⟨w.heap.size, 0, none⟩ = some (.string n) ∧ w'.cell? ⟨w.heap.size, 1, none⟩ = some (.string u) :=
  ⟨(hb.cell (p := ⟨w.heap.size, 0, none⟩) (by simp)).trans (pairs.cell_new w _ t 0 _ rfl), (hb.cell (p := ⟨w.heap.size, 1, none⟩) (by simp)).trans (pairs.cell_new w _ t 1 _ rfl)⟩
theorem box_below {w w' : World} {o : Obj} (hb : Below (w.alloc o).heap.size (w.alloc o) w') : Below w.heap.size w w' := ((Below.refl _ _).alloc (Nat.le_refl _) o).trans (hb.mono (by simp))
set_option maxRecDepth 100000 in
set_option maxHeartbeats 4000000 in
theorem spec_decl (n u : ByteArray) (w : World) (hn : n.size ≤ maxLen) (hu : u.size ≤ maxLen) : Calls Tryz.prog 85 #[.agg #[.string n, .string u]] w fun e w' => e = .returned (.bool (declB (n, u))) ∧ Below w.heap.size w w' := by
  have hT := fun w => scans.spec_text u w hu
  have hdt := @decl_text n u
  have hde := @decl_end n u
  have hdp := @decl_pre n u
  have hz := hu
  unfold maxLen at hz
  cases he : n.toList.isEmpty
  · have hP := fun w => names.spec_plain n w hn
    have hp1 := @pre_plain n u he
    have hp2 := @pre_xml n u he
    have hp3 := @pre_uri n u he
    have hp4 := @pre_yes n u he
    cases hp : names.plainB n
    · have HF : Hid (declB (n, u) = false) := hdp (hp1 hp)
      rw [hp] at hP
      have HP : Hid (∀ w, _) := hP
      clear hT hdt hde hdp hP hp1 hp2 hp3 hp4 hp
      go_enter Tryz.func85, Tryz.ntmps85
      go_wp2_with fail
      refine (HP.out _).mono ?_
      rintro e w1 ⟨rfl, hb1⟩
      have HB1 : Hid _ := box_below hb1
      clear hb1
      go_wp2
      go_ret
      exact ⟨ret_bool HF.out.symm, HB1.out⟩
    · rw [hp] at hP
      have HP : Hid (∀ w, _) := hP
      have hX := fun w => spec_xml n w hn
      cases hx : xmlB n
      · rw [hx] at hX
        have HX : Hid (∀ w, _) := hX
        cases hue : u.toList.isEmpty
        · have hpy := hp4 hp hx hue
          cases ht : (decide (u.size ≤ 600) && scans.signs u)
          · have HF : Hid (declB (n, u) = false) := hdt ht
            rw [ht] at hT
            have HT : Hid (∀ w, _) := hT
            clear hT hdt hde hdp hP hp1 hp2 hp3 hp4 hp hX hx ht hpy
            go_enter Tryz.func85, Tryz.ntmps85
            go_wp2_with fail
            refine (HP.out _).mono ?_
            rintro e w1 ⟨rfl, hb1⟩
            have HB1 : Hid _ := box_below hb1
            obtain ⟨hd1, hd2⟩ := box_cells _ _ _ _ _ hb1
            clear hb1
            go_wp2_with (first
              | (go_at_call 79; refine (HX.out _).mono ?_; rintro e w2 ⟨rfl, hw1⟩; have hw2 := hw1.symm; clear hw1; subst hw2)
              | (go_at_call 66; refine (HT.out _).mono ?_; rintro e w2 ⟨rfl, hw1⟩; have hw2 := hw1.symm; clear hw1; subst hw2))
            go_ret
            exact ⟨ret_bool HF.out.symm, HB1.out⟩
          · have HF : Hid (declB (n, u) = decide ((u.size : Int) ≤ 40)) := hde hpy ht
            rw [ht] at hT
            have HT : Hid (∀ w, _) := hT
            clear hT hdt hde hdp hP hp1 hp2 hp3 hp4 hp hX hx ht hpy
            go_enter Tryz.func85, Tryz.ntmps85
            go_wp2_with fail
            refine (HP.out _).mono ?_
            rintro e w1 ⟨rfl, hb1⟩
            have HB1 : Hid _ := box_below hb1
            obtain ⟨hd1, hd2⟩ := box_cells _ _ _ _ _ hb1
            clear hb1
            go_wp2_with (first
              | (go_at_call 79; refine (HX.out _).mono ?_; rintro e w2 ⟨rfl, hw1⟩; have hw2 := hw1.symm; clear hw1; subst hw2)
              | (go_at_call 66; refine (HT.out _).mono ?_; rintro e w2 ⟨rfl, hw1⟩; have hw2 := hw1.symm; clear hw1; subst hw2))
            go_ret
            exact ⟨ret_bool HF.out.symm, HB1.out⟩
        · have HF : Hid (declB (n, u) = false) := hdp (hp3 hue)
          clear hT hdt hde hdp hP hp1 hp2 hp3 hp4 hp hX hx
          go_enter Tryz.func85, Tryz.ntmps85
          go_wp2_with fail
          refine (HP.out _).mono ?_
          rintro e w1 ⟨rfl, hb1⟩
          have HB1 : Hid _ := box_below hb1
          obtain ⟨hd1, hd2⟩ := box_cells _ _ _ _ _ hb1
          clear hb1
          go_wp2_with (go_at_call 79; refine (HX.out _).mono ?_; rintro e w2 ⟨rfl, hw1⟩; have hw2 := hw1.symm; clear hw1; subst hw2)
          go_ret
          exact ⟨ret_bool HF.out.symm, HB1.out⟩
      · have HF : Hid (declB (n, u) = false) := hdp (hp2 hx)
        rw [hx] at hX
        have HX : Hid (∀ w, _) := hX
        clear hT hdt hde hdp hP hp1 hp2 hp3 hp4 hp hX hx
        go_enter Tryz.func85, Tryz.ntmps85
        go_wp2_with fail
        refine (HP.out _).mono ?_
        rintro e w1 ⟨rfl, hb1⟩
        have HB1 : Hid _ := box_below hb1
        obtain ⟨hd1, hd2⟩ := box_cells _ _ _ _ _ hb1
        clear hb1
        go_wp2_with (go_at_call 79; refine (HX.out _).mono ?_; rintro e w2 ⟨rfl, hw1⟩; have hw2 := hw1.symm; clear hw1; subst hw2)
        go_ret
        exact ⟨ret_bool HF.out.symm, HB1.out⟩
  · have hpy := pre_empty (u := u) he
    cases ht : (decide (u.size ≤ 600) && scans.signs u)
    · have HF : Hid (declB (n, u) = false) := hdt ht
      rw [ht] at hT
      have HT : Hid (∀ w, _) := hT
      clear hT hdt hde hdp ht hpy
      go_enter Tryz.func85, Tryz.ntmps85
      go_wp2_with (go_at_call 66; refine (HT.out _).mono ?_; rintro e w2 ⟨rfl, hw1⟩; have hw2 := hw1.symm; clear hw1; subst hw2)
      go_ret
      exact ⟨ret_bool HF.out.symm, (Below.refl _ _).alloc (Nat.le_refl _) _⟩
    · have HF : Hid (declB (n, u) = decide ((u.size : Int) ≤ 40)) := hde hpy ht
      rw [ht] at hT
      have HT : Hid (∀ w, _) := hT
      clear hT hdt hde hdp ht hpy
      go_enter Tryz.func85, Tryz.ntmps85
      go_wp2_with (go_at_call 66; refine (HT.out _).mono ?_; rintro e w2 ⟨rfl, hw1⟩; have hw2 := hw1.symm; clear hw1; subst hw2)
      go_ret
      exact ⟨ret_bool HF.out.symm, (Below.refl _ _).alloc (Nat.le_refl _) _⟩
theorem both_decl {L : List Pair} {i : Nat} (h : declB (at0 L i) = false) : (declB (at0 L i) && ascB L i) = false := by rw [h]; rfl
theorem both_asc {L : List Pair} {i : Nat} (h : ascB L i = false) : (declB (at0 L i) && ascB L i) = false := by rw [h]; simp
theorem both_yes {L : List Pair} {i : Nat} (h : declB (at0 L i) = true) (h1 : ascB L i = true) : (declB (at0 L i) && ascB L i) = true := by rw [h, h1]; rfl
set_option maxRecDepth 100000 in
set_option maxHeartbeats 8000000 in
theorem spec_decls (a : Option Addr) (L : List Pair) (cap : Nat) (w : World) (hL : Hid (PairsAt w a L)) : Calls Tryz.prog 67 #[.slice a L.length cap] w fun e w' => e = .returned (.bool (declsB L)) ∧ Below w.heap.size w w' := by
  have hlen := hL.out.short
  unfold maxLen at hlen
  go_enter Tryz.func67, Tryz.ntmps67
  go_wp2
  go_loopw [3] (fun t wr => ∃ i : Nat, i ≤ L.length ∧ t = .int .i64 i ∧ Hid (∀ j, j < i → (declB (at0 L j) && ascB L j) = true) ∧ Hid (Below w.heap.size w wr)) (fun t _ => L.length - (intOf t).toNat)
  case atStart => exact ⟨0, Nat.zero_le _, rfl, fun j hj => by omega, Below.refl _ _⟩
  case round =>
    obtain ⟨i, hi, rfl, hup, hbw⟩ := hrel
    by_cases hlt : i < L.length
    · obtain ⟨b, off, ha, hblt, hc⟩ := (hL.out.below (Nat.le_refl _) hbw.out).row (by omega)
      have hts := hL.out.texts i hlt
      have hD := fun w => spec_decl (at0 L i).1 (at0 L i).2 w hts.1 hts.2
      have hcells : ∀ W, Below wr.heap.size wr W → ∀ j, j < L.length → W.cell? ⟨b, off + j * 2, none⟩ = some (.string (at0 L j).1) ∧ W.cell? ⟨b, off + j * 2 + 1, none⟩ = some (.string (at0 L j).2) := fun W h j hj =>
        ⟨(h.cell (p := ⟨b, off + j * 2, none⟩) hblt).trans (hc j hj).1, (h.cell (p := ⟨b, off + j * 2 + 1, none⟩) hblt).trans (hc j hj).2⟩
      have hl1 := fun W h => (hcells W h i hlt).1
      have hl2 := fun W h => (hcells W h i hlt).2
      subst ha
      by_cases hz : 0 < i
      · obtain ⟨j, rfl⟩ : ∃ j, i = j + 1 := ⟨i - 1, by omega⟩
        have hl3 := fun W h => (hcells W h j (by omega)).1
        have hasc := @asc_more L (j + 1) (by omega)
        rw [show j + 1 - 1 = j by omega] at hasc
        have hsub : IntKind.i64.wrap (((j + 1 : Nat) : Int) - 1) = (j : Int) := by rw [IntKind.wrap_i64]; omega
        have hjlt : (j : Int) < L.length := by omega
        have hj0 : (0 : Int) < ((j + 1 : Nat) : Int) := by omega
        cases hdb : declB (at0 L (j + 1))
        · have HF : Hid (declsB L = false) := decls_no hlt (both_decl hdb)
          have hD' : ∀ w, Calls Tryz.prog 85 #[.agg #[.string (at0 L (j + 1)).1, .string (at0 L (j + 1)).2]] w fun e w' => e = .returned (.bool false) ∧ Below w.heap.size w w' := fun w => by rw [← hdb]; exact hD w
          clear hD
          have hD := hD'
          clear hD' hdb hasc
          generalize (at0 L (j + 1)).1 = n at hD hl1
          generalize (at0 L (j + 1)).2 = u at hD hl2
          generalize (at0 L j).1 = m at hl3
          clear hc hcells hts
          go_wp2_with fail
          refine quiets.wp_region_below (by kernel_rfl) (by kernel_rfl) ?_
          repeat (go_big_quiet_step ((first | (intro hq; rfl) | (intro hq; simp [go_sem, hl1 _ hq, hl2 _ hq]; rfl) | (intro hq; simp [go_sem, hl3 _ hq]; rfl) | (intro hq; exact quiets.below_call (hD _) hq))))
          refine wpQuiet_nil ?_
          intro w6 hb6
          have HB6 : Hid _ := hbw.out.trans (hb6.mono hbw.out.size)
          clear hb6 hl1 hl2 hl3
          go_wp2
          go_ret
          exact ⟨ret_bool HF.out.symm, HB6.out⟩
        · have hD' : ∀ w, Calls Tryz.prog 85 #[.agg #[.string (at0 L (j + 1)).1, .string (at0 L (j + 1)).2]] w fun e w' => e = .returned (.bool true) ∧ Below w.heap.size w w' := fun w => by rw [← hdb]; exact hD w
          clear hD
          have hD := hD'
          clear hD'
          cases hq1 : Op.bytesLess (at0 L j).1.toList (at0 L (j + 1)).1.toList
          · have HF : Hid (declsB L = false) := decls_no hlt (both_asc (hasc.trans hq1))
            clear hdb hasc
            generalize (at0 L (j + 1)).1 = n at hD hl1 hq1
            generalize (at0 L (j + 1)).2 = u at hD hl2
            generalize (at0 L j).1 = m at hl3 hq1
            clear hc hcells hts
            go_wp2_with fail
            refine quiets.wp_region_below (by kernel_rfl) (by kernel_rfl) ?_
            repeat (go_big_quiet_step ((first | (intro hq; rfl) | (intro hq; simp [go_sem, hl1 _ hq, hl2 _ hq]; rfl) | (intro hq; simp [go_sem, hl3 _ hq]; rfl) | (intro hq; simp [go_sem, binOp_string_geq, hq1]; try rfl) | (intro hq; exact quiets.below_call (hD _) hq))))
            refine wpQuiet_nil ?_
            intro w6 hb6
            have HB6 : Hid _ := hbw.out.trans (hb6.mono hbw.out.size)
            clear hb6 hl1 hl2 hl3
            go_wp2
            go_ret
            exact ⟨ret_bool HF.out.symm, HB6.out⟩
          · have HU : Hid _ := upto_next hup.out (both_yes hdb (hasc.trans hq1))
            clear hdb hasc
            generalize (at0 L (j + 1)).1 = n at hD hl1 hq1
            generalize (at0 L (j + 1)).2 = u at hD hl2
            generalize (at0 L j).1 = m at hl3 hq1
            clear hc hcells hts
            go_wp2_with fail
            refine quiets.wp_region_below (by kernel_rfl) (by kernel_rfl) ?_
            repeat (go_big_quiet_step ((first | (intro hq; rfl) | (intro hq; simp [go_sem, hl1 _ hq, hl2 _ hq]; rfl) | (intro hq; simp [go_sem, hl3 _ hq]; rfl) | (intro hq; simp [go_sem, binOp_string_geq, hq1]; try rfl) | (intro hq; exact quiets.below_call (hD _) hq))))
            refine wpQuiet_nil ?_
            intro w6 hb6
            have HB6 : Hid _ := hbw.out.trans (hb6.mono hbw.out.size)
            clear hb6 hl1 hl2 hl3
            go_wp2
            go_roundw
            case rel => exact ⟨j + 1 + 1, by omega, by go_num, HU.out, HB6.out⟩
            case measure => simp [intOf]; omega
      · obtain rfl : i = 0 := by omega
        have hz0 : ((0 : Nat) : Int) = 0 := rfl
        simp only [Nat.zero_mul, Nat.add_zero] at hl1 hl2
        cases hdb : declB (at0 L 0)
        · have HF : Hid (declsB L = false) := decls_no hlt (both_decl hdb)
          have hD' : ∀ w, Calls Tryz.prog 85 #[.agg #[.string (at0 L 0).1, .string (at0 L 0).2]] w fun e w' => e = .returned (.bool false) ∧ Below w.heap.size w w' := fun w => by rw [← hdb]; exact hD w
          clear hD
          have hD := hD'
          clear hD' hdb
          generalize (at0 L 0).1 = n at hD hl1
          generalize (at0 L 0).2 = u at hD hl2
          clear hc hcells hts
          go_wp2_with fail
          refine quiets.wp_region_below (by kernel_rfl) (by kernel_rfl) ?_
          repeat (go_big_quiet_step ((first | (intro hq; rfl) | (intro hq; simp [go_sem, hl1 _ hq, hl2 _ hq]; rfl) | (intro hq; exact quiets.below_call (hD _) hq))))
          refine wpQuiet_nil ?_
          intro w6 hb6
          have HB6 : Hid _ := hbw.out.trans (hb6.mono hbw.out.size)
          clear hb6 hl1 hl2
          go_wp2
          go_ret
          exact ⟨ret_bool HF.out.symm, HB6.out⟩
        · have HU : Hid _ := upto_next hup.out (both_yes hdb asc_zero)
          have hD' : ∀ w, Calls Tryz.prog 85 #[.agg #[.string (at0 L 0).1, .string (at0 L 0).2]] w fun e w' => e = .returned (.bool true) ∧ Below w.heap.size w w' := fun w => by rw [← hdb]; exact hD w
          clear hD
          have hD := hD'
          clear hD' hdb
          generalize (at0 L 0).1 = n at hD hl1
          generalize (at0 L 0).2 = u at hD hl2
          clear hc hcells hts
          go_wp2_with fail
          refine quiets.wp_region_below (by kernel_rfl) (by kernel_rfl) ?_
          repeat (go_big_quiet_step ((first | (intro hq; rfl) | (intro hq; simp [go_sem, hl1 _ hq, hl2 _ hq]; rfl) | (intro hq; exact quiets.below_call (hD _) hq))))
          refine wpQuiet_nil ?_
          intro w6 hb6
          have HB6 : Hid _ := hbw.out.trans (hb6.mono hbw.out.size)
          clear hb6 hl1 hl2
          go_wp2
          go_roundw
          case rel => exact ⟨0 + 1, by omega, by go_num, HU.out, HB6.out⟩
          case measure => simp [intOf]; omega
    · have HF : Hid (declsB L = decide ((L.length : Int) ≤ 4)) := decls_end fun j hj => hup.out j (by omega)
      go_wp2
      go_ret
      exact ⟨ret_bool HF.out.symm, hbw.out⟩
end Go.Proofs.YtmiiilamjbhheaaGreatDoor.scopes
