/-
  What the program's DeclOk and DeclsOk answer, over its own tables.
-/
import Derived.Test.YtmiiilamjbhheaaGreatDoorDecl
import Derived.Test.YtmiiilamjbhheaaGreatDoorImplNames
import Derived.Test.YtmiiilamjbhheaaGreatDoorScan
import Derived.OwnWalk
namespace Go.Proofs.YtmiiilamjbhheaaGreatDoor.scopes
open Go.ChangeShapes Go.WideShapes Go.ChangeAt Go.RowKit
open pairs (Pair at0 PairsAt)
set_option linter.unusedVariables false
/-- What the tables are. -/
structure Tabs (w : World) : Prop where
  utf : scans.Tabs w
  sign : ∃ b off cap, spans.SpansAt w 7 spans.signL b off cap
  name : names.Tabs w
theorem Tabs.below {w w' : World} (h : Tabs w) (hb : Below w.heap.size w w') : Tabs w' := by
  obtain ⟨h1, ⟨b, o, c, h2⟩, h3⟩ := h
  exact ⟨scans.tabs_below h1 hb, ⟨b, o, c, h2.below (Nat.le_refl _) hb⟩, h3.below hb⟩
theorem impl_textD (s : ByteArray) (w : World) (hs : s.size ≤ maxLen) (hT : Tabs w) : Calls Tryz.prog 88 #[.string s] w fun e w' => e = .returned (.bool (textB s)) ∧ Below w.heap.size w w' := by
  obtain ⟨b, o, c, h2⟩ := hT.sign
  exact scans.impl_text s b o c w hs hT.utf h2
def preOkB (n : ByteArray) : Bool := n.toList.isEmpty || (names.plainB n && !xmlB n)
def uriOkB (u : ByteArray) : Bool := decide ((u.size : Int) ≤ 40) && textB u
theorem decl_impl (n u : ByteArray) : declB (n, u) = (!(u.toList.isEmpty && !n.toList.isEmpty) && (preOkB n && uriOkB u)) := by
  unfold declB preB preOkB uriOkB
  have e : decide ((u.size : Int) ≤ 40) = decide (u.size ≤ 40) := by rw [Bool.eq_iff_iff]; simp; omega
  rw [e]
  simp only
  generalize n.toList.isEmpty = a
  generalize u.toList.isEmpty = b
  generalize names.plainB n = c
  generalize xmlB n = d
  generalize textB u = f
  generalize decide (u.size ≤ 40) = g
  revert a b c d f g
  decide
set_option maxRecDepth 100000 in
set_option maxHeartbeats 1000000 in
theorem lite_xml (s : ByteArray) (w : World) (hs : s.size ≤ maxLen) : Calls Tryz.prog 134 #[.string s, .string ⟨#[120, 109, 108]⟩] w fun e w' => e = .returned (.bool (xmlB s)) ∧ w' = w := by
  have hz := hs
  unfold maxLen at hz
  have hp3 : (⟨#[120, 109, 108]⟩ : ByteArray).size = 3 := rfl
  by_cases h : 3 ≤ s.size
  · have h' : (3 : Int) ≤ s.size := by omega
    have HF : Hid (xmlB s = ((s.extract 0 3).toList == [120, 109, 108])) := by show _ = _; unfold xmlB; rw [decide_eq_true h, Bool.true_and]
    clear h
    go_enter Tryz.func134, Tryz.ntmps134
    go_wp2
    go_ret
    exact ⟨ret_bool (by rw [HF.out]), rfl⟩
  · have h' : ¬ (3 : Int) ≤ s.size := by omega
    have HF : Hid (xmlB s = false) := by show _ = _; unfold xmlB; rw [decide_eq_false h, Bool.false_and]
    clear h
    go_enter Tryz.func134, Tryz.ntmps134
    go_wp2
    go_ret
    exact ⟨ret_bool HF.out.symm, rfl⟩
theorem impl_xml (s : ByteArray) (w : World) (hs : s.size ≤ maxLen) : Calls Tryz.prog 127 #[.string s, .string ⟨#[120, 109, 108]⟩] w fun e w' => e = .returned (.bool (xmlB s)) ∧ w' = w := by
  have HX : Hid _ := lite_xml s w hs
  clear hs
  go_enter Tryz.func127, Tryz.ntmps127
  go_wp2_with fail
  refine Calls.mono HX.out ?_
  rintro e w1 ⟨rfl, rfl⟩
  go_wp2
  go_ret
  exact ⟨rfl, rfl⟩
set_option maxRecDepth 100000 in
set_option maxHeartbeats 1000000 in
theorem impl_uriOk (u : ByteArray) (w : World) (hu : u.size ≤ maxLen) (hT : Tabs w) : Calls Tryz.prog 115 #[.string u] w fun e w' => e = .returned (.bool (uriOkB u)) ∧ Below w.heap.size w w' := by
  have hz := hu
  unfold maxLen at hz
  have HX : Hid _ := impl_textD u w hu hT
  by_cases h : (u.size : Int) ≤ 40
  · have HF : Hid (uriOkB u = textB u) := by show _ = _; unfold uriOkB; rw [decide_eq_true h, Bool.true_and]
    clear hT
    go_enter Tryz.func115, Tryz.ntmps115
    go_wp2_with fail
    refine Calls.mono HX.out ?_
    rintro e w1 ⟨rfl, hb1⟩
    have HB1 : Hid _ := hb1
    clear hb1 HX
    go_wp2
    go_ret
    exact ⟨ret_bool HF.out.symm, HB1.out⟩
  · have HF : Hid (uriOkB u = false) := by show _ = _; unfold uriOkB; rw [decide_eq_false h, Bool.false_and]
    clear hT HX
    go_enter Tryz.func115, Tryz.ntmps115
    go_wp2
    go_ret
    exact ⟨ret_bool HF.out.symm, Below.refl _ _⟩
set_option maxRecDepth 100000 in
set_option maxHeartbeats 1000000 in
theorem impl_preOk (n : ByteArray) (w : World) (hn : n.size ≤ maxLen) (hT : Tabs w) : Calls Tryz.prog 114 #[.string n] w fun e w' => e = .returned (.bool (preOkB n)) ∧ Below w.heap.size w w' := by
  cases he : n.toList.isEmpty
  · have HP : Hid _ := names.impl_plain n w hn hT.name
    have HX : Hid (∀ w, _) := fun w => impl_xml n w hn
    have HF : Hid (preOkB n = (names.plainB n && !xmlB n)) := by show _ = _; unfold preOkB; rw [he, Bool.false_or]
    clear hT hn
    go_enter Tryz.func114, Tryz.ntmps114
    go_wp2_with fail
    refine Calls.mono HP.out ?_
    rintro e w1 ⟨rfl, hb1⟩
    have HB1 : Hid _ := hb1
    clear hb1 HP
    cases hp : names.plainB n
    · rw [hp] at HF
      go_wp2
      go_ret
      exact ⟨ret_bool HF.out.symm, HB1.out⟩
    · rw [hp] at HF
      go_wp2_with (go_at_call 127; refine (HX.out _).mono ?_; rintro e w2 ⟨rfl, hw1⟩; have hw2 := hw1.symm; clear hw1; subst hw2)
      go_ret
      exact ⟨ret_bool HF.out.symm, HB1.out⟩
  · have HF : Hid (preOkB n = true) := by show _ = _; unfold preOkB; rw [he, Bool.true_or]
    clear hT hn
    go_enter Tryz.func114, Tryz.ntmps114
    go_wp2
    go_ret
    exact ⟨ret_bool HF.out.symm, Below.refl _ _⟩
theorem impl_uriOkH (u : ByteArray) (b : Bool) (hu : u.size ≤ maxLen) (h : uriOkB u = b) (w : World) (hT : Tabs w) : Calls Tryz.prog 115 #[.string u] w fun e w' => e = .returned (.bool b) ∧ Below w.heap.size w w' := by rw [← h]; exact impl_uriOk u w hu hT
theorem impl_preOkH (n : ByteArray) (b : Bool) (hn : n.size ≤ maxLen) (h : preOkB n = b) (w : World) (hT : Tabs w) : Calls Tryz.prog 114 #[.string n] w fun e w' => e = .returned (.bool b) ∧ Below w.heap.size w w' := by rw [← h]; exact impl_preOk n w hn hT
set_option maxRecDepth 100000 in
set_option maxHeartbeats 1000000 in
theorem impl_decl (n u : ByteArray) (w : World) (hn : n.size ≤ maxLen) (hu : u.size ≤ maxLen) (hT : Tabs w) : Calls Tryz.prog 98 #[.agg #[.string n, .string u]] w fun e w' => e = .returned (.bool (declB (n, u))) ∧ Below w.heap.size w w' := by
  obtain ⟨b1, h1⟩ : ∃ b, preOkB n = b := ⟨_, rfl⟩
  obtain ⟨b2, h2⟩ : ∃ b, uriOkB u = b := ⟨_, rfl⟩
  have H1 : Hid (∀ w, Tabs w → _) := impl_preOkH n b1 hn h1
  have H2 : Hid (∀ w, Tabs w → _) := impl_uriOkH u b2 hu h2
  have HD : Hid (declB (n, u) = (!(u.toList.isEmpty && !n.toList.isEmpty) && (b1 && b2))) := by show _ = _; rw [decl_impl, h1, h2]
  have HT : Hid _ := hT
  clear h1 h2 hT hn hu
  cases hue : u.toList.isEmpty
  · rw [hue] at HD
    go_enter Tryz.func98, Tryz.ntmps98
    go_wp2_with fail
    refine (H1.out _ (HT.out.below ((Below.refl _ _).alloc (Nat.le_refl _) _))).mono ?_
    rintro e w1 ⟨rfl, hb1⟩
    have HB1 : Hid _ := box_below hb1
    obtain ⟨hd1, hd2⟩ := box_cells _ _ _ _ _ hb1
    clear hb1
    cases b1
    · go_wp2
      go_ret
      exact ⟨ret_bool HD.out.symm, HB1.out⟩
    · go_wp2_with fail
      refine (H2.out _ (HT.out.below HB1.out)).mono ?_
      rintro e w2 ⟨rfl, hb2⟩
      have HB2 : Hid _ := HB1.out.trans (hb2.mono HB1.out.size)
      clear hb2
      go_wp2
      go_ret
      exact ⟨ret_bool HD.out.symm, HB2.out⟩
  · cases hne : n.toList.isEmpty
    · rw [hue, hne] at HD
      go_enter Tryz.func98, Tryz.ntmps98
      go_wp2
      go_ret
      exact ⟨ret_bool HD.out.symm, (Below.refl _ _).alloc (Nat.le_refl _) _⟩
    · rw [hue, hne] at HD
      go_enter Tryz.func98, Tryz.ntmps98
      go_wp2_with fail
      refine (H1.out _ (HT.out.below ((Below.refl _ _).alloc (Nat.le_refl _) _))).mono ?_
      rintro e w1 ⟨rfl, hb1⟩
      have HB1 : Hid _ := box_below hb1
      obtain ⟨hd1, hd2⟩ := box_cells _ _ _ _ _ hb1
      clear hb1
      cases b1
      · go_wp2
        go_ret
        exact ⟨ret_bool HD.out.symm, HB1.out⟩
      · go_wp2_with fail
        refine (H2.out _ (HT.out.below HB1.out)).mono ?_
        rintro e w2 ⟨rfl, hb2⟩
        have HB2 : Hid _ := HB1.out.trans (hb2.mono HB1.out.size)
        clear hb2
        go_wp2
        go_ret
        exact ⟨ret_bool HD.out.symm, HB2.out⟩
theorem impl_declH (p : Pair) (b : Bool) (h1 : p.1.size ≤ maxLen) (h2 : p.2.size ≤ maxLen) (h : declB p = b) (w : World) (hT : Tabs w) : Calls Tryz.prog 98 #[.agg #[.string p.1, .string p.2]] w fun e w' => e = .returned (.bool b) ∧ Below w.heap.size w w' := by rw [← h]; exact impl_decl p.1 p.2 w h1 h2 hT
set_option maxRecDepth 100000 in
set_option maxHeartbeats 4000000 in
theorem impl_decls (a : Option Addr) (L : List Pair) (cap : Nat) (w : World) (hT : Tabs w) (hL : PairsAt w a L) : Calls Tryz.prog 99 #[.slice a L.length cap] w fun e w' => e = .returned (.bool (declsB L)) ∧ Below w.heap.size w w' := by
  have HT : Hid (Tabs w) := hT
  have HL : Hid (PairsAt w a L) := hL
  have hlen := hL.short
  unfold maxLen at hlen
  clear hT hL
  by_cases h4 : L.length ≤ 4
  · have hl : (L.length : Int) ≤ 4 := by omega
    go_enter Tryz.func99, Tryz.ntmps99
    go_wp2
    go_loopw [10] (fun t wr => ∃ i : Nat, i ≤ L.length ∧ t = .int .i64 i ∧ Hid (∀ j, j < i → (declB (at0 L j) && ascB L j) = true) ∧ Hid (Below w.heap.size w wr)) (fun t _ => L.length - (intOf t).toNat)
    case atStart => exact ⟨0, Nat.zero_le _, rfl, (fun j hj => by omega), Below.refl _ _⟩
    case round =>
      obtain ⟨i, hi, rfl, hup, hbw⟩ := hrel
      by_cases hlt : i < L.length
      · obtain ⟨b, off, ha, hblt, hc⟩ := (HL.out.below (Nat.le_refl _) hbw.out).row (by omega)
        have hts := HL.out.texts i hlt
        obtain ⟨hc1, hc2⟩ := hc i hlt
        obtain ⟨db, hdb⟩ : ∃ db, declB (at0 L i) = db := ⟨_, rfl⟩
        have hD := impl_declH (at0 L i) db hts.1 hts.2 hdb
        have hal : ∀ o, Below wr.heap.size wr (wr.alloc o) := fun o => (Below.refl _ _).alloc (Nat.le_refl _) o
        have hTw : ∀ o W, Below (wr.alloc o).heap.size (wr.alloc o) W → Tabs W := fun o W h => HT.out.below (hbw.out.trans (((hal o).trans (h.mono (by simp))).mono hbw.out.size))
        have hBw : ∀ o W, Below (wr.alloc o).heap.size (wr.alloc o) W → Below w.heap.size w W := fun o W h => hbw.out.trans (((hal o).trans (h.mono (by simp))).mono hbw.out.size)
        have hcell : ∀ o W, Below (wr.alloc o).heap.size (wr.alloc o) W → ∀ j, j < L.length → W.cell? ⟨b, off + j * 2, none⟩ = some (.string (at0 L j).1) := fun o W h j hj => (((hal o).trans (h.mono (by simp))).cell (p := ⟨b, off + j * 2, none⟩) hblt).trans (hc j hj).1
        subst ha
        by_cases hz : 0 < i
        · obtain ⟨j, rfl⟩ : ∃ j, i = j + 1 := ⟨i - 1, by omega⟩
          have hl3 := fun o W h => hcell o W h j (by omega)
          have hasc := @asc_more L (j + 1) (by omega)
          rw [show j + 1 - 1 = j by omega] at hasc
          have hsub : IntKind.i64.wrap (((j + 1 : Nat) : Int) - 1) = (j : Int) := by rw [IntKind.wrap_i64]; omega
          have hjlt : (j : Int) < L.length := by omega
          have hj0 : (0 : Int) < ((j + 1 : Nat) : Int) := by omega
          have hno := @decls_no L (j + 1) hlt
          have hun := fun h => @upto_next L (j + 1) hup.out h
          have bd := @both_decl L (j + 1)
          have ba := @both_asc L (j + 1)
          have by' := @both_yes L (j + 1)
          clear hcell hc hts
          generalize at0 L (j + 1) = x at hD hasc hc1 hc2 hno hun bd ba by' hdb
          obtain ⟨n, u⟩ := x
          have HDB : Hid _ := hdb
          clear hdb
          dsimp only at hD hasc hc1 hc2
          generalize (at0 L j).1 = m at hl3 hasc
          obtain ⟨wb, hwb⟩ : ∃ wb, wr.alloc (.cells #[.string n, .string u] 78) = wb := ⟨_, rfl⟩
          have hl1 : ∀ W, Below wb.heap.size wb W → W.cell? ⟨wr.heap.size, 0, none⟩ = some (.string n) := fun W h => by subst hwb; exact (box_cells _ _ _ _ _ h).1
          have hl2 : ∀ W, Below wb.heap.size wb W → W.cell? ⟨wr.heap.size, 1, none⟩ = some (.string u) := fun W h => by subst hwb; exact (box_cells _ _ _ _ _ h).2
          have hl4 : ∀ W, Below wb.heap.size wb W → W.cell? ⟨b, off + j * 2, none⟩ = some (.string m) := fun W h => by subst hwb; exact hl3 _ W h
          have hT2 : ∀ W, Below wb.heap.size wb W → Tabs W := fun W h => by subst hwb; exact hTw _ W h
          have HB2 : Hid (∀ W, Below wb.heap.size wb W → Below w.heap.size w W) := fun W h => by subst hwb; exact hBw _ W h
          have HUN : Hid (∀ h, _) := hun
          have HNO : Hid (∀ h, _) := hno
          have HBD : Hid (∀ h, _) := bd
          have HBA : Hid (∀ h, _) := ba
          have HBY : Hid (∀ h, _) := by'
          have HASC : Hid _ := hasc
          clear hl3 hTw hBw hal hun hno bd ba by' hasc
          cases db
          · have HF : Hid (declsB L = false) := HNO.out (HBD.out HDB.out)
            go_wp2_with fail
            try rw [hwb]
            refine quiets.wp_region_below (by kernel_rfl) (by kernel_rfl) ?_
            repeat (go_big_quiet_step ((first | (intro hq; rfl) | (intro hq; simp [go_sem, hl1 _ hq, hl2 _ hq]; rfl) | (intro hq; simp [go_sem, hl4 _ hq]; rfl) | (intro hq; exact quiets.below_call (hD _ (hT2 _ hq)) hq))))
            refine wpQuiet_nil ?_
            intro w6 hb6
            have HB6 : Hid _ := HB2.out _ hb6
            clear hb6 hl1 hl2 hT2
            go_wp2
            go_ret
            exact ⟨ret_bool HF.out.symm, HB6.out⟩
          · cases hq1 : Op.bytesLess m.toList n.toList
            · have HF : Hid (declsB L = false) := HNO.out (HBA.out (HASC.out.trans hq1))
              go_wp2_with fail
              try rw [hwb]
              refine quiets.wp_region_below (by kernel_rfl) (by kernel_rfl) ?_
              repeat (go_big_quiet_step ((first | (intro hq; rfl) | (intro hq; simp [go_sem, hl1 _ hq, hl2 _ hq]; rfl) | (intro hq; simp [go_sem, hl4 _ hq]; rfl) | (intro hq; simp [go_sem, binOp_string_geq, hq1]; try rfl) | (intro hq; exact quiets.below_call (hD _ (hT2 _ hq)) hq))))
              refine wpQuiet_nil ?_
              intro w6 hb6
              have HB6 : Hid _ := HB2.out _ hb6
              clear hb6 hl1 hl2 hT2
              go_wp2
              go_ret
              exact ⟨ret_bool HF.out.symm, HB6.out⟩
            · have HU : Hid _ := HUN.out (HBY.out HDB.out (HASC.out.trans hq1))
              go_wp2_with fail
              try rw [hwb]
              refine quiets.wp_region_below (by kernel_rfl) (by kernel_rfl) ?_
              repeat (go_big_quiet_step ((first | (intro hq; rfl) | (intro hq; simp [go_sem, hl1 _ hq, hl2 _ hq]; rfl) | (intro hq; simp [go_sem, hl4 _ hq]; rfl) | (intro hq; simp [go_sem, binOp_string_geq, hq1]; try rfl) | (intro hq; exact quiets.below_call (hD _ (hT2 _ hq)) hq))))
              refine wpQuiet_nil ?_
              intro w6 hb6
              have HB6 : Hid _ := HB2.out _ hb6
              clear hb6 hl1 hl2 hT2
              go_wp2
              go_roundw
              case rel => exact ⟨j + 1 + 1, by omega, by go_num, HU.out, HB6.out⟩
              case measure => simp [intOf]; omega
        · obtain rfl : i = 0 := by omega
          simp only [Nat.zero_mul, Nat.add_zero] at hc1 hc2
          have hz0 : ((0 : Nat) : Int) = 0 := rfl
          have hno := @decls_no L 0 hlt
          have hun := fun h => @upto_next L 0 hup.out h
          have bd := @both_decl L 0
          have by' := @both_yes L 0
          have has0 := @asc_zero L
          clear hcell hc hts
          generalize at0 L 0 = x at hD hc1 hc2 hno hun bd by' hdb
          obtain ⟨n, u⟩ := x
          have HDB : Hid _ := hdb
          clear hdb
          dsimp only at hD hc1 hc2
          obtain ⟨wb, hwb⟩ : ∃ wb, wr.alloc (.cells #[.string n, .string u] 78) = wb := ⟨_, rfl⟩
          have hl1 : ∀ W, Below wb.heap.size wb W → W.cell? ⟨wr.heap.size, 0, none⟩ = some (.string n) := fun W h => by subst hwb; exact (box_cells _ _ _ _ _ h).1
          have hl2 : ∀ W, Below wb.heap.size wb W → W.cell? ⟨wr.heap.size, 1, none⟩ = some (.string u) := fun W h => by subst hwb; exact (box_cells _ _ _ _ _ h).2
          have hT2 : ∀ W, Below wb.heap.size wb W → Tabs W := fun W h => by subst hwb; exact hTw _ W h
          have HB2 : Hid (∀ W, Below wb.heap.size wb W → Below w.heap.size w W) := fun W h => by subst hwb; exact hBw _ W h
          have HUN : Hid (∀ h, _) := hun
          have HNO : Hid (∀ h, _) := hno
          have HBD : Hid (∀ h, _) := bd
          have HBY : Hid (∀ h, _) := by'
          have HA0 : Hid _ := has0
          clear hTw hBw hal hun hno bd by' has0
          cases db
          · have HF : Hid (declsB L = false) := HNO.out (HBD.out HDB.out)
            go_wp2_with fail
            try rw [hwb]
            refine quiets.wp_region_below (by kernel_rfl) (by kernel_rfl) ?_
            repeat (go_big_quiet_step ((first | (intro hq; rfl) | (intro hq; simp [go_sem, hl1 _ hq, hl2 _ hq]; rfl) | (intro hq; exact quiets.below_call (hD _ (hT2 _ hq)) hq))))
            refine wpQuiet_nil ?_
            intro w6 hb6
            have HB6 : Hid _ := HB2.out _ hb6
            clear hb6 hl1 hl2 hT2
            go_wp2
            go_ret
            exact ⟨ret_bool HF.out.symm, HB6.out⟩
          · have HU : Hid _ := HUN.out (HBY.out HDB.out HA0.out)
            go_wp2_with fail
            try rw [hwb]
            refine quiets.wp_region_below (by kernel_rfl) (by kernel_rfl) ?_
            repeat (go_big_quiet_step ((first | (intro hq; rfl) | (intro hq; simp [go_sem, hl1 _ hq, hl2 _ hq]; rfl) | (intro hq; exact quiets.below_call (hD _ (hT2 _ hq)) hq))))
            refine wpQuiet_nil ?_
            intro w6 hb6
            have HB6 : Hid _ := HB2.out _ hb6
            clear hb6 hl1 hl2 hT2
            go_wp2
            go_roundw
            case rel => exact ⟨0 + 1, by omega, by go_num, HU.out, HB6.out⟩
            case measure => simp [intOf]; omega
      · have HF : Hid (declsB L = true) := by
          show _ = _
          rw [decls_end fun j hj => hup.out j (by omega)]
          exact decide_eq_true hl
        go_wp2
        go_ret
        exact ⟨ret_bool HF.out.symm, hbw.out⟩
  · have hl : ¬ (L.length : Int) ≤ 4 := by omega
    have HF : Hid (declsB L = false) := by show _ = _; unfold declsB; rw [decide_eq_false h4, Bool.and_false]
    go_enter Tryz.func99, Tryz.ntmps99
    go_wp2
    go_ret
    exact ⟨ret_bool HF.out.symm, Below.refl _ _⟩
end Go.Proofs.YtmiiilamjbhheaaGreatDoor.scopes
