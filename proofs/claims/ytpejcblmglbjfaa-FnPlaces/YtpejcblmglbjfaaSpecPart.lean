/-
  Which nodes are right: plain.
  (Texts of ours laid as one: NodeP, Decl, SpecNode1, SpecNode2, EscP, SpecNode3, SpecNode4, FitsP, SpecNode5, NodeRight, SpecKids, NodeTo, SpecNodeOk, SpecFits, SpecTreeOk.)
-/
import Derived.Test.YtpejcblmglbjfaaCountP
import Derived.Test.YtpejcblmglbjfaaDeclP
import Derived.Test.YtpejcblmglbjfaaBlank
import Derived.Test.YtpejcblmglbjfaaQuiet
import Derived.Deep.QuietTactic
import Derived.BigQuiet
import Derived.WalkSmall
import Derived.Laws.Cover1
import Derived.Test.YtpejcblmglbjfaaRows
import Derived.WalkKit
import Derived.ProofKit
import Derived.Laws.BytesArg
import Derived.Test.YtpejcblmglbjfaaNodeFns
import Derived.Test.YtpejcblmglbjfaaScopeP
import Derived.Test.YtpejcblmglbjfaaScope
namespace Go.Proofs.Ytpejcblmglbjfaa.trees
open Go.RowKit
open pairs (Pair at0 PairsAt)
open scopes (xmlB textB declsB)
set_option linter.unusedVariables false
/-! ### Attrs -/
def l5PreB (s : ByteArray) : Bool := s.toList.isEmpty || (names.plainB s && !xmlB s)
def uriB (u : ByteArray) : Bool := textB u && decide (u.size ≤ 40)
def xmlnsB (s : ByteArray) : Bool := s.toList == [120, 109, 108, 110, 115]
def attB (x : Att) : Bool := (l5PreB x.pre && ((x.pre.toList.isEmpty == x.uri.toList.isEmpty) && (names.plainB x.loc && !(x.pre.toList.isEmpty && xmlnsB x.loc)))) && (textB x.val && uriB x.uri)
def lessB (x y : Att) : Bool := Op.bytesLess x.uri.toList y.uri.toList || ((x.uri.toList == y.uri.toList) && Op.bytesLess x.loc.toList y.loc.toList)
/-! ### Texts -/
def hasAt (s t : ByteArray) (i : Nat) : Bool := decide (i + t.size ≤ s.size) && ((s.extract i (i + t.size)).toList == t.toList)
def hasB (s t : ByteArray) : Bool := (List.range (s.size + 1)).any (hasAt s t)
theorem has_yes {s t : ByteArray} {i : Nat} (hi : i + t.size ≤ s.size) (h : ((s.extract i (i + t.size)).toList == t.toList) = true) : hasB s t = true := by
  unfold hasB
  rw [List.any_eq_true]
  exact ⟨i, List.mem_range.2 (by omega), by unfold hasAt; rw [decide_eq_true hi, h]; rfl⟩
theorem has_no {s t : ByteArray} (h : ∀ i, i + t.size ≤ s.size → ((s.extract i (i + t.size)).toList == t.toList) = false) : hasB s t = false := by
  unfold hasB
  rw [List.any_eq_false]
  intro i _
  unfold hasAt
  by_cases hi : i + t.size ≤ s.size
  · rw [decide_eq_true hi, h i hi]; decide
  · rw [decide_eq_false hi, Bool.false_and]; decide
end Go.Proofs.Ytpejcblmglbjfaa.trees
namespace Go.Proofs.Ytpejcblmglbjfaa.scopes
open Go.ChangeShapes Go.WideShapes Go.ChangeAt Go.RowKit
open pairs (Pair at0 PairsAt)
set_option linter.unusedVariables false
set_option maxHeartbeats 1000000 in
theorem spec_xml (s : ByteArray) (w : World) (hs : s.size ≤ maxLen) : Calls Try.prog 120 #[.string s] w fun e w' => e = .returned (.bool (xmlB s)) ∧ w' = w := by
  unfold maxLen at hs
  by_cases h : 3 ≤ s.size
  · have h' : (3 : Int) ≤ s.size := by omega
    have HF : Hid (xmlB s = ((s.extract 0 3).toList == [120, 109, 108])) := by show _ = _; unfold xmlB; rw [decide_eq_true h, Bool.true_and]
    clear h
    go_enter Try.func120, Try.ntmps120
    go_wp2
    go_ret
    exact ⟨ret_bool HF.out.symm, rfl⟩
  · have h' : ¬ (3 : Int) ≤ s.size := by omega
    have HF : Hid (xmlB s = false) := by show _ = _; unfold xmlB; rw [decide_eq_false h, Bool.false_and]
    clear h
    go_enter Try.func120, Try.ntmps120
    go_wp2
    go_ret
    exact ⟨ret_bool HF.out.symm, rfl⟩
theorem pre_empty {n u : ByteArray} (h : n.toList.isEmpty = true) : preB (n, u) = true := by unfold preB; rw [h]; rfl
theorem pre_plain {n u : ByteArray} (h : n.toList.isEmpty = false) (h1 : names.plainB n = false) : preB (n, u) = false := by unfold preB; simp only; rw [h, h1]; rfl
theorem pre_xml {n u : ByteArray} (h : n.toList.isEmpty = false) (h1 : xmlB n = true) : preB (n, u) = false := by unfold preB; simp only; rw [h, h1]; simp
theorem pre_uri {n u : ByteArray} (h : n.toList.isEmpty = false) (h1 : u.toList.isEmpty = true) : preB (n, u) = false := by unfold preB; simp only; rw [h, h1]; simp
theorem pre_yes {n u : ByteArray} (h : n.toList.isEmpty = false) (h1 : names.plainB n = true) (h2 : xmlB n = false) (h3 : u.toList.isEmpty = false) : preB (n, u) = true := by unfold preB; simp only; rw [h, h1, h2, h3]; rfl
theorem decl_pre {n u : ByteArray} (h : preB (n, u) = false) : declB (n, u) = false := by unfold declB; rw [h]; rfl
theorem decl_text {n u : ByteArray} (h : (decide (u.size ≤ 600) && scans.signs u) = false) : declB (n, u) = false := by unfold declB textB; simp only; rw [h]; simp
theorem decl_end {n u : ByteArray} (h : preB (n, u) = true) (h1 : (decide (u.size ≤ 600) && scans.signs u) = true) : declB (n, u) = decide ((u.size : Int) ≤ 40) := by
  unfold declB textB
  simp only
  rw [h, h1, Bool.true_and, Bool.true_and, Bool.eq_iff_iff]
  simp
  omega
theorem box_cells (w w' : World) (n u : ByteArray) (t : TypeId) (hb : Below (w.alloc (.cells #[.string n, .string u] t)).heap.size (w.alloc (.cells #[.string n, .string u] t)) w') : w'.cell? ⟨w.heap.size, 0, none⟩ = some (.string n) ∧ w'.cell? ⟨w.heap.size, 1, none⟩ = some (.string u) :=
  ⟨(hb.cell (p := ⟨w.heap.size, 0, none⟩) (by simp)).trans (pairs.cell_new w _ t 0 _ rfl), (hb.cell (p := ⟨w.heap.size, 1, none⟩) (by simp)).trans (pairs.cell_new w _ t 1 _ rfl)⟩
theorem box_below {w w' : World} {o : Obj} (hb : Below (w.alloc o).heap.size (w.alloc o) w') : Below w.heap.size w w' := ((Below.refl _ _).alloc (Nat.le_refl _) o).trans (hb.mono (by simp))
set_option maxRecDepth 100000 in
set_option maxHeartbeats 4000000 in
theorem spec_decl (n u : ByteArray) (w : World) (hn : n.size ≤ maxLen) (hu : u.size ≤ maxLen) : Calls Try.prog 125 #[.agg #[.string n, .string u]] w fun e w' => e = .returned (.bool (declB (n, u))) ∧ Below w.heap.size w w' := by
  have hT := fun w => scans.spec_text u w hu
  have hdt := @decl_text n u
  have hde := @decl_end n u
  have hdp := @decl_pre n u
  have hz := hu
  unfold maxLen at hz
  cases he : n.toList.isEmpty
  · have hP := fun w => names.spec_plain n w hn
    have hp1 := @pre_plain n u he
    have hp2 := @pre_xml n u he
    have hp3 := @pre_uri n u he
    have hp4 := @pre_yes n u he
    cases hp : names.plainB n
    · have HF : Hid (declB (n, u) = false) := hdp (hp1 hp)
      rw [hp] at hP
      have HP : Hid (∀ w, _) := hP
      clear hT hdt hde hdp hP hp1 hp2 hp3 hp4 hp
      go_enter Try.func125, Try.ntmps125
      go_wp2_with fail
      refine (HP.out _).mono ?_
      rintro e w1 ⟨rfl, hb1⟩
      have HB1 : Hid _ := box_below hb1
      clear hb1
      go_wp2
      go_ret
      exact ⟨ret_bool HF.out.symm, HB1.out⟩
    · rw [hp] at hP
      have HP : Hid (∀ w, _) := hP
      have hX := fun w => spec_xml n w hn
      cases hx : xmlB n
      · rw [hx] at hX
        have HX : Hid (∀ w, _) := hX
        cases hue : u.toList.isEmpty
        · have hpy := hp4 hp hx hue
          cases ht : (decide (u.size ≤ 600) && scans.signs u)
          · have HF : Hid (declB (n, u) = false) := hdt ht
            rw [ht] at hT
            have HT : Hid (∀ w, _) := hT
            clear hT hdt hde hdp hP hp1 hp2 hp3 hp4 hp hX hx ht hpy
            go_enter Try.func125, Try.ntmps125
            go_wp2_with fail
            refine (HP.out _).mono ?_
            rintro e w1 ⟨rfl, hb1⟩
            have HB1 : Hid _ := box_below hb1
            obtain ⟨hd1, hd2⟩ := box_cells _ _ _ _ _ hb1
            clear hb1
            go_wp2_with (first
              | (go_at_call 120; refine (HX.out _).mono ?_; rintro e w2 ⟨rfl, hw1⟩; have hw2 := hw1.symm; clear hw1; subst hw2)
              | (go_at_call 113; refine (HT.out _).mono ?_; rintro e w2 ⟨rfl, hw1⟩; have hw2 := hw1.symm; clear hw1; subst hw2))
            go_ret
            exact ⟨ret_bool HF.out.symm, HB1.out⟩
          · have HF : Hid (declB (n, u) = decide ((u.size : Int) ≤ 40)) := hde hpy ht
            rw [ht] at hT
            have HT : Hid (∀ w, _) := hT
            clear hT hdt hde hdp hP hp1 hp2 hp3 hp4 hp hX hx ht hpy
            go_enter Try.func125, Try.ntmps125
            go_wp2_with fail
            refine (HP.out _).mono ?_
            rintro e w1 ⟨rfl, hb1⟩
            have HB1 : Hid _ := box_below hb1
            obtain ⟨hd1, hd2⟩ := box_cells _ _ _ _ _ hb1
            clear hb1
            go_wp2_with (first
              | (go_at_call 120; refine (HX.out _).mono ?_; rintro e w2 ⟨rfl, hw1⟩; have hw2 := hw1.symm; clear hw1; subst hw2)
              | (go_at_call 113; refine (HT.out _).mono ?_; rintro e w2 ⟨rfl, hw1⟩; have hw2 := hw1.symm; clear hw1; subst hw2))
            go_ret
            exact ⟨ret_bool HF.out.symm, HB1.out⟩
        · have HF : Hid (declB (n, u) = false) := hdp (hp3 hue)
          clear hT hdt hde hdp hP hp1 hp2 hp3 hp4 hp hX hx
          go_enter Try.func125, Try.ntmps125
          go_wp2_with fail
          refine (HP.out _).mono ?_
          rintro e w1 ⟨rfl, hb1⟩
          have HB1 : Hid _ := box_below hb1
          obtain ⟨hd1, hd2⟩ := box_cells _ _ _ _ _ hb1
          clear hb1
          go_wp2_with (go_at_call 120; refine (HX.out _).mono ?_; rintro e w2 ⟨rfl, hw1⟩; have hw2 := hw1.symm; clear hw1; subst hw2)
          go_ret
          exact ⟨ret_bool HF.out.symm, HB1.out⟩
      · have HF : Hid (declB (n, u) = false) := hdp (hp2 hx)
        rw [hx] at hX
        have HX : Hid (∀ w, _) := hX
        clear hT hdt hde hdp hP hp1 hp2 hp3 hp4 hp hX hx
        go_enter Try.func125, Try.ntmps125
        go_wp2_with fail
        refine (HP.out _).mono ?_
        rintro e w1 ⟨rfl, hb1⟩
        have HB1 : Hid _ := box_below hb1
        obtain ⟨hd1, hd2⟩ := box_cells _ _ _ _ _ hb1
        clear hb1
        go_wp2_with (go_at_call 120; refine (HX.out _).mono ?_; rintro e w2 ⟨rfl, hw1⟩; have hw2 := hw1.symm; clear hw1; subst hw2)
        go_ret
        exact ⟨ret_bool HF.out.symm, HB1.out⟩
  · have hpy := pre_empty (u := u) he
    cases ht : (decide (u.size ≤ 600) && scans.signs u)
    · have HF : Hid (declB (n, u) = false) := hdt ht
      rw [ht] at hT
      have HT : Hid (∀ w, _) := hT
      clear hT hdt hde hdp ht hpy
      go_enter Try.func125, Try.ntmps125
      go_wp2_with (go_at_call 113; refine (HT.out _).mono ?_; rintro e w2 ⟨rfl, hw1⟩; have hw2 := hw1.symm; clear hw1; subst hw2)
      go_ret
      exact ⟨ret_bool HF.out.symm, (Below.refl _ _).alloc (Nat.le_refl _) _⟩
    · have HF : Hid (declB (n, u) = decide ((u.size : Int) ≤ 40)) := hde hpy ht
      rw [ht] at hT
      have HT : Hid (∀ w, _) := hT
      clear hT hdt hde hdp ht hpy
      go_enter Try.func125, Try.ntmps125
      go_wp2_with (go_at_call 113; refine (HT.out _).mono ?_; rintro e w2 ⟨rfl, hw1⟩; have hw2 := hw1.symm; clear hw1; subst hw2)
      go_ret
      exact ⟨ret_bool HF.out.symm, (Below.refl _ _).alloc (Nat.le_refl _) _⟩
theorem both_decl {L : List Pair} {i : Nat} (h : declB (at0 L i) = false) : (declB (at0 L i) && ascB L i) = false := by rw [h]; rfl
theorem both_asc {L : List Pair} {i : Nat} (h : ascB L i = false) : (declB (at0 L i) && ascB L i) = false := by rw [h]; simp
theorem both_yes {L : List Pair} {i : Nat} (h : declB (at0 L i) = true) (h1 : ascB L i = true) : (declB (at0 L i) && ascB L i) = true := by rw [h, h1]; rfl
set_option maxRecDepth 100000 in
set_option maxHeartbeats 8000000 in
theorem spec_decls (a : Option Addr) (L : List Pair) (cap : Nat) (w : World) (hL : Hid (PairsAt w a L)) : Calls Try.prog 114 #[.slice a L.length cap] w fun e w' => e = .returned (.bool (declsB L)) ∧ Below w.heap.size w w' := by
  have hlen := hL.out.short
  unfold maxLen at hlen
  go_enter Try.func114, Try.ntmps114
  go_wp2
  go_loopw [3] (fun t wr => ∃ i : Nat, i ≤ L.length ∧ t = .int .i64 i ∧ Hid (∀ j, j < i → (declB (at0 L j) && ascB L j) = true) ∧ Hid (Below w.heap.size w wr)) (fun t _ => L.length - (intOf t).toNat)
  case atStart => exact ⟨0, Nat.zero_le _, rfl, fun j hj => by omega, Below.refl _ _⟩
  case round =>
    obtain ⟨i, hi, rfl, hup, hbw⟩ := hrel
    by_cases hlt : i < L.length
    · obtain ⟨b, off, ha, hblt, hc⟩ := (hL.out.below (Nat.le_refl _) hbw.out).row (by omega)
      have hts := hL.out.texts i hlt
      have hD := fun w => spec_decl (at0 L i).1 (at0 L i).2 w hts.1 hts.2
      have hcells : ∀ W, Below wr.heap.size wr W → ∀ j, j < L.length → W.cell? ⟨b, off + j * 2, none⟩ = some (.string (at0 L j).1) ∧ W.cell? ⟨b, off + j * 2 + 1, none⟩ = some (.string (at0 L j).2) := fun W h j hj =>
        ⟨(h.cell (p := ⟨b, off + j * 2, none⟩) hblt).trans (hc j hj).1, (h.cell (p := ⟨b, off + j * 2 + 1, none⟩) hblt).trans (hc j hj).2⟩
      have hl1 := fun W h => (hcells W h i hlt).1
      have hl2 := fun W h => (hcells W h i hlt).2
      subst ha
      by_cases hz : 0 < i
      · obtain ⟨j, rfl⟩ : ∃ j, i = j + 1 := ⟨i - 1, by omega⟩
        have hl3 := fun W h => (hcells W h j (by omega)).1
        have hasc := @asc_more L (j + 1) (by omega)
        rw [show j + 1 - 1 = j by omega] at hasc
        have hsub : IntKind.i64.wrap (((j + 1 : Nat) : Int) - 1) = (j : Int) := by rw [IntKind.wrap_i64]; omega
        have hjlt : (j : Int) < L.length := by omega
        have hj0 : (0 : Int) < ((j + 1 : Nat) : Int) := by omega
        cases hdb : declB (at0 L (j + 1))
        · have HF : Hid (declsB L = false) := decls_no hlt (both_decl hdb)
          have hD' : ∀ w, Calls Try.prog 125 #[.agg #[.string (at0 L (j + 1)).1, .string (at0 L (j + 1)).2]] w fun e w' => e = .returned (.bool false) ∧ Below w.heap.size w w' := fun w => by rw [← hdb]; exact hD w
          clear hD
          have hD := hD'
          clear hD' hdb hasc
          generalize (at0 L (j + 1)).1 = n at hD hl1
          generalize (at0 L (j + 1)).2 = u at hD hl2
          generalize (at0 L j).1 = m at hl3
          clear hc hcells hts
          go_wp2_with fail
          refine quiets.wp_region_below (by kernel_rfl) (by kernel_rfl) ?_
          repeat (go_big_quiet_step ((first | (intro hq; rfl) | (intro hq; simp [go_sem, hl1 _ hq, hl2 _ hq]; rfl) | (intro hq; simp [go_sem, hl3 _ hq]; rfl) | (intro hq; exact quiets.below_call (hD _) hq))))
          refine wpQuiet_nil ?_
          intro w6 hb6
          have HB6 : Hid _ := hbw.out.trans (hb6.mono hbw.out.size)
          clear hb6 hl1 hl2 hl3
          go_wp2
          go_ret
          exact ⟨ret_bool HF.out.symm, HB6.out⟩
        · have hD' : ∀ w, Calls Try.prog 125 #[.agg #[.string (at0 L (j + 1)).1, .string (at0 L (j + 1)).2]] w fun e w' => e = .returned (.bool true) ∧ Below w.heap.size w w' := fun w => by rw [← hdb]; exact hD w
          clear hD
          have hD := hD'
          clear hD'
          cases hq1 : Op.bytesLess (at0 L j).1.toList (at0 L (j + 1)).1.toList
          · have HF : Hid (declsB L = false) := decls_no hlt (both_asc (hasc.trans hq1))
            clear hdb hasc
            generalize (at0 L (j + 1)).1 = n at hD hl1 hq1
            generalize (at0 L (j + 1)).2 = u at hD hl2
            generalize (at0 L j).1 = m at hl3 hq1
            clear hc hcells hts
            go_wp2_with fail
            refine quiets.wp_region_below (by kernel_rfl) (by kernel_rfl) ?_
            repeat (go_big_quiet_step ((first | (intro hq; rfl) | (intro hq; simp [go_sem, hl1 _ hq, hl2 _ hq]; rfl) | (intro hq; simp [go_sem, hl3 _ hq]; rfl) | (intro hq; simp [go_sem, binOp_string_geq, hq1]; try rfl) | (intro hq; exact quiets.below_call (hD _) hq))))
            refine wpQuiet_nil ?_
            intro w6 hb6
            have HB6 : Hid _ := hbw.out.trans (hb6.mono hbw.out.size)
            clear hb6 hl1 hl2 hl3
            go_wp2
            go_ret
            exact ⟨ret_bool HF.out.symm, HB6.out⟩
          · have HU : Hid _ := upto_next hup.out (both_yes hdb (hasc.trans hq1))
            clear hdb hasc
            generalize (at0 L (j + 1)).1 = n at hD hl1 hq1
            generalize (at0 L (j + 1)).2 = u at hD hl2
            generalize (at0 L j).1 = m at hl3 hq1
            clear hc hcells hts
            go_wp2_with fail
            refine quiets.wp_region_below (by kernel_rfl) (by kernel_rfl) ?_
            repeat (go_big_quiet_step ((first | (intro hq; rfl) | (intro hq; simp [go_sem, hl1 _ hq, hl2 _ hq]; rfl) | (intro hq; simp [go_sem, hl3 _ hq]; rfl) | (intro hq; simp [go_sem, binOp_string_geq, hq1]; try rfl) | (intro hq; exact quiets.below_call (hD _) hq))))
            refine wpQuiet_nil ?_
            intro w6 hb6
            have HB6 : Hid _ := hbw.out.trans (hb6.mono hbw.out.size)
            clear hb6 hl1 hl2 hl3
            go_wp2
            go_roundw
            case rel => exact ⟨j + 1 + 1, by omega, by go_num, HU.out, HB6.out⟩
            case measure => simp [intOf]; omega
      · obtain rfl : i = 0 := by omega
        have hz0 : ((0 : Nat) : Int) = 0 := rfl
        simp only [Nat.zero_mul, Nat.add_zero] at hl1 hl2
        cases hdb : declB (at0 L 0)
        · have HF : Hid (declsB L = false) := decls_no hlt (both_decl hdb)
          have hD' : ∀ w, Calls Try.prog 125 #[.agg #[.string (at0 L 0).1, .string (at0 L 0).2]] w fun e w' => e = .returned (.bool false) ∧ Below w.heap.size w w' := fun w => by rw [← hdb]; exact hD w
          clear hD
          have hD := hD'
          clear hD' hdb
          generalize (at0 L 0).1 = n at hD hl1
          generalize (at0 L 0).2 = u at hD hl2
          clear hc hcells hts
          go_wp2_with fail
          refine quiets.wp_region_below (by kernel_rfl) (by kernel_rfl) ?_
          repeat (go_big_quiet_step ((first | (intro hq; rfl) | (intro hq; simp [go_sem, hl1 _ hq, hl2 _ hq]; rfl) | (intro hq; exact quiets.below_call (hD _) hq))))
          refine wpQuiet_nil ?_
          intro w6 hb6
          have HB6 : Hid _ := hbw.out.trans (hb6.mono hbw.out.size)
          clear hb6 hl1 hl2
          go_wp2
          go_ret
          exact ⟨ret_bool HF.out.symm, HB6.out⟩
        · have HU : Hid _ := upto_next hup.out (both_yes hdb asc_zero)
          have hD' : ∀ w, Calls Try.prog 125 #[.agg #[.string (at0 L 0).1, .string (at0 L 0).2]] w fun e w' => e = .returned (.bool true) ∧ Below w.heap.size w w' := fun w => by rw [← hdb]; exact hD w
          clear hD
          have hD := hD'
          clear hD' hdb
          generalize (at0 L 0).1 = n at hD hl1
          generalize (at0 L 0).2 = u at hD hl2
          clear hc hcells hts
          go_wp2_with fail
          refine quiets.wp_region_below (by kernel_rfl) (by kernel_rfl) ?_
          repeat (go_big_quiet_step ((first | (intro hq; rfl) | (intro hq; simp [go_sem, hl1 _ hq, hl2 _ hq]; rfl) | (intro hq; exact quiets.below_call (hD _) hq))))
          refine wpQuiet_nil ?_
          intro w6 hb6
          have HB6 : Hid _ := hbw.out.trans (hb6.mono hbw.out.size)
          clear hb6 hl1 hl2
          go_wp2
          go_roundw
          case rel => exact ⟨0 + 1, by omega, by go_num, HU.out, HB6.out⟩
          case measure => simp [intOf]; omega
    · have HF : Hid (declsB L = decide ((L.length : Int) ≤ 4)) := decls_end fun j hj => hup.out j (by omega)
      go_wp2
      go_ret
      exact ⟨ret_bool HF.out.symm, hbw.out⟩
end Go.Proofs.Ytpejcblmglbjfaa.scopes
namespace Go.Proofs.Ytpejcblmglbjfaa.trees
open Go.ChangeShapes Go.WideShapes Go.ChangeAt Go.RowKit
open pairs (Pair at0 PairsAt)
open scopes (xmlB textB declsB ret_bool)
set_option linter.unusedVariables false
set_option maxRecDepth 100000 in
set_option maxHeartbeats 1000000 in
theorem spec_l5pre (s : ByteArray) (w : World) (hs : s.size ≤ maxLen) : Calls Try.prog 111 #[.string s] w fun e w' => e = .returned (.bool (l5PreB s)) ∧ Below w.heap.size w w' := by
  cases he : s.toList.isEmpty
  · have HP : Hid _ := names.spec_plain s w hs
    have HX : Hid (∀ w, _) := fun w => scopes.spec_xml s w hs
    have HF : Hid (l5PreB s = (names.plainB s && !xmlB s)) := by show _ = _; unfold l5PreB; rw [he, Bool.false_or]
    clear hs
    go_enter Try.func111, Try.ntmps111
    go_wp2_with fail
    refine Calls.mono HP.out ?_
    rintro e w1 ⟨rfl, hb1⟩
    have HB1 : Hid _ := hb1
    clear hb1 HP
    cases hp : names.plainB s
    · rw [hp] at HF
      go_wp2
      go_ret
      exact ⟨ret_bool HF.out.symm, HB1.out⟩
    · rw [hp] at HF
      go_wp2_with (go_at_call 120; refine (HX.out _).mono ?_; rintro e w2 ⟨rfl, hw1⟩; have hw2 := hw1.symm; clear hw1; subst hw2)
      go_ret
      exact ⟨ret_bool HF.out.symm, HB1.out⟩
  · have HF : Hid (l5PreB s = true) := by show _ = _; unfold l5PreB; rw [he, Bool.true_or]
    clear hs
    go_enter Try.func111, Try.ntmps111
    go_wp2
    go_ret
    exact ⟨ret_bool HF.out.symm, Below.refl _ _⟩
set_option maxRecDepth 100000 in
set_option maxHeartbeats 1000000 in
theorem spec_l5has (s t : ByteArray) (w : World) (hs : s.size ≤ 1048576) (ht : t.size ≤ 1048576) : Calls Try.prog 117 #[.string s, .string t] w fun e w' => e = .returned (.bool (hasB s t)) ∧ w' = w := by
  go_enter Try.func117, Try.ntmps117
  go_wp2
  go_loop [5] (fun q => ∃ i : Nat, i ≤ s.size + 1 ∧ q = .int .i64 i ∧ Hid (∀ j, j < i → j + t.size ≤ s.size → ((s.extract j (j + t.size)).toList == t.toList) = false)) (fun q => s.size + 1 - (intOf q).toNat)
  case atStart => exact ⟨0, Nat.zero_le _, rfl, fun j hj => by omega⟩
  case round =>
    obtain ⟨i, hi, rfl, hup⟩ := hrel
    by_cases hlt : i + t.size ≤ s.size
    · obtain ⟨j, hj⟩ : ∃ j : Nat, j = i + t.size := ⟨_, rfl⟩
      have hji : (i : Int) + (t.size : Int) = (j : Int) := by omega
      have hjs : (j : Int) ≤ s.size := by omega
      have hij : (i : Int) ≤ j := by omega
      have HJ : Hid _ := hj
      cases hq : ((s.extract i j).toList == t.toList)
      · have HUP : Hid (∀ j, j < i + 1 → j + t.size ≤ s.size → ((s.extract j (j + t.size)).toList == t.toList) = false) := fun j hj hj' => by
          by_cases e : j = i
          · rw [e, ← HJ.out]; exact hq
          · exact hup.out j (by omega) hj'
        clear hj
        go_wp2
        go_round
        case rel => exact ⟨i + 1, by have := HJ.out; omega, by go_num, HUP.out⟩
        case measure => simp [intOf]; omega
      · have HF : Hid (hasB s t = true) := has_yes hlt (by rw [← HJ.out]; exact hq)
        clear hj
        go_wp2
        go_ret
        exact ⟨ret_bool HF.out.symm, rfl⟩
    · have hlt' : ¬ (i : Int) + t.size ≤ s.size := by omega
      have HF : Hid (hasB s t = false) := has_no fun j hj => hup.out j (by omega) hj
      go_wp2
      go_ret
      exact ⟨ret_bool HF.out.symm, rfl⟩
end Go.Proofs.Ytpejcblmglbjfaa.trees
namespace Go.Proofs.Ytpejcblmglbjfaa.trees
open Go.ChangeShapes Go.WideShapes Go.ChangeAt Go.RowKit
open pairs (Pair at0 PairsAt)
open scopes (xmlB textB declsB ret_bool)
set_option linter.unusedVariables false
theorem box4 {w : World} {b : Nat} {t : TypeId} {c0 c1 c2 c3 : Value} (h : w.heap[b]? = some (.cells #[c0, c1, c2, c3] t (0, 0))) : w.cell? ⟨b, 0, none⟩ = some c0 ∧ w.cell? ⟨b, 1, none⟩ = some c1 ∧ w.cell? ⟨b, 2, none⟩ = some c2 ∧ w.cell? ⟨b, 3, none⟩ = some c3 := by
  simp [World.cell?, h]
set_option maxRecDepth 100000 in
set_option maxHeartbeats 1000000 in
theorem spec_l5less (x y : Att) (w : World) : Calls Try.prog 102 #[.agg #[.string x.pre, .string x.loc, .string x.uri, .string x.val], .agg #[.string y.pre, .string y.loc, .string y.uri, .string y.val]] w fun e w' => e = .returned (.bool (lessB x y)) ∧ Below w.heap.size w w' := by
  have hb := ((Below.refl w.heap.size w).alloc (Nat.le_refl _) (.cells #[.string x.pre, .string x.loc, .string x.uri, .string x.val] 87)).alloc (by simp) (.cells #[.string y.pre, .string y.loc, .string y.uri, .string y.val] 87)
  have HB : Hid _ := hb
  clear hb
  cases h1 : Op.bytesLess x.uri.toList y.uri.toList
  · cases h2 : (x.uri.toList == y.uri.toList)
    · have HF : Hid (lessB x y = false) := by show _ = _; unfold lessB; rw [h1, h2]; rfl
      go_enter Try.func102, Try.ntmps102
      go_wp2
      go_ret
      exact ⟨ret_bool HF.out.symm, HB.out⟩
    · have HF : Hid (lessB x y = Op.bytesLess x.loc.toList y.loc.toList) := by show _ = _; unfold lessB; rw [h1, h2]; rfl
      go_enter Try.func102, Try.ntmps102
      go_wp2
      go_ret
      exact ⟨ret_bool HF.out.symm, HB.out⟩
  · have HF : Hid (lessB x y = true) := by show _ = _; unfold lessB; rw [h1]; rfl
    go_enter Try.func102, Try.ntmps102
    go_wp2
    go_ret
    exact ⟨ret_bool HF.out.symm, HB.out⟩
def bareB (t : Tree) : Bool := t.pre.toList.isEmpty && (t.uri.toList.isEmpty && ((((t.ds.length : Nat) : Int) == 0) && ((((t.ats.length : Nat) : Int) == 0) && (((t.kids.length : Nat) : Int) == 0))))
set_option maxRecDepth 100000 in
set_option maxHeartbeats 1000000 in
theorem spec_l5bare (t : Tree) (h : Hdr) (w : World) : Calls Try.prog 116 #[.agg (vals t h)] w fun e w' => e = .returned (.bool (bareB t)) ∧ Below w.heap.size w w' := by
  obtain ⟨k, p, l, u, x, ds, ats, ks⟩ := t
  obtain ⟨da, dc, aa, ac, ka, kc⟩ := h
  simp only [vals, Tree.kind, Tree.pre, Tree.loc, Tree.uri, Tree.text, Tree.ds, Tree.ats, Tree.kids]
  have HF : Hid (bareB (.mk k p l u x ds ats ks) = (p.toList.isEmpty && (u.toList.isEmpty && ((((ds.length : Nat) : Int) == 0) && ((((ats.length : Nat) : Int) == 0) && (((ks.length : Nat) : Int) == 0)))))) := rfl
  rw [HF.out]
  clear HF
  cases h1 : p.toList.isEmpty <;> cases h2 : u.toList.isEmpty <;> cases h3 : (((ds.length : Nat) : Int) == 0) <;> cases h4 : (((ats.length : Nat) : Int) == 0)
  all_goals
    go_enter Try.func116, Try.ntmps116
    go_wp2
    go_ret
    exact ⟨by simp, (Below.refl _ _).alloc (Nat.le_refl _) _⟩
theorem att_parts (x : Att) : attB x = ((l5PreB x.pre && ((x.pre.toList.isEmpty == x.uri.toList.isEmpty) && (names.plainB x.loc && !(x.pre.toList.isEmpty && xmlnsB x.loc)))) && (textB x.val && (textB x.uri && decide ((x.uri.size : Int) ≤ 40)))) := by
  unfold attB uriB
  have e : decide ((x.uri.size : Int) ≤ 40) = decide (x.uri.size ≤ 40) := by rw [Bool.eq_iff_iff]; simp; omega
  rw [e]
set_option maxRecDepth 100000 in
set_option maxHeartbeats 4000000 in
theorem spec_l5attr (x : Att) (w : World) (hx : x.fits) : Calls Try.prog 115 #[.agg #[.string x.pre, .string x.loc, .string x.uri, .string x.val]] w fun e w' => e = .returned (.bool (attB x)) ∧ Below w.heap.size w w' := by
  obtain ⟨z1, z2, z3, z4⟩ := hx
  rw [att_parts]
  have H1 : Hid (∀ w, _) := fun w => spec_l5pre x.pre w z1
  have H2 : Hid (∀ w, _) := fun w => names.spec_plain x.loc w z2
  have H3 : Hid (∀ w, _) := fun w => scans.spec_text x.val w z4
  have H4 : Hid (∀ w, _) := fun w => scans.spec_text x.uri w z3
  unfold maxLen at z1 z2 z3 z4
  go_enter Try.func115, Try.ntmps115
  go_wp2_with fail
  refine (H1.out _).mono ?_
  rintro e w1 ⟨rfl, hb1⟩
  have HB1 : Hid _ := box_under hb1
  have HX1 : Hid _ := box_kept hb1
  obtain ⟨b0, b1, b2, b3⟩ := box4 HX1.out
  clear hb1 H1
  cases h1 : l5PreB x.pre
  · go_wp2
    go_ret
    exact ⟨ret_bool (by rw [h1]; rfl), HB1.out⟩
  · cases h2 : x.pre.toList.isEmpty <;> cases h3 : x.uri.toList.isEmpty
    · go_wp2_with fail
      refine (H2.out _).mono ?_
      rintro e w2 ⟨rfl, hb2⟩
      have HB2 : Hid _ := HB1.out.trans (hb2.mono HB1.out.size)
      have HX2 : Hid _ := (hb2.block _ (pairs.lt_heap HX1.out)).trans HX1.out
      clear b0 b1 b2 b3 hb2 H2
      obtain ⟨b0, b1, b2, b3⟩ := box4 HX2.out
      cases h4 : names.plainB x.loc
      · go_wp2
        go_ret
        exact ⟨ret_bool (by rw [h1, h2, h3, h4]; rfl), HB2.out⟩
      · cases h5 : textB x.val
        · have h5' : (decide (x.val.size ≤ 600) && scans.signs x.val) = false := h5
          rw [h5'] at H3
          go_wp2_with fail
          refine (H3.out _).mono ?_
          rintro e w3 ⟨rfl, hw1⟩
          have hw2 := hw1.symm
          clear hw1
          subst hw2
          go_wp2
          go_ret
          exact ⟨ret_bool (by rw [h1, h2, h3, h4, h5]; rfl), HB2.out⟩
        · have h5' : (decide (x.val.size ≤ 600) && scans.signs x.val) = true := h5
          rw [h5'] at H3
          go_wp2_with fail
          refine (H3.out _).mono ?_
          rintro e w3 ⟨rfl, hw1⟩
          have hw2 := hw1.symm
          clear hw1
          subst hw2
          cases h6 : textB x.uri
          · have h6' : (decide (x.uri.size ≤ 600) && scans.signs x.uri) = false := h6
            rw [h6'] at H4
            go_wp2_with fail
            refine (H4.out _).mono ?_
            rintro e w3 ⟨rfl, hw1⟩
            have hw2 := hw1.symm
            clear hw1
            subst hw2
            go_wp2
            go_ret
            exact ⟨ret_bool (by rw [h1, h2, h3, h4, h5, h6]; rfl), HB2.out⟩
          · have h6' : (decide (x.uri.size ≤ 600) && scans.signs x.uri) = true := h6
            rw [h6'] at H4
            go_wp2_with fail
            refine (H4.out _).mono ?_
            rintro e w3 ⟨rfl, hw1⟩
            have hw2 := hw1.symm
            clear hw1
            subst hw2
            go_wp2
            go_ret
            exact ⟨ret_bool (by rw [h1, h2, h3, h4, h5, h6]; simp), HB2.out⟩
    · go_wp2
      go_ret
      exact ⟨ret_bool (by rw [h1, h2, h3]; rfl), HB1.out⟩
    · go_wp2
      go_ret
      exact ⟨ret_bool (by rw [h1, h2, h3]; rfl), HB1.out⟩
    · go_wp2_with fail
      refine (H2.out _).mono ?_
      rintro e w2 ⟨rfl, hb2⟩
      have HB2 : Hid _ := HB1.out.trans (hb2.mono HB1.out.size)
      have HX2 : Hid _ := (hb2.block _ (pairs.lt_heap HX1.out)).trans HX1.out
      clear b0 b1 b2 b3 hb2 H2
      obtain ⟨b0, b1, b2, b3⟩ := box4 HX2.out
      cases h4 : names.plainB x.loc
      · go_wp2
        go_ret
        exact ⟨ret_bool (by rw [h1, h2, h3, h4]; rfl), HB2.out⟩
      · cases h7 : xmlnsB x.loc
        · have h7' : (x.loc.toList == [120, 109, 108, 110, 115]) = false := h7
          cases h5 : textB x.val
          · have h5' : (decide (x.val.size ≤ 600) && scans.signs x.val) = false := h5
            rw [h5'] at H3
            go_wp2_with fail
            refine (H3.out _).mono ?_
            rintro e w3 ⟨rfl, hw1⟩
            have hw2 := hw1.symm
            clear hw1
            subst hw2
            go_wp2
            go_ret
            exact ⟨ret_bool (by rw [h1, h2, h3, h4, h7, h5]; rfl), HB2.out⟩
          · have h5' : (decide (x.val.size ≤ 600) && scans.signs x.val) = true := h5
            rw [h5'] at H3
            go_wp2_with fail
            refine (H3.out _).mono ?_
            rintro e w3 ⟨rfl, hw1⟩
            have hw2 := hw1.symm
            clear hw1
            subst hw2
            cases h6 : textB x.uri
            · have h6' : (decide (x.uri.size ≤ 600) && scans.signs x.uri) = false := h6
              rw [h6'] at H4
              go_wp2_with fail
              refine (H4.out _).mono ?_
              rintro e w3 ⟨rfl, hw1⟩
              have hw2 := hw1.symm
              clear hw1
              subst hw2
              go_wp2
              go_ret
              exact ⟨ret_bool (by rw [h1, h2, h3, h4, h7, h5, h6]; rfl), HB2.out⟩
            · have h6' : (decide (x.uri.size ≤ 600) && scans.signs x.uri) = true := h6
              rw [h6'] at H4
              go_wp2_with fail
              refine (H4.out _).mono ?_
              rintro e w3 ⟨rfl, hw1⟩
              have hw2 := hw1.symm
              clear hw1
              subst hw2
              go_wp2
              go_ret
              exact ⟨ret_bool (by rw [h1, h2, h3, h4, h7, h5, h6]; simp), HB2.out⟩
        · have h7' : (x.loc.toList == [120, 109, 108, 110, 115]) = true := h7
          go_wp2
          go_ret
          exact ⟨ret_bool (by rw [h1, h2, h3, h4, h7]; rfl), HB2.out⟩
end Go.Proofs.Ytpejcblmglbjfaa.trees
namespace Go.Proofs.Ytpejcblmglbjfaa.escs
open Go.RowKit
set_option linter.unusedVariables false

/-- What stands for a byte. -/
def escA (attr : Bool) (b : Int) (own : ByteArray) : ByteArray :=
  if b = 38 then ⟨#[38, 97, 109, 112, 59]⟩ else if b = 60 then ⟨#[38, 108, 116, 59]⟩ else if b = 62 then ⟨#[38, 103, 116, 59]⟩ else if b = 13 then ⟨#[38, 35, 49, 51, 59]⟩ else
  if attr = true ∧ b = 34 then ⟨#[38, 113, 117, 111, 116, 59]⟩ else if attr = true ∧ b = 9 then ⟨#[38, 35, 57, 59]⟩ else if attr = true ∧ b = 10 then ⟨#[38, 35, 49, 48, 59]⟩ else own
theorem escA_own {attr : Bool} {b : Int} (own : ByteArray) (h1 : b ≠ 38) (h2 : b ≠ 60) (h3 : b ≠ 62) (h4 : b ≠ 13) (h5 : ¬ (attr = true ∧ b = 34)) (h6 : ¬ (attr = true ∧ b = 9)) (h7 : ¬ (attr = true ∧ b = 10)) : escA attr b own = own := by
  unfold escA; rw [if_neg h1, if_neg h2, if_neg h3, if_neg h4, if_neg h5, if_neg h6, if_neg h7]
def byteAt (s : ByteArray) (i : Nat) : Int := ((s.get! i).toNat : Int)
theorem byteAt_range (s : ByteArray) (i : Nat) : 0 ≤ byteAt s i ∧ byteAt s i ≤ 255 := by
  have := (s.get! i).toNat_lt
  unfold byteAt
  omega
def escAt (attr : Bool) (s : ByteArray) (i : Nat) : ByteArray := escA attr (byteAt s i) (s.extract i (i + 1))
def escT (attr : Bool) (s : ByteArray) : Nat → ByteArray
  | 0 => ⟨#[]⟩
  | k + 1 => escT attr s k ++ escAt attr s k
def escS (attr : Bool) (s : ByteArray) : ByteArray := escT attr s s.size
theorem escA_size (attr : Bool) (b : Int) (own : ByteArray) (h : own.size ≤ 1) : (escA attr b own).size ≤ 6 := by
  unfold escA
  repeat' split
  all_goals first | exact Nat.le_trans h (by decide) | decide
theorem escAt_size (attr : Bool) (s : ByteArray) (i : Nat) : (escAt attr s i).size ≤ 6 := escA_size _ _ _ (by rw [ByteArray.size_extract]; omega)
theorem escT_size (attr : Bool) (s : ByteArray) : ∀ k, (escT attr s k).size ≤ 6 * k
  | 0 => Nat.zero_le _
  | k + 1 => by
    rw [escT, ByteArray.size_append]
    have := escT_size attr s k
    have := escAt_size attr s k
    omega
/-! ### Line ends -/
/-- What a byte leaves: of a byte 13 nothing, if a byte 10 stands behind it, else a byte 10. -/
def normAt (s : ByteArray) (i : Nat) : List Int := if byteAt s i ≠ 13 then [byteAt s i] else if i + 1 = s.size ∨ byteAt s (i + 1) ≠ 10 then [10] else []
def normT (s : ByteArray) : Nat → List Int
  | 0 => []
  | k + 1 => normT s k ++ normAt s k
def normS (s : ByteArray) : ByteArray := strOfNums (normT s s.size)
theorem normAt_len (s : ByteArray) (i : Nat) : (normAt s i).length ≤ 1 := by
  unfold normAt
  repeat' split
  all_goals simp
theorem normT_len (s : ByteArray) : ∀ k, (normT s k).length ≤ k
  | 0 => Nat.zero_le _
  | k + 1 => by
    rw [normT, List.length_append]
    have := normT_len s k
    have := normAt_len s k
    omega
theorem get_of (s : ByteArray) (i : Nat) (h : i < s.size) : s.get! i = s[i] := by
  obtain ⟨a⟩ := s
  show a[i]! = _
  exact getElem!_pos a i h
theorem idx (s : ByteArray) (j : Nat) (h : j < s.size) (W : World) : (Instr.index 9 (.string s) (.int .i64 (j : Int))).run Try.prog W = .ok (.int .u8 (byteAt s j)) W := by
  rw [run_index_string W 9 s .i64 j Try.underlying9, dif_pos ⟨by omega, by omega⟩]
  unfold byteAt
  rw [get_of s j h]
  simp
theorem cut (s : ByteArray) (i j : Nat) (h : i ≤ j) (h2 : j ≤ s.size) (W : World) : (Instr.slice 9 (.string s) (some (.int .i64 (i : Int))) (some (.int .i64 (j : Int))) none).run Try.prog W = .ok (.string (s.extract i j)) W := by
  have := run_slice_string (P := Try.prog) (w := W) 9 s .i64 .i64 (i : Int) (j : Int) Try.underlying9 (by omega) (by omega) (by omega)
  simpa using this
theorem cut1 (s : ByteArray) (i : Nat) (h : i < s.size) (W : World) : (Instr.slice 9 (.string s) (some (.int .i64 (i : Int))) (some (.int .i64 ((i : Int) + 1))) none).run Try.prog W = .ok (.string (s.extract i (i + 1))) W := cut s i (i + 1) (by omega) (by omega) W
end Go.Proofs.Ytpejcblmglbjfaa.escs
namespace Go.Proofs.Ytpejcblmglbjfaa.trees
open Go.ChangeShapes Go.WideShapes Go.ChangeAt Go.RowKit
open scopes (ret_bool)
open escs (byteAt)
set_option linter.unusedVariables false
def anyB (z a b : Int) : Bool := (z == a) || (z == b)
def xmlAnyB (s : ByteArray) : Bool := decide (s.size = 3) && (anyB (byteAt s 0) 120 88 && (anyB (byteAt s 1) 109 77 && anyB (byteAt s 2) 108 76))
set_option maxRecDepth 100000 in
set_option maxHeartbeats 2000000 in
theorem spec_l5xml (s : ByteArray) (w : World) (hs : s.size ≤ maxLen) : Calls Try.prog 118 #[.string s] w fun e w' => e = .returned (.bool (xmlAnyB s)) ∧ Below w.heap.size w w' := by
  by_cases h3 : s.size = 3
  · have hx0 := escs.idx s 0 (by omega)
    have hx1 := escs.idx s 1 (by omega)
    have hx2 := escs.idx s 2 (by omega)
    have HF : Hid (xmlAnyB s = (anyB (byteAt s 0) 120 88 && (anyB (byteAt s 1) 109 77 && anyB (byteAt s 2) 108 76))) := by show _ = _; unfold xmlAnyB; rw [decide_eq_true h3, Bool.true_and]
    rw [HF.out]
    have q : ((s.size : Int) != 3) = false := by simpa using (show (s.size : Int) = 3 by omega)
    have q' : ((s.size : Int) == 3) = true := by simpa using (show (s.size : Int) = 3 by omega)
    generalize byteAt s 0 = z0 at hx0
    generalize byteAt s 1 = z1 at hx1
    generalize byteAt s 2 = z2 at hx2
    have HX0 : ∀ W, (Instr.index 9 (.string s) (.int .i64 0)).run Try.prog W = .ok (.int .u8 z0) W := hx0
    have HX1 : ∀ W, (Instr.index 9 (.string s) (.int .i64 1)).run Try.prog W = .ok (.int .u8 z1) W := hx1
    have HX2 : ∀ W, (Instr.index 9 (.string s) (.int .i64 2)).run Try.prog W = .ok (.int .u8 z2) W := hx2
    clear hx0 hx1 hx2 h3 HF hs
    unfold anyB
    cases e0 : (z0 == 120) <;> cases f0 : (z0 == 88) <;> cases e1 : (z1 == 109) <;> cases f1 : (z1 == 77) <;> cases e2 : (z2 == 108)
    all_goals
      go_enter Try.func118, Try.ntmps118
      go_wp2
      go_ret
      exact ⟨ret_bool (by simp), Below.refl _ _⟩
  · have q : ((s.size : Int) != 3) = true := by simpa using (show ¬ (s.size : Int) = 3 by omega)
    have HF : Hid (xmlAnyB s = false) := by show _ = _; unfold xmlAnyB; rw [decide_eq_false h3, Bool.false_and]
    clear h3 hs
    go_enter Try.func118, Try.ntmps118
    go_wp2
    go_ret
    exact ⟨ret_bool HF.out.symm, Below.refl _ _⟩
end Go.Proofs.Ytpejcblmglbjfaa.trees
namespace Go.Proofs.Ytpejcblmglbjfaa.trees
open Go.ChangeShapes Go.WideShapes Go.ChangeAt Go.RowKit
open pairs (Pair at0 PairsAt)
open scopes (xmlB textB declsB ret_bool)
open escs (byteAt)
set_option linter.unusedVariables false
def textOneB (t : Tree) : Bool := bareB t && (t.loc.toList.isEmpty && (!t.text.toList.isEmpty && textB t.text))
def lastB (x : ByteArray) : Bool := x.toList.isEmpty || !(byteAt x (x.size - 1) == 45)
def firstB (x : ByteArray) : Bool := x.toList.isEmpty || !blanks.blkB (byteAt x 0)
def noteOneB (t : Tree) : Bool := bareB t && (t.loc.toList.isEmpty && (textB t.text && (!hasB t.text ⟨#[45, 45]⟩ && (!hasB t.text ⟨#[13]⟩ && lastB t.text))))
def toldOneB (t : Tree) : Bool := bareB t && (names.plainB t.loc && (!xmlAnyB t.loc && (textB t.text && (!hasB t.text ⟨#[63, 62]⟩ && (!hasB t.text ⟨#[13]⟩ && firstB t.text)))))
theorem bare_flat {p l u x : ByteArray} {ds : List Pair} {ats : List Att} {ks : List Tree} {da : Option Addr} {dc : Nat} {aa : Option Addr} {ac : Nat} {ka : Option Addr} {kc : Nat} (k : Int) (b : Bool) (h : bareB (.mk k p l u x ds ats ks) = b) (w : World) : Calls Try.prog 116 #[.agg #[.int .i64 k, .string p, .string l, .string u, .slice da ds.length dc, .slice aa ats.length ac, .slice ka ks.length kc, .string x]] w fun e w' => e = .returned (.bool b) ∧ Below w.heap.size w w' := by
  have := spec_l5bare (.mk k p l u x ds ats ks) ⟨da, dc, aa, ac, ka, kc⟩ w
  rw [h] at this
  exact this
theorem text_flat (s : ByteArray) (b : Bool) (hs : s.size ≤ maxLen) (h : textB s = b) (w : World) : Calls Try.prog 113 #[.string s] w fun e w' => e = .returned (.bool b) ∧ w' = w := by
  have := scans.spec_text s w hs
  rw [show (decide (s.size ≤ 600) && scans.signs s) = b from h] at this
  exact this
theorem has_flat (s t : ByteArray) (b : Bool) (hs : s.size ≤ 1048576) (ht : t.size ≤ 1048576) (h : hasB s t = b) (w : World) : Calls Try.prog 117 #[.string s, .string t] w fun e w' => e = .returned (.bool b) ∧ w' = w := by rw [← h]; exact spec_l5has s t w hs ht
theorem plain_flat (s : ByteArray) (b : Bool) (hs : s.size ≤ maxLen) (h : names.plainB s = b) (w : World) : Calls Try.prog 112 #[.string s] w fun e w' => e = .returned (.bool b) ∧ Below w.heap.size w w' := by rw [← h]; exact names.spec_plain s w hs
theorem xml_flat (s : ByteArray) (b : Bool) (hs : s.size ≤ maxLen) (h : xmlAnyB s = b) (w : World) : Calls Try.prog 118 #[.string s] w fun e w' => e = .returned (.bool b) ∧ Below w.heap.size w w' := by rw [← h]; exact spec_l5xml s w hs
/-- What l5One says of a node. -/
def OneOk (t : Tree) (h : Hdr) (w : World) (b : Bool) : Prop :=
  Calls Try.prog 110 #[.agg (vals t h)] w fun e w' => e = .returned (.bool b) ∧ Below w.heap.size w w'
set_option maxRecDepth 100000 in
set_option maxHeartbeats 2000000 in
theorem one_text (p l u x : ByteArray) (ds : List Pair) (ats : List Att) (ks : List Tree) (h : Hdr) (w : World) (hx : x.size ≤ maxLen) : OneOk (.mk 2 p l u x ds ats ks) h w (textOneB (.mk 2 p l u x ds ats ks)) := by
  obtain ⟨da, dc, aa, ac, ka, kc⟩ := h
  have HF : Hid (textOneB (.mk 2 p l u x ds ats ks) = (bareB (.mk 2 p l u x ds ats ks) && (l.toList.isEmpty && (!x.toList.isEmpty && textB x)))) := rfl
  unfold OneOk
  simp only [vals, Tree.kind, Tree.pre, Tree.loc, Tree.uri, Tree.text, Tree.ds, Tree.ats, Tree.kids]
  obtain ⟨bb, hbb⟩ : ∃ bb, bareB (.mk 2 p l u x ds ats ks) = bb := ⟨_, rfl⟩
  have HB0 : Hid (∀ w, _) := bare_flat (p := p) (l := l) (u := u) (x := x) (ds := ds) (ats := ats) (ks := ks) (da := da) (dc := dc) (aa := aa) (ac := ac) (ka := ka) (kc := kc) 2 bb hbb
  rw [hbb] at HF
  obtain ⟨tb, htb⟩ : ∃ tb, textB x = tb := ⟨_, rfl⟩
  have HT : Hid (∀ w, _) := text_flat x tb hx htb
  rw [htb] at HF
  generalize textOneB (.mk 2 p l u x ds ats ks) = res at HF ⊢
  clear hbb htb
  go_enter Try.func110, Try.ntmps110
  go_wp2_with fail
  refine (HB0.out _).mono ?_
  rintro e w1 ⟨rfl, hb1⟩
  have HB : Hid _ := box_under hb1
  have HX : Hid _ := box_kept hb1
  obtain ⟨b0, b1, b2, b3, b4, b5, b6, b7⟩ := box8 HX.out
  clear hb1 HB0
  cases bb
  · go_wp2
    go_ret
    exact ⟨ret_bool HF.out.symm, HB.out⟩
  · cases h1 : l.toList.isEmpty
    · rw [h1] at HF
      go_wp2
      go_ret
      exact ⟨ret_bool HF.out.symm, HB.out⟩
    · rw [h1] at HF
      cases h2 : x.toList.isEmpty
      · rw [h2] at HF
        go_wp2_with fail
        refine (HT.out _).mono ?_
        rintro e wq ⟨rfl, hw1⟩
        have hw2 := hw1.symm
        clear hw1
        subst hw2
        go_wp2
        go_ret
        exact ⟨ret_bool HF.out.symm, HB.out⟩
      · rw [h2] at HF
        go_wp2
        go_ret
        exact ⟨ret_bool HF.out.symm, HB.out⟩
theorem not_empty {x : ByteArray} (h : x.toList.isEmpty = false) : 0 < x.size := by
  rcases Nat.eq_zero_or_pos x.size with h0 | h0
  · have : x.toList = [] := by rw [ByteArray.toList_eq]; exact List.length_eq_zero_iff.1 (by simpa using h0)
    rw [this] at h
    cases h
  · exact h0
theorem last_idx {x : ByteArray} (h : x.toList.isEmpty = false) : (∀ z, z = byteAt x (x.size - 1) → ∀ W, (Instr.index 9 (.string x) (.int .i64 ((x.size : Int) - 1))).run Try.prog W = .ok (.int .u8 z) W) ∧ ∃ z, z = byteAt x (x.size - 1) ∧ 0 ≤ z := by
  have h0 := not_empty h
  refine ⟨fun z hz W => ?_, _, rfl, (escs.byteAt_range x _).1⟩
  have := escs.idx x (x.size - 1) (by omega) W
  rw [show ((x.size - 1 : Nat) : Int) = (x.size : Int) - 1 by omega] at this
  rw [hz]
  exact this
set_option maxRecDepth 100000 in
set_option maxHeartbeats 4000000 in
theorem one_note (p l u x : ByteArray) (ds : List Pair) (ats : List Att) (ks : List Tree) (h : Hdr) (w : World) (hl : l.size ≤ maxLen) (hx : x.size ≤ 1048576) : OneOk (.mk 3 p l u x ds ats ks) h w (noteOneB (.mk 3 p l u x ds ats ks)) := by
  obtain ⟨da, dc, aa, ac, ka, kc⟩ := h
  have hxm : x.size ≤ maxLen := by unfold maxLen; omega
  have HF : Hid (noteOneB (.mk 3 p l u x ds ats ks) = (bareB (.mk 3 p l u x ds ats ks) && (l.toList.isEmpty && (textB x && (!hasB x ⟨#[45, 45]⟩ && (!hasB x ⟨#[13]⟩ && (x.toList.isEmpty || !(byteAt x (x.size - 1) == 45)))))))) := rfl
  unfold OneOk
  simp only [vals, Tree.kind, Tree.pre, Tree.loc, Tree.uri, Tree.text, Tree.ds, Tree.ats, Tree.kids]
  obtain ⟨bb, hbb⟩ : ∃ bb, bareB (.mk 3 p l u x ds ats ks) = bb := ⟨_, rfl⟩
  have HB0 : Hid (∀ w, _) := bare_flat (p := p) (l := l) (u := u) (x := x) (ds := ds) (ats := ats) (ks := ks) (da := da) (dc := dc) (aa := aa) (ac := ac) (ka := ka) (kc := kc) 3 bb hbb
  rw [hbb] at HF
  obtain ⟨tb, htb⟩ : ∃ q, textB x = q := ⟨_, rfl⟩
  have HT : Hid (∀ w, _) := text_flat x tb hxm htb
  rw [htb] at HF
  clear htb
  obtain ⟨q1, hq1⟩ : ∃ q, hasB x ⟨#[45, 45]⟩ = q := ⟨_, rfl⟩
  have HQ1 : Hid (∀ w, _) := has_flat x ⟨#[45, 45]⟩ q1 hx (by decide) hq1
  rw [hq1] at HF
  clear hq1
  obtain ⟨q2, hq2⟩ : ∃ q, hasB x ⟨#[13]⟩ = q := ⟨_, rfl⟩
  have HQ2 : Hid (∀ w, _) := has_flat x ⟨#[13]⟩ q2 hx (by decide) hq2
  rw [hq2] at HF
  clear hq2
  generalize noteOneB (.mk 3 p l u x ds ats ks) = res at HF ⊢
  clear hbb
  go_enter Try.func110, Try.ntmps110
  go_wp2_with fail
  refine (HB0.out _).mono ?_
  rintro e w1 ⟨rfl, hb1⟩
  have HB : Hid _ := box_under hb1
  have HX : Hid _ := box_kept hb1
  obtain ⟨b0, b1, b2, b3, b4, b5, b6, b7⟩ := box8 HX.out
  clear hb1 HB0
  cases bb
  · go_wp2
    go_ret
    exact ⟨ret_bool HF.out.symm, HB.out⟩
  · cases h1 : l.toList.isEmpty
    · rw [h1] at HF
      go_wp2
      go_ret
      exact ⟨ret_bool HF.out.symm, HB.out⟩
    · rw [h1] at HF
      go_wp2_with fail
      refine (HT.out _).mono ?_
      rintro e wq ⟨rfl, hw1⟩
      have hw2 := hw1.symm
      clear hw1
      subst hw2
      cases tb
      · go_wp2
        go_ret
        exact ⟨ret_bool HF.out.symm, HB.out⟩
      · go_wp2_with fail
        refine (HQ1.out _).mono ?_
        rintro e wq ⟨rfl, hw1⟩
        have hw2 := hw1.symm
        clear hw1
        subst hw2
        cases q1
        · go_wp2_with fail
          refine (HQ2.out _).mono ?_
          rintro e wq ⟨rfl, hw1⟩
          have hw2 := hw1.symm
          clear hw1
          subst hw2
          cases q2
          · cases h9 : x.toList.isEmpty
            · rw [h9, Bool.false_or] at HF
              obtain ⟨hx0, z, hz, hzr⟩ := last_idx h9
              have hx1 := hx0 z hz
              clear hx0
              rw [← hz] at HF
              clear hz
              go_wp2
              go_ret
              exact ⟨ret_bool (by rw [HF.out]; rfl), HB.out⟩
            · rw [h9, Bool.true_or] at HF
              go_wp2
              go_ret
              exact ⟨ret_bool HF.out.symm, HB.out⟩
          · go_wp2
            go_ret
            exact ⟨ret_bool HF.out.symm, HB.out⟩
        · go_wp2
          go_ret
          exact ⟨ret_bool HF.out.symm, HB.out⟩
set_option maxRecDepth 100000 in
set_option maxHeartbeats 4000000 in
theorem one_told (p l u x : ByteArray) (ds : List Pair) (ats : List Att) (ks : List Tree) (h : Hdr) (w : World) (hl : l.size ≤ maxLen) (hx : x.size ≤ 1048576) : OneOk (.mk 4 p l u x ds ats ks) h w (toldOneB (.mk 4 p l u x ds ats ks)) := by
  obtain ⟨da, dc, aa, ac, ka, kc⟩ := h
  have hxm : x.size ≤ maxLen := by unfold maxLen; omega
  have HF : Hid (toldOneB (.mk 4 p l u x ds ats ks) = (bareB (.mk 4 p l u x ds ats ks) && (names.plainB l && (!xmlAnyB l && (textB x && (!hasB x ⟨#[63, 62]⟩ && (!hasB x ⟨#[13]⟩ && (x.toList.isEmpty || !blanks.blkB (byteAt x 0))))))))) := rfl
  unfold OneOk
  simp only [vals, Tree.kind, Tree.pre, Tree.loc, Tree.uri, Tree.text, Tree.ds, Tree.ats, Tree.kids]
  obtain ⟨bb, hbb⟩ : ∃ bb, bareB (.mk 4 p l u x ds ats ks) = bb := ⟨_, rfl⟩
  have HB0 : Hid (∀ w, _) := bare_flat (p := p) (l := l) (u := u) (x := x) (ds := ds) (ats := ats) (ks := ks) (da := da) (dc := dc) (aa := aa) (ac := ac) (ka := ka) (kc := kc) 4 bb hbb
  rw [hbb] at HF
  obtain ⟨pb, hpb⟩ : ∃ q, names.plainB l = q := ⟨_, rfl⟩
  have HPL : Hid (∀ w, _) := plain_flat l pb hl hpb
  rw [hpb] at HF
  clear hpb
  obtain ⟨xb, hxb⟩ : ∃ q, xmlAnyB l = q := ⟨_, rfl⟩
  have HXM : Hid (∀ w, _) := xml_flat l xb hl hxb
  rw [hxb] at HF
  clear hxb
  obtain ⟨tb, htb⟩ : ∃ q, textB x = q := ⟨_, rfl⟩
  have HT : Hid (∀ w, _) := text_flat x tb hxm htb
  rw [htb] at HF
  clear htb
  obtain ⟨q1, hq1⟩ : ∃ q, hasB x ⟨#[63, 62]⟩ = q := ⟨_, rfl⟩
  have HQ1 : Hid (∀ w, _) := has_flat x ⟨#[63, 62]⟩ q1 hx (by decide) hq1
  rw [hq1] at HF
  clear hq1
  obtain ⟨q2, hq2⟩ : ∃ q, hasB x ⟨#[13]⟩ = q := ⟨_, rfl⟩
  have HQ2 : Hid (∀ w, _) := has_flat x ⟨#[13]⟩ q2 hx (by decide) hq2
  rw [hq2] at HF
  clear hq2
  generalize toldOneB (.mk 4 p l u x ds ats ks) = res at HF ⊢
  clear hbb
  go_enter Try.func110, Try.ntmps110
  go_wp2_with fail
  refine (HB0.out _).mono ?_
  rintro e w1 ⟨rfl, hb1⟩
  have HB : Hid _ := box_under hb1
  have HX : Hid _ := box_kept hb1
  obtain ⟨b0, b1, b2, b3, b4, b5, b6, b7⟩ := box8 HX.out
  clear hb1 HB0
  cases bb
  · go_wp2
    go_ret
    exact ⟨ret_bool HF.out.symm, HB.out⟩
  · go_wp2_with fail
    refine (HPL.out _).mono ?_
    rintro e wb ⟨rfl, hb⟩
    have HBn : Hid _ := HB.out.trans (hb.mono HB.out.size)
    have HXn : Hid _ := (hb.block _ (pairs.lt_heap HX.out)).trans HX.out
    clear HB HX hb b0 b1 b2 b3 b4 b5 b6 b7
    have HB : Hid _ := HBn
    have HX : Hid _ := HXn
    clear HBn HXn
    obtain ⟨b0, b1, b2, b3, b4, b5, b6, b7⟩ := box8 HX.out
    cases pb
    · go_wp2
      go_ret
      exact ⟨ret_bool HF.out.symm, HB.out⟩
    · go_wp2_with fail
      refine (HXM.out _).mono ?_
      rintro e wb ⟨rfl, hb⟩
      have HBn : Hid _ := HB.out.trans (hb.mono HB.out.size)
      have HXn : Hid _ := (hb.block _ (pairs.lt_heap HX.out)).trans HX.out
      clear HB HX hb b0 b1 b2 b3 b4 b5 b6 b7
      have HB : Hid _ := HBn
      have HX : Hid _ := HXn
      clear HBn HXn
      obtain ⟨b0, b1, b2, b3, b4, b5, b6, b7⟩ := box8 HX.out
      cases xb
      · go_wp2_with fail
        refine (HT.out _).mono ?_
        rintro e wq ⟨rfl, hw1⟩
        have hw2 := hw1.symm
        clear hw1
        subst hw2
        cases tb
        · go_wp2
          go_ret
          exact ⟨ret_bool HF.out.symm, HB.out⟩
        · go_wp2_with fail
          refine (HQ1.out _).mono ?_
          rintro e wq ⟨rfl, hw1⟩
          have hw2 := hw1.symm
          clear hw1
          subst hw2
          cases q1
          · go_wp2_with fail
            refine (HQ2.out _).mono ?_
            rintro e wq ⟨rfl, hw1⟩
            have hw2 := hw1.symm
            clear hw1
            subst hw2
            cases q2
            · cases h9 : x.toList.isEmpty
              · rw [h9, Bool.false_or] at HF
                have hx0 : ∀ W, (Instr.index 9 (.string x) (.int .i64 0)).run Try.prog W = .ok (.int .u8 (byteAt x 0)) W := escs.idx x 0 (not_empty h9)
                obtain ⟨z, hz⟩ : ∃ z, z = byteAt x 0 := ⟨_, rfl⟩
                have hzr := escs.byteAt_range x 0
                rw [← hz] at hx0 hzr HF
                clear hz
                have HBL : Hid (∀ w, _) := fun w => blanks.spec_blank z w
                go_wp2_with fail
                refine (HBL.out _).mono ?_
                rintro e wq ⟨rfl, hw1⟩
                have hw2 := hw1.symm
                clear hw1
                subst hw2
                go_wp2
                go_ret
                exact ⟨ret_bool (by rw [HF.out]; rfl), HB.out⟩
              · rw [h9, Bool.true_or] at HF
                go_wp2
                go_ret
                exact ⟨ret_bool HF.out.symm, HB.out⟩
            · go_wp2
              go_ret
              exact ⟨ret_bool HF.out.symm, HB.out⟩
          · go_wp2
            go_ret
            exact ⟨ret_bool HF.out.symm, HB.out⟩
      · go_wp2
        go_ret
        exact ⟨ret_bool HF.out.symm, HB.out⟩
end Go.Proofs.Ytpejcblmglbjfaa.trees
namespace Go.Proofs.Ytpejcblmglbjfaa.trees
open Go.RowKit
open pairs (Pair at0 PairsAt)
open scopes (spaceR)
set_option linter.unusedVariables false
def fitB (L : List Pair) (p u : ByteArray) : Bool := (spaceR L p).2 && ((spaceR L p).1.toList == u.toList)
def attFit (L : List Pair) (x : Att) : Bool := x.pre.toList.isEmpty || fitB L x.pre x.uri
def headFit (L : List Pair) (k : Int) (p u : ByteArray) : Bool := !(k == 1) || fitB L p u
def attsFit (L : List Pair) (ats : List Att) : Bool := (List.range ats.length).all fun i => attFit L (att0 ats i)
mutual
def fitsB : Tree → List Pair → Bool
  | .mk k p l u x ds ats ks, L => headFit (L ++ ds) k p u && (attsFit (L ++ ds) ats && fitsAll ks (L ++ ds))
def fitsAll : List Tree → List Pair → Bool
  | [], _ => true
  | t :: ts, L => fitsB t L && fitsAll ts L
end
theorem all_no {n i : Nat} {f : Nat → Bool} (hi : i < n) (h : f i = false) : (List.range n).all f = false := by
  rw [List.all_eq_false]
  exact ⟨i, List.mem_range.2 hi, by rw [h]; decide⟩
theorem all_yes {n : Nat} {f : Nat → Bool} (h : ∀ i, i < n → f i = true) : (List.range n).all f = true := by
  rw [List.all_eq_true]
  exact fun i hi => h i (List.mem_range.1 hi)
theorem upto_more {n : Nat} {f : Nat → Bool} (h : ∀ i, i < n → f i = true) (h1 : f n = true) : ∀ i, i < n + 1 → f i = true := fun i hi => by
  by_cases e : i = n
  · rw [e]; exact h1
  · exact h i (by omega)
theorem fitsAll_range : ∀ (ks : List Tree) (L : List Pair), fitsAll ks L = (List.range ks.length).all fun i => fitsB (kid ks i) L
  | [], L => by rw [fitsAll]; rfl
  | t :: ts, L => by
    rw [fitsAll, fitsAll_range ts L, List.length_cons, List.range_succ_eq_map, List.all_cons, List.all_map]
    rfl
end Go.Proofs.Ytpejcblmglbjfaa.trees
namespace Go.Proofs.Ytpejcblmglbjfaa.trees
open Go.ChangeShapes Go.WideShapes Go.ChangeAt Go.RowKit
open pairs (Pair at0 PairsAt)
open scopes (xmlB textB declsB ret_bool)
set_option linter.unusedVariables false
def ordB (L : List Att) (i : Nat) : Bool := decide (i = 0) || lessB (att0 L (i - 1)) (att0 L i)
def attsB (L : List Att) : Bool := (List.range L.length).all fun i => attB (att0 L i) && ordB L i
def elOneB (t : Tree) : Bool := l5PreB t.pre && (names.plainB t.loc && (t.text.toList.isEmpty && (!(!t.pre.toList.isEmpty && t.uri.toList.isEmpty) && (textB t.uri && (decide ((t.uri.size : Int) ≤ 40) && (declsB t.ds && (decide ((t.ats.length : Int) ≤ 5) && attsB t.ats)))))))
theorem pre_flat (s : ByteArray) (b : Bool) (hs : s.size ≤ maxLen) (h : l5PreB s = b) (w : World) : Calls Try.prog 111 #[.string s] w fun e w' => e = .returned (.bool b) ∧ Below w.heap.size w w' := by rw [← h]; exact spec_l5pre s w hs
theorem decls_flat (a : Option Addr) (L : List Pair) (cap : Nat) (b : Bool) (h : declsB L = b) (w : World) (hL : PairsAt w a L) : Calls Try.prog 114 #[.slice a L.length cap] w fun e w' => e = .returned (.bool b) ∧ Below w.heap.size w w' := by rw [← h]; exact scopes.spec_decls a L cap w hL
set_option maxRecDepth 100000 in
set_option maxHeartbeats 8000000 in
theorem one_el (p l u x : ByteArray) (ds : List Pair) (ats : List Att) (ks : List Tree) (h : Hdr) (B : Nat) (w : World) (hn : NodeIn w B (.mk 1 p l u x ds ats ks) h) : OneOk (.mk 1 p l u x ds ats ks) h w (elOneB (.mk 1 p l u x ds ats ks)) := by
  obtain ⟨da, dc, aa, ac, ka, kc⟩ := h
  have HD : Hid (PairsAt w da ds) := hn.decls
  have HA : Hid (AttsAt w aa ats) := hn.atts
  obtain ⟨-, z1, z2, z3, z4, -⟩ := hn.fit
  simp only [Tree.pre, Tree.loc, Tree.uri, Tree.text] at z1 z2 z3 z4
  have hka : ats.length ≤ 9223372036854775807 := hn.atts.short
  have HF : Hid (elOneB (.mk 1 p l u x ds ats ks) = (l5PreB p && (names.plainB l && (x.toList.isEmpty && (!(!p.toList.isEmpty && u.toList.isEmpty) && (textB u && (decide ((u.size : Int) ≤ 40) && (declsB ds && (decide ((ats.length : Int) ≤ 5) && attsB ats))))))))) := rfl
  unfold OneOk
  simp only [vals, Tree.kind, Tree.pre, Tree.loc, Tree.uri, Tree.text, Tree.ds, Tree.ats, Tree.kids]
  obtain ⟨pb, hpb⟩ : ∃ q, l5PreB p = q := ⟨_, rfl⟩
  have HPR : Hid (∀ w, _) := pre_flat p pb z1 hpb
  obtain ⟨lb, hlb⟩ : ∃ q, names.plainB l = q := ⟨_, rfl⟩
  have HPL : Hid (∀ w, _) := plain_flat l lb z2 hlb
  obtain ⟨ub, hub⟩ : ∃ q, textB u = q := ⟨_, rfl⟩
  have HTU : Hid (∀ w, _) := text_flat u ub z3 hub
  obtain ⟨db, hdb⟩ : ∃ q, declsB ds = q := ⟨_, rfl⟩
  have HDS : Hid (∀ w, _) := decls_flat da ds dc db hdb
  rw [hpb, hlb, hub, hdb] at HF
  generalize elOneB (.mk 1 p l u x ds ats ks) = res at HF ⊢
  have hzu : u.size ≤ 9223372036854775807 := z3
  clear hpb hlb hub hdb hn z1 z2 z3 z4
  go_enter Try.func110, Try.ntmps110
  go_wp2_with fail
  refine (HPR.out _).mono ?_
  rintro e w1 ⟨rfl, hb1⟩
  have HB : Hid _ := box_under hb1
  have HX : Hid _ := box_kept hb1
  obtain ⟨b0, b1, b2, b3, b4, b5, b6, b7⟩ := box8 HX.out
  clear hb1
  cases pb
  · go_wp2
    go_ret
    exact ⟨ret_bool HF.out.symm, HB.out⟩
  · go_wp2_with fail
    refine (HPL.out _).mono ?_
    rintro e wb ⟨rfl, hb⟩
    have HBn : Hid _ := HB.out.trans (hb.mono HB.out.size)
    have HXn : Hid _ := (hb.block _ (pairs.lt_heap HX.out)).trans HX.out
    clear HB HX hb b0 b1 b2 b3 b4 b5 b6 b7
    have HB : Hid _ := HBn
    have HX : Hid _ := HXn
    clear HBn HXn
    obtain ⟨b0, b1, b2, b3, b4, b5, b6, b7⟩ := box8 HX.out
    cases lb
    · go_wp2
      go_ret
      exact ⟨ret_bool HF.out.symm, HB.out⟩
    · cases h2 : x.toList.isEmpty
      · rw [h2] at HF
        go_wp2
        go_ret
        exact ⟨ret_bool HF.out.symm, HB.out⟩
      · rw [h2] at HF
        cases h3 : p.toList.isEmpty
        · cases h4 : u.toList.isEmpty
          · rw [h3, h4] at HF
            go_wp2_with fail
            refine (HTU.out _).mono ?_
            rintro e wq ⟨rfl, hw1⟩
            have hw2 := hw1.symm
            clear hw1
            subst hw2
            cases ub
            · go_wp2
              go_ret
              exact ⟨ret_bool HF.out.symm, HB.out⟩
            · cases h5 : decide ((u.size : Int) ≤ 40)
              · rw [h5] at HF
                have h5' := of_decide_eq_false h5
                go_wp2
                go_ret
                exact ⟨ret_bool HF.out.symm, HB.out⟩
              · rw [h5] at HF
                have h5' := of_decide_eq_true h5
                go_wp2_with fail
                refine (HDS.out _ (HD.out.below (Nat.le_refl _) HB.out)).mono ?_
                rintro e wb ⟨rfl, hb⟩
                have HBn : Hid _ := HB.out.trans (hb.mono HB.out.size)
                have HXn : Hid _ := (hb.block _ (pairs.lt_heap HX.out)).trans HX.out
                clear HB HX hb b0 b1 b2 b3 b4 b5 b6 b7
                have HB : Hid _ := HBn
                have HX : Hid _ := HXn
                clear HBn HXn
                obtain ⟨b0, b1, b2, b3, b4, b5, b6, b7⟩ := box8 HX.out
                cases db
                · go_wp2
                  go_ret
                  exact ⟨ret_bool HF.out.symm, HB.out⟩
                · cases h6 : decide ((ats.length : Int) ≤ 5)
                  · rw [h6] at HF
                    have h6' := of_decide_eq_false h6
                    go_wp2
                    go_ret
                    exact ⟨ret_bool HF.out.symm, HB.out⟩
                  · rw [h6] at HF
                    have h6' := of_decide_eq_true h6
                    go_wp2_with fail
                    go_loopw [3] (fun t wr => ∃ i : Nat, i ≤ ats.length ∧ t = .int .i64 i ∧ Hid (∀ j, j < i → (attB (att0 ats j) && ordB ats j) = true) ∧ Hid (Below w.heap.size w wr) ∧ Hid (wr.heap[w.heap.size]? = some (.cells #[.int .i64 1, .string p, .string l, .string u, .slice da ds.length dc, .slice aa ats.length ac, .slice ka ks.length kc, .string x] 28 (0, 0)))) (fun t _ => ats.length - (intOf t).toNat)
                    case atStart => exact ⟨0, Nat.zero_le _, rfl, (fun j hj => by omega), HB, HX⟩
                    case round =>
                      clear HB HX b0 b1 b2 b3 b4 b5 b6 b7
                      obtain ⟨i, hi, rfl, hup, hbw, hxw⟩ := hrel
                      obtain ⟨b0, b1, b2, b3, b4, b5, b6, b7⟩ := box8 hxw.out
                      by_cases hlt : i < ats.length
                      · obtain ⟨b, off, ha, hblt, hc⟩ := (HA.out.below (Nat.le_refl _) hbw.out).row (by omega)
                        have hx : ∀ W, Below wr.heap.size wr W → W.cell? ⟨w.heap.size, 5, none⟩ = some (.slice aa ats.length ac) := fun W h => (box8 ((h.block _ (pairs.lt_heap hxw.out)).trans hxw.out)).2.2.2.2.2.1
                        have hl : ∀ W, Below wr.heap.size wr W → W.cell? ⟨b, off + i * 4, none⟩ = some (.string (att0 ats i).pre) ∧ W.cell? ⟨b, off + i * 4 + 1, none⟩ = some (.string (att0 ats i).loc) ∧ W.cell? ⟨b, off + i * 4 + 2, none⟩ = some (.string (att0 ats i).uri) ∧ W.cell? ⟨b, off + i * 4 + 3, none⟩ = some (.string (att0 ats i).val) := fun W h => by
                          rw [h.cell (p := ⟨b, off + i * 4, none⟩) hblt, h.cell (p := ⟨b, off + i * 4 + 1, none⟩) hblt, h.cell (p := ⟨b, off + i * 4 + 2, none⟩) hblt, h.cell (p := ⟨b, off + i * 4 + 3, none⟩) hblt]
                          exact hc i hlt
                        have hE := fun w => spec_l5attr (att0 ats i) w (HA.out.texts i hlt)
                        have hilt : (i : Int) < ats.length := by omega
                        have hno : (attB (att0 ats i) && ordB ats i) = false → attsB ats = false := fun h => all_no (f := fun i => attB (att0 ats i) && ordB ats i) hlt h
                        have hmo := fun h => upto_more (f := fun i => attB (att0 ats i) && ordB ats i) hup.out h
                        have HNO : Hid (∀ h, _) := hno
                        have HMO : Hid (∀ h, _) := hmo
                        subst ha
                        clear hno hmo
                        by_cases hz : 0 < i
                        · obtain ⟨j, rfl⟩ : ∃ j, i = j + 1 := ⟨i - 1, by omega⟩
                          have hp : ∀ W, Below wr.heap.size wr W → W.cell? ⟨b, off + j * 4, none⟩ = some (.string (att0 ats j).pre) ∧ W.cell? ⟨b, off + j * 4 + 1, none⟩ = some (.string (att0 ats j).loc) ∧ W.cell? ⟨b, off + j * 4 + 2, none⟩ = some (.string (att0 ats j).uri) ∧ W.cell? ⟨b, off + j * 4 + 3, none⟩ = some (.string (att0 ats j).val) := fun W h => by
                            rw [h.cell (p := ⟨b, off + j * 4, none⟩) hblt, h.cell (p := ⟨b, off + j * 4 + 1, none⟩) hblt, h.cell (p := ⟨b, off + j * 4 + 2, none⟩) hblt, h.cell (p := ⟨b, off + j * 4 + 3, none⟩) hblt]
                            exact hc j (by omega)
                          have hG := fun w => spec_l5less (att0 ats j) (att0 ats (j + 1)) w
                          have hord : ordB ats (j + 1) = lessB (att0 ats j) (att0 ats (j + 1)) := by unfold ordB; rw [decide_eq_false (by omega), Bool.false_or]; rfl
                          have HOR : Hid _ := hord
                          have hsub : IntKind.i64.wrap (((j + 1 : Nat) : Int) - 1) = (j : Int) := by rw [IntKind.wrap_i64]; omega
                          have hjlt : (j : Int) < ats.length := by omega
                          have hj0 : (0 : Int) < ((j + 1 : Nat) : Int) := by omega
                          clear hc hord
                          cases hq1 : attB (att0 ats (j + 1))
                          · have HFF : Hid (attsB ats = false) := HNO.out (by rw [hq1]; rfl)
                            rw [hq1] at hE
                            generalize att0 ats (j + 1) = y at hl hE hG
                            generalize att0 ats j = y' at hp hG
                            go_wp2_with fail
                            refine quiets.wp_region_below (by kernel_rfl) (by kernel_rfl) ?_
                            repeat (go_big_quiet_step ((first | (intro hq; rfl) | (intro hq; simp [go_sem, hx _ hq]; rfl) | (intro hq; simp [go_sem, (hl _ hq).1, (hl _ hq).2.1, (hl _ hq).2.2.1, (hl _ hq).2.2.2]; rfl) | (intro hq; simp [go_sem, (hp _ hq).1, (hp _ hq).2.1, (hp _ hq).2.2.1, (hp _ hq).2.2.2]; rfl) | (intro hq; exact quiets.below_call (hE _) hq) | (intro hq; exact quiets.below_call (hG _) hq))))
                            refine wpQuiet_nil ?_
                            intro w6 hb6
                            have HB6 : Hid _ := hbw.out.trans (hb6.mono hbw.out.size)
                            have HX6 : Hid _ := (hb6.block _ (pairs.lt_heap hxw.out)).trans hxw.out
                            clear hb6 hl hx hE hp hG b0 b1 b2 b3 b4 b5 b6 b7
                            obtain ⟨b0, b1, b2, b3, b4, b5, b6, b7⟩ := box8 HX6.out
                            go_wp2
                            go_ret
                            exact ⟨ret_bool (HF.out.trans (by rw [HFF.out]; rfl)).symm, HB6.out⟩
                          · cases hq2 : lessB (att0 ats j) (att0 ats (j + 1))
                            · have HFF : Hid (attsB ats = false) := HNO.out (by rw [hq1, HOR.out, hq2]; rfl)
                              rw [hq1] at hE
                              rw [hq2] at hG
                              generalize att0 ats (j + 1) = y at hl hE hG
                              generalize att0 ats j = y' at hp hG
                              go_wp2_with fail
                              refine quiets.wp_region_below (by kernel_rfl) (by kernel_rfl) ?_
                              repeat (go_big_quiet_step ((first | (intro hq; rfl) | (intro hq; simp [go_sem, hx _ hq]; rfl) | (intro hq; simp [go_sem, (hl _ hq).1, (hl _ hq).2.1, (hl _ hq).2.2.1, (hl _ hq).2.2.2]; rfl) | (intro hq; simp [go_sem, (hp _ hq).1, (hp _ hq).2.1, (hp _ hq).2.2.1, (hp _ hq).2.2.2]; rfl) | (intro hq; exact quiets.below_call (hE _) hq) | (intro hq; exact quiets.below_call (hG _) hq))))
                              refine wpQuiet_nil ?_
                              intro w6 hb6
                              have HB6 : Hid _ := hbw.out.trans (hb6.mono hbw.out.size)
                              have HX6 : Hid _ := (hb6.block _ (pairs.lt_heap hxw.out)).trans hxw.out
                              clear hb6 hl hx hE hp hG b0 b1 b2 b3 b4 b5 b6 b7
                              obtain ⟨b0, b1, b2, b3, b4, b5, b6, b7⟩ := box8 HX6.out
                              go_wp2
                              go_ret
                              exact ⟨ret_bool (HF.out.trans (by rw [HFF.out]; rfl)).symm, HB6.out⟩
                            · have HUP : Hid _ := HMO.out (by rw [hq1, HOR.out, hq2]; rfl)
                              rw [hq1] at hE
                              rw [hq2] at hG
                              generalize att0 ats (j + 1) = y at hl hE hG
                              generalize att0 ats j = y' at hp hG
                              go_wp2_with fail
                              refine quiets.wp_region_below (by kernel_rfl) (by kernel_rfl) ?_
                              repeat (go_big_quiet_step ((first | (intro hq; rfl) | (intro hq; simp [go_sem, hx _ hq]; rfl) | (intro hq; simp [go_sem, (hl _ hq).1, (hl _ hq).2.1, (hl _ hq).2.2.1, (hl _ hq).2.2.2]; rfl) | (intro hq; simp [go_sem, (hp _ hq).1, (hp _ hq).2.1, (hp _ hq).2.2.1, (hp _ hq).2.2.2]; rfl) | (intro hq; exact quiets.below_call (hE _) hq) | (intro hq; exact quiets.below_call (hG _) hq))))
                              refine wpQuiet_nil ?_
                              intro w6 hb6
                              have HB6 : Hid _ := hbw.out.trans (hb6.mono hbw.out.size)
                              have HX6 : Hid _ := (hb6.block _ (pairs.lt_heap hxw.out)).trans hxw.out
                              clear hb6 hl hx hE hp hG b0 b1 b2 b3 b4 b5 b6 b7
                              obtain ⟨b0, b1, b2, b3, b4, b5, b6, b7⟩ := box8 HX6.out
                              go_wp2
                              go_roundw
                              case rel => exact ⟨j + 1 + 1, by omega, by go_num, HUP.out, HB6, HX6⟩
                              case measure => simp [intOf]; omega
                        · obtain rfl : i = 0 := by omega
                          simp only [Nat.zero_mul, Nat.add_zero] at hl
                          have hz0 : ((0 : Nat) : Int) = 0 := rfl
                          clear hc
                          cases hq1 : attB (att0 ats 0)
                          · have HFF : Hid (attsB ats = false) := HNO.out (by rw [hq1]; rfl)
                            rw [hq1] at hE
                            generalize att0 ats 0 = y at hl hE
                            go_wp2_with fail
                            refine quiets.wp_region_below (by kernel_rfl) (by kernel_rfl) ?_
                            repeat (go_big_quiet_step ((first | (intro hq; rfl) | (intro hq; simp [go_sem, hx _ hq]; rfl) | (intro hq; simp [go_sem, (hl _ hq).1, (hl _ hq).2.1, (hl _ hq).2.2.1, (hl _ hq).2.2.2]; rfl) | (intro hq; exact quiets.below_call (hE _) hq))))
                            refine wpQuiet_nil ?_
                            intro w6 hb6
                            have HB6 : Hid _ := hbw.out.trans (hb6.mono hbw.out.size)
                            have HX6 : Hid _ := (hb6.block _ (pairs.lt_heap hxw.out)).trans hxw.out
                            clear hb6 hl hx hE b0 b1 b2 b3 b4 b5 b6 b7
                            obtain ⟨b0, b1, b2, b3, b4, b5, b6, b7⟩ := box8 HX6.out
                            go_wp2
                            go_ret
                            exact ⟨ret_bool (HF.out.trans (by rw [HFF.out]; rfl)).symm, HB6.out⟩
                          · have HUP : Hid _ := HMO.out (by rw [hq1]; rfl)
                            rw [hq1] at hE
                            generalize att0 ats 0 = y at hl hE
                            go_wp2_with fail
                            refine quiets.wp_region_below (by kernel_rfl) (by kernel_rfl) ?_
                            repeat (go_big_quiet_step ((first | (intro hq; rfl) | (intro hq; simp [go_sem, hx _ hq]; rfl) | (intro hq; simp [go_sem, (hl _ hq).1, (hl _ hq).2.1, (hl _ hq).2.2.1, (hl _ hq).2.2.2]; rfl) | (intro hq; exact quiets.below_call (hE _) hq))))
                            refine wpQuiet_nil ?_
                            intro w6 hb6
                            have HB6 : Hid _ := hbw.out.trans (hb6.mono hbw.out.size)
                            have HX6 : Hid _ := (hb6.block _ (pairs.lt_heap hxw.out)).trans hxw.out
                            clear hb6 hl hx hE b0 b1 b2 b3 b4 b5 b6 b7
                            obtain ⟨b0, b1, b2, b3, b4, b5, b6, b7⟩ := box8 HX6.out
                            go_wp2
                            go_roundw
                            case rel => exact ⟨0 + 1, by omega, by go_num, HUP.out, HB6, HX6⟩
                            case measure => simp [intOf]; omega
                      · have HFF : Hid (attsB ats = true) := all_yes fun j hj => hup.out j (by omega)
                        go_wp2
                        go_ret
                        exact ⟨ret_bool (HF.out.trans (by rw [HFF.out]; rfl)).symm, hbw.out⟩
          · rw [h3, h4] at HF
            go_wp2
            go_ret
            exact ⟨ret_bool HF.out.symm, HB.out⟩
        · rw [h3] at HF
          go_wp2_with fail
          refine (HTU.out _).mono ?_
          rintro e wq ⟨rfl, hw1⟩
          have hw2 := hw1.symm
          clear hw1
          subst hw2
          cases ub
          · go_wp2
            go_ret
            exact ⟨ret_bool HF.out.symm, HB.out⟩
          · cases h5 : decide ((u.size : Int) ≤ 40)
            · rw [h5] at HF
              have h5' := of_decide_eq_false h5
              go_wp2
              go_ret
              exact ⟨ret_bool HF.out.symm, HB.out⟩
            · rw [h5] at HF
              have h5' := of_decide_eq_true h5
              go_wp2_with fail
              refine (HDS.out _ (HD.out.below (Nat.le_refl _) HB.out)).mono ?_
              rintro e wb ⟨rfl, hb⟩
              have HBn : Hid _ := HB.out.trans (hb.mono HB.out.size)
              have HXn : Hid _ := (hb.block _ (pairs.lt_heap HX.out)).trans HX.out
              clear HB HX hb b0 b1 b2 b3 b4 b5 b6 b7
              have HB : Hid _ := HBn
              have HX : Hid _ := HXn
              clear HBn HXn
              obtain ⟨b0, b1, b2, b3, b4, b5, b6, b7⟩ := box8 HX.out
              cases db
              · go_wp2
                go_ret
                exact ⟨ret_bool HF.out.symm, HB.out⟩
              · cases h6 : decide ((ats.length : Int) ≤ 5)
                · rw [h6] at HF
                  have h6' := of_decide_eq_false h6
                  go_wp2
                  go_ret
                  exact ⟨ret_bool HF.out.symm, HB.out⟩
                · rw [h6] at HF
                  have h6' := of_decide_eq_true h6
                  go_wp2_with fail
                  go_loopw [3] (fun t wr => ∃ i : Nat, i ≤ ats.length ∧ t = .int .i64 i ∧ Hid (∀ j, j < i → (attB (att0 ats j) && ordB ats j) = true) ∧ Hid (Below w.heap.size w wr) ∧ Hid (wr.heap[w.heap.size]? = some (.cells #[.int .i64 1, .string p, .string l, .string u, .slice da ds.length dc, .slice aa ats.length ac, .slice ka ks.length kc, .string x] 28 (0, 0)))) (fun t _ => ats.length - (intOf t).toNat)
                  case atStart => exact ⟨0, Nat.zero_le _, rfl, (fun j hj => by omega), HB, HX⟩
                  case round =>
                    clear HB HX b0 b1 b2 b3 b4 b5 b6 b7
                    obtain ⟨i, hi, rfl, hup, hbw, hxw⟩ := hrel
                    obtain ⟨b0, b1, b2, b3, b4, b5, b6, b7⟩ := box8 hxw.out
                    by_cases hlt : i < ats.length
                    · obtain ⟨b, off, ha, hblt, hc⟩ := (HA.out.below (Nat.le_refl _) hbw.out).row (by omega)
                      have hx : ∀ W, Below wr.heap.size wr W → W.cell? ⟨w.heap.size, 5, none⟩ = some (.slice aa ats.length ac) := fun W h => (box8 ((h.block _ (pairs.lt_heap hxw.out)).trans hxw.out)).2.2.2.2.2.1
                      have hl : ∀ W, Below wr.heap.size wr W → W.cell? ⟨b, off + i * 4, none⟩ = some (.string (att0 ats i).pre) ∧ W.cell? ⟨b, off + i * 4 + 1, none⟩ = some (.string (att0 ats i).loc) ∧ W.cell? ⟨b, off + i * 4 + 2, none⟩ = some (.string (att0 ats i).uri) ∧ W.cell? ⟨b, off + i * 4 + 3, none⟩ = some (.string (att0 ats i).val) := fun W h => by
                        rw [h.cell (p := ⟨b, off + i * 4, none⟩) hblt, h.cell (p := ⟨b, off + i * 4 + 1, none⟩) hblt, h.cell (p := ⟨b, off + i * 4 + 2, none⟩) hblt, h.cell (p := ⟨b, off + i * 4 + 3, none⟩) hblt]
                        exact hc i hlt
                      have hE := fun w => spec_l5attr (att0 ats i) w (HA.out.texts i hlt)
                      have hilt : (i : Int) < ats.length := by omega
                      have hno : (attB (att0 ats i) && ordB ats i) = false → attsB ats = false := fun h => all_no (f := fun i => attB (att0 ats i) && ordB ats i) hlt h
                      have hmo := fun h => upto_more (f := fun i => attB (att0 ats i) && ordB ats i) hup.out h
                      have HNO : Hid (∀ h, _) := hno
                      have HMO : Hid (∀ h, _) := hmo
                      subst ha
                      clear hno hmo
                      by_cases hz : 0 < i
                      · obtain ⟨j, rfl⟩ : ∃ j, i = j + 1 := ⟨i - 1, by omega⟩
                        have hp : ∀ W, Below wr.heap.size wr W → W.cell? ⟨b, off + j * 4, none⟩ = some (.string (att0 ats j).pre) ∧ W.cell? ⟨b, off + j * 4 + 1, none⟩ = some (.string (att0 ats j).loc) ∧ W.cell? ⟨b, off + j * 4 + 2, none⟩ = some (.string (att0 ats j).uri) ∧ W.cell? ⟨b, off + j * 4 + 3, none⟩ = some (.string (att0 ats j).val) := fun W h => by
                          rw [h.cell (p := ⟨b, off + j * 4, none⟩) hblt, h.cell (p := ⟨b, off + j * 4 + 1, none⟩) hblt, h.cell (p := ⟨b, off + j * 4 + 2, none⟩) hblt, h.cell (p := ⟨b, off + j * 4 + 3, none⟩) hblt]
                          exact hc j (by omega)
                        have hG := fun w => spec_l5less (att0 ats j) (att0 ats (j + 1)) w
                        have hord : ordB ats (j + 1) = lessB (att0 ats j) (att0 ats (j + 1)) := by unfold ordB; rw [decide_eq_false (by omega), Bool.false_or]; rfl
                        have HOR : Hid _ := hord
                        have hsub : IntKind.i64.wrap (((j + 1 : Nat) : Int) - 1) = (j : Int) := by rw [IntKind.wrap_i64]; omega
                        have hjlt : (j : Int) < ats.length := by omega
                        have hj0 : (0 : Int) < ((j + 1 : Nat) : Int) := by omega
                        clear hc hord
                        cases hq1 : attB (att0 ats (j + 1))
                        · have HFF : Hid (attsB ats = false) := HNO.out (by rw [hq1]; rfl)
                          rw [hq1] at hE
                          generalize att0 ats (j + 1) = y at hl hE hG
                          generalize att0 ats j = y' at hp hG
                          go_wp2_with fail
                          refine quiets.wp_region_below (by kernel_rfl) (by kernel_rfl) ?_
                          repeat (go_big_quiet_step ((first | (intro hq; rfl) | (intro hq; simp [go_sem, hx _ hq]; rfl) | (intro hq; simp [go_sem, (hl _ hq).1, (hl _ hq).2.1, (hl _ hq).2.2.1, (hl _ hq).2.2.2]; rfl) | (intro hq; simp [go_sem, (hp _ hq).1, (hp _ hq).2.1, (hp _ hq).2.2.1, (hp _ hq).2.2.2]; rfl) | (intro hq; exact quiets.below_call (hE _) hq) | (intro hq; exact quiets.below_call (hG _) hq))))
                          refine wpQuiet_nil ?_
                          intro w6 hb6
                          have HB6 : Hid _ := hbw.out.trans (hb6.mono hbw.out.size)
                          have HX6 : Hid _ := (hb6.block _ (pairs.lt_heap hxw.out)).trans hxw.out
                          clear hb6 hl hx hE hp hG b0 b1 b2 b3 b4 b5 b6 b7
                          obtain ⟨b0, b1, b2, b3, b4, b5, b6, b7⟩ := box8 HX6.out
                          go_wp2
                          go_ret
                          exact ⟨ret_bool (HF.out.trans (by rw [HFF.out]; rfl)).symm, HB6.out⟩
                        · cases hq2 : lessB (att0 ats j) (att0 ats (j + 1))
                          · have HFF : Hid (attsB ats = false) := HNO.out (by rw [hq1, HOR.out, hq2]; rfl)
                            rw [hq1] at hE
                            rw [hq2] at hG
                            generalize att0 ats (j + 1) = y at hl hE hG
                            generalize att0 ats j = y' at hp hG
                            go_wp2_with fail
                            refine quiets.wp_region_below (by kernel_rfl) (by kernel_rfl) ?_
                            repeat (go_big_quiet_step ((first | (intro hq; rfl) | (intro hq; simp [go_sem, hx _ hq]; rfl) | (intro hq; simp [go_sem, (hl _ hq).1, (hl _ hq).2.1, (hl _ hq).2.2.1, (hl _ hq).2.2.2]; rfl) | (intro hq; simp [go_sem, (hp _ hq).1, (hp _ hq).2.1, (hp _ hq).2.2.1, (hp _ hq).2.2.2]; rfl) | (intro hq; exact quiets.below_call (hE _) hq) | (intro hq; exact quiets.below_call (hG _) hq))))
                            refine wpQuiet_nil ?_
                            intro w6 hb6
                            have HB6 : Hid _ := hbw.out.trans (hb6.mono hbw.out.size)
                            have HX6 : Hid _ := (hb6.block _ (pairs.lt_heap hxw.out)).trans hxw.out
                            clear hb6 hl hx hE hp hG b0 b1 b2 b3 b4 b5 b6 b7
                            obtain ⟨b0, b1, b2, b3, b4, b5, b6, b7⟩ := box8 HX6.out
                            go_wp2
                            go_ret
                            exact ⟨ret_bool (HF.out.trans (by rw [HFF.out]; rfl)).symm, HB6.out⟩
                          · have HUP : Hid _ := HMO.out (by rw [hq1, HOR.out, hq2]; rfl)
                            rw [hq1] at hE
                            rw [hq2] at hG
                            generalize att0 ats (j + 1) = y at hl hE hG
                            generalize att0 ats j = y' at hp hG
                            go_wp2_with fail
                            refine quiets.wp_region_below (by kernel_rfl) (by kernel_rfl) ?_
                            repeat (go_big_quiet_step ((first | (intro hq; rfl) | (intro hq; simp [go_sem, hx _ hq]; rfl) | (intro hq; simp [go_sem, (hl _ hq).1, (hl _ hq).2.1, (hl _ hq).2.2.1, (hl _ hq).2.2.2]; rfl) | (intro hq; simp [go_sem, (hp _ hq).1, (hp _ hq).2.1, (hp _ hq).2.2.1, (hp _ hq).2.2.2]; rfl) | (intro hq; exact quiets.below_call (hE _) hq) | (intro hq; exact quiets.below_call (hG _) hq))))
                            refine wpQuiet_nil ?_
                            intro w6 hb6
                            have HB6 : Hid _ := hbw.out.trans (hb6.mono hbw.out.size)
                            have HX6 : Hid _ := (hb6.block _ (pairs.lt_heap hxw.out)).trans hxw.out
                            clear hb6 hl hx hE hp hG b0 b1 b2 b3 b4 b5 b6 b7
                            obtain ⟨b0, b1, b2, b3, b4, b5, b6, b7⟩ := box8 HX6.out
                            go_wp2
                            go_roundw
                            case rel => exact ⟨j + 1 + 1, by omega, by go_num, HUP.out, HB6, HX6⟩
                            case measure => simp [intOf]; omega
                      · obtain rfl : i = 0 := by omega
                        simp only [Nat.zero_mul, Nat.add_zero] at hl
                        have hz0 : ((0 : Nat) : Int) = 0 := rfl
                        clear hc
                        cases hq1 : attB (att0 ats 0)
                        · have HFF : Hid (attsB ats = false) := HNO.out (by rw [hq1]; rfl)
                          rw [hq1] at hE
                          generalize att0 ats 0 = y at hl hE
                          go_wp2_with fail
                          refine quiets.wp_region_below (by kernel_rfl) (by kernel_rfl) ?_
                          repeat (go_big_quiet_step ((first | (intro hq; rfl) | (intro hq; simp [go_sem, hx _ hq]; rfl) | (intro hq; simp [go_sem, (hl _ hq).1, (hl _ hq).2.1, (hl _ hq).2.2.1, (hl _ hq).2.2.2]; rfl) | (intro hq; exact quiets.below_call (hE _) hq))))
                          refine wpQuiet_nil ?_
                          intro w6 hb6
                          have HB6 : Hid _ := hbw.out.trans (hb6.mono hbw.out.size)
                          have HX6 : Hid _ := (hb6.block _ (pairs.lt_heap hxw.out)).trans hxw.out
                          clear hb6 hl hx hE b0 b1 b2 b3 b4 b5 b6 b7
                          obtain ⟨b0, b1, b2, b3, b4, b5, b6, b7⟩ := box8 HX6.out
                          go_wp2
                          go_ret
                          exact ⟨ret_bool (HF.out.trans (by rw [HFF.out]; rfl)).symm, HB6.out⟩
                        · have HUP : Hid _ := HMO.out (by rw [hq1]; rfl)
                          rw [hq1] at hE
                          generalize att0 ats 0 = y at hl hE
                          go_wp2_with fail
                          refine quiets.wp_region_below (by kernel_rfl) (by kernel_rfl) ?_
                          repeat (go_big_quiet_step ((first | (intro hq; rfl) | (intro hq; simp [go_sem, hx _ hq]; rfl) | (intro hq; simp [go_sem, (hl _ hq).1, (hl _ hq).2.1, (hl _ hq).2.2.1, (hl _ hq).2.2.2]; rfl) | (intro hq; exact quiets.below_call (hE _) hq))))
                          refine wpQuiet_nil ?_
                          intro w6 hb6
                          have HB6 : Hid _ := hbw.out.trans (hb6.mono hbw.out.size)
                          have HX6 : Hid _ := (hb6.block _ (pairs.lt_heap hxw.out)).trans hxw.out
                          clear hb6 hl hx hE b0 b1 b2 b3 b4 b5 b6 b7
                          obtain ⟨b0, b1, b2, b3, b4, b5, b6, b7⟩ := box8 HX6.out
                          go_wp2
                          go_roundw
                          case rel => exact ⟨0 + 1, by omega, by go_num, HUP.out, HB6, HX6⟩
                          case measure => simp [intOf]; omega
                    · have HFF : Hid (attsB ats = true) := all_yes fun j hj => hup.out j (by omega)
                      go_wp2
                      go_ret
                      exact ⟨ret_bool (HF.out.trans (by rw [HFF.out]; rfl)).symm, hbw.out⟩
end Go.Proofs.Ytpejcblmglbjfaa.trees
namespace Go.Proofs.Ytpejcblmglbjfaa.trees
open Go.RowKit
open pairs (Pair at0 PairsAt)
open scopes (xmlB textB declsB)
set_option linter.unusedVariables false
def oneB (t : Tree) : Bool := bif t.kind == 1 then elOneB t else bif t.kind == 2 then textOneB t else bif t.kind == 3 then noteOneB t else bif t.kind == 4 then toldOneB t else false
/-! ### Texts beside each other -/
def meetAt (L : List Tree) (i : Nat) : Bool := decide (0 < i) && (((kid L (i - 1)).kind == 2) && ((kid L i).kind == 2))
def meetB (L : List Tree) : Bool := (List.range L.length).any (meetAt L)
theorem meet_yes {L : List Tree} {i : Nat} (hi : i < L.length) (h : meetAt L i = true) : meetB L = true := by
  unfold meetB
  rw [List.any_eq_true]
  exact ⟨i, List.mem_range.2 hi, h⟩
theorem meet_no {L : List Tree} (h : ∀ i, i < L.length → meetAt L i = false) : meetB L = false := by
  unfold meetB
  rw [List.any_eq_false]
  intro i hi
  rw [h i (List.mem_range.1 hi)]
  decide
theorem meet_zero {L : List Tree} : meetAt L 0 = false := rfl
theorem meet_more {L : List Tree} {i : Nat} (h : 0 < i) : meetAt L i = (((kid L (i - 1)).kind == 2) && ((kid L i).kind == 2)) := by
  unfold meetAt
  rw [decide_eq_true h, Bool.true_and]
/-! ### The specification's way -/
mutual
def nodeB : Tree → Nat → Bool
  | .mk k p l u x ds ats ks, r => oneB (.mk k p l u x ds ats ks) && (!(k == 1) || (decide (r ≠ 0) && (nodesB ks (r - 1) && !meetB ks)))
def nodesB : List Tree → Nat → Bool
  | [], _ => true
  | t :: ts, r => nodeB t r && nodesB ts r
end
def kidsB (L : List Tree) (r : Nat) : Bool := nodesB L r && !meetB L
theorem nodesB_range : ∀ (L : List Tree) (r : Nat), nodesB L r = (List.range L.length).all fun i => nodeB (kid L i) r
  | [], r => by rw [nodesB]; rfl
  | t :: ts, r => by
    rw [nodesB, nodesB_range ts r, List.length_cons, List.range_succ_eq_map, List.all_cons, List.all_map]
    rfl
def stepB (L : List Tree) (r i : Nat) : Bool := nodeB (kid L i) r && !meetAt L i
theorem kids_no {L : List Tree} {r i : Nat} (hi : i < L.length) (h : stepB L r i = false) : kidsB L r = false := by
  unfold kidsB
  unfold stepB at h
  cases h1 : nodeB (kid L i) r
  · rw [nodesB_range, all_no (f := fun i => nodeB (kid L i) r) hi h1]; rfl
  · rw [h1, Bool.true_and] at h
    rw [meet_yes hi (by simpa using h)]; simp
theorem kids_yes {L : List Tree} {r : Nat} (h : ∀ i, i < L.length → stepB L r i = true) : kidsB L r = true := by
  unfold kidsB
  rw [nodesB_range, all_yes (f := fun i => nodeB (kid L i) r) (fun i hi => by have := h i hi; unfold stepB at this; simp at this; exact this.1), meet_no (fun i hi => by have := h i hi; unfold stepB at this; simp at this; exact this.2)]
  rfl
theorem nodeB_eq (k : Int) (p l u x : ByteArray) (ds : List Pair) (ats : List Att) (ks : List Tree) (r : Nat) : nodeB (.mk k p l u x ds ats ks) r = (oneB (.mk k p l u x ds ats ks) && (!(k == 1) || (decide (r ≠ 0) && kidsB ks (r - 1)))) := by rw [nodeB]; rfl
/-- How many are of a kind. -/
def kindTo (L : List Tree) (k : Int) : Nat → Nat
  | 0 => 0
  | i + 1 => kindTo L k i + (bif (kid L i).kind == k then 1 else 0)
theorem kindTo_le (L : List Tree) (k : Int) : ∀ i, kindTo L k i ≤ i
  | 0 => Nat.le_refl _
  | i + 1 => by have := kindTo_le L k i; rw [kindTo]; cases ((kid L i).kind == k) <;> simp only [cond_true, cond_false] <;> omega
theorem kindTo_mono (L : List Tree) (k : Int) : ∀ {i j : Nat}, i ≤ j → kindTo L k i ≤ kindTo L k j
  | i, 0, h => by rw [show i = 0 by omega]; exact Nat.le_refl _
  | i, j + 1, h => by
    by_cases e : i = j + 1
    · rw [e]; exact Nat.le_refl _
    · have := kindTo_mono L k (i := i) (j := j) (by omega)
      rw [kindTo]
      omega
theorem kindTo_none (L : List Tree) (k : Int) : ∀ {j : Nat}, (∀ i, i < j → ((kid L i).kind == k) = false) → kindTo L k j = 0
  | 0, _ => rfl
  | j + 1, h => by rw [kindTo, kindTo_none L k (fun i hi => h i (by omega)), h j (by omega)]; rfl
theorem kindTo_some (L : List Tree) (k : Int) {i j : Nat} (hi : i < j) (h : ((kid L i).kind == k) = true) : 1 ≤ kindTo L k j := by
  have := kindTo_mono L k (show i + 1 ≤ j by omega)
  rw [kindTo, h, cond_true] at this
  omega
def wholeB (t : Tree) : Bool := (((kindTo t.kids 1 t.kids.length : Nat) : Int) == 1) && ((((kindTo t.kids 2 t.kids.length : Nat) : Int) == 0) && (t.pre.toList.isEmpty && (t.loc.toList.isEmpty && (t.uri.toList.isEmpty && (t.text.toList.isEmpty && ((((t.ds.length : Nat) : Int) == 0) && (((t.ats.length : Nat) : Int) == 0)))))))
def nodeOkB (t : Tree) : Bool := decide ((cnt t : Int) ≤ 60) && (bif t.kind == 0 then wholeB t && kidsB t.kids 7 else nodeB t 7)
/-! ### The program's way -/
mutual
def deepT : Tree → Nat
  | .mk k _ _ _ _ _ _ ks => deepL ks + (bif k == 1 then 1 else 0)
def deepL : List Tree → Nat
  | [] => 0
  | t :: ts => max (deepT t) (deepL ts)
end
def deepTo (L : List Tree) : Nat → Nat
  | 0 => 0
  | i + 1 => max (deepTo L i) (deepT (kid L i))
theorem deepTo_cons (t : Tree) (ts : List Tree) : ∀ k, deepTo (t :: ts) (k + 1) = max (deepT t) (deepTo ts k)
  | 0 => by show max 0 (deepT t) = max (deepT t) 0; omega
  | k + 1 => by
    rw [deepTo, deepTo_cons t ts k, deepTo]
    show max _ (deepT (kid ts k)) = _
    omega
theorem deepL_eq : ∀ L : List Tree, deepL L = deepTo L L.length
  | [] => by rw [deepL]; rfl
  | t :: ts => by rw [deepL, deepL_eq ts, List.length_cons, deepTo_cons]
mutual
theorem deepT_le : ∀ t : Tree, deepT t ≤ cnt t
  | .mk k p l u x ds ats ks => by
    rw [deepT, cnt]
    have := deepL_le ks
    cases (k == 1) <;> simp only [cond_true, cond_false] <;> omega
theorem deepL_le : ∀ L : List Tree, deepL L ≤ cnts L
  | [] => by rw [deepL, cnts]; exact Nat.le_refl _
  | t :: ts => by
    rw [deepL, cnts]
    have h1 := deepT_le t
    have h2 := deepL_le ts
    omega
end
def aloneB (t : Tree) : Bool := bif t.kind == 0 then wholeB t else (oneB t && (!(t.kind == 1) || !meetB t.kids))
mutual
def rightT : Tree → Bool
  | .mk k p l u x ds ats ks => aloneB (.mk k p l u x ds ats ks) && rightL ks
def rightL : List Tree → Bool
  | [] => true
  | t :: ts => (!(t.kind == 0) && rightT t) && rightL ts
end
theorem rightL_range : ∀ (L : List Tree), rightL L = (List.range L.length).all fun i => !((kid L i).kind == 0) && rightT (kid L i)
  | [] => by rw [rightL]; rfl
  | t :: ts => by
    rw [rightL, rightL_range ts, List.length_cons, List.range_succ_eq_map, List.all_cons, List.all_map]
    rfl
theorem one_zero {t : Tree} (h : t.kind = 0) : oneB t = false := by unfold oneB; rw [h]; rfl
theorem bare_kids {t : Tree} (h : bareB t = true) : t.kids = [] := by
  unfold bareB at h
  simp only [Bool.and_eq_true, beq_iff_eq] at h
  have := h.2.2.2.2
  exact List.eq_nil_of_length_eq_zero (by omega)
theorem one_kids {t : Tree} (h : oneB t = true) (h1 : (t.kind == 1) = false) : t.kids = [] := by
  unfold oneB at h
  rw [h1, cond_false] at h
  cases h2 : (t.kind == 2)
  · rw [h2, cond_false] at h
    cases h3 : (t.kind == 3)
    · rw [h3, cond_false] at h
      cases h4 : (t.kind == 4)
      · rw [h4, cond_false] at h; cases h
      · rw [h4, cond_true] at h; unfold toldOneB at h; rw [Bool.and_eq_true] at h; exact bare_kids h.1
    · rw [h3, cond_true] at h; unfold noteOneB at h; rw [Bool.and_eq_true] at h; exact bare_kids h.1
  · rw [h2, cond_true] at h; unfold textOneB at h; rw [Bool.and_eq_true] at h; exact bare_kids h.1
mutual
theorem node_right : ∀ (t : Tree) (r : Nat), nodeB t r = (!(t.kind == 0) && (decide (deepT t ≤ r) && rightT t))
  | .mk k p l u x ds ats ks, r => by
    rw [nodeB, deepT, rightT, nodes_right ks (r - 1)]
    show _ = (!(k == 0) && _)
    unfold aloneB
    simp only [Tree.kind, Tree.kids]
    cases h0 : (k == 0)
    · cases ho : oneB (.mk k p l u x ds ats ks)
      · simp
      · cases h1 : (k == 1)
        · have hk : ks = [] := one_kids (t := .mk k p l u x ds ats ks) ho h1
          subst hk
          rw [deepL, rightL]
          simp
        · by_cases hr : r = 0
          · subst hr; simp
          · have e : decide (deepL ks + 1 ≤ r) = decide (deepL ks ≤ r - 1) := by rw [Bool.eq_iff_iff]; simp; omega
            simp only [Bool.not_false, Bool.true_and, Bool.not_true, Bool.false_or, cond_true, cond_false, e]
            rw [decide_eq_true hr]
            cases decide (deepL ks ≤ r - 1) <;> cases rightL ks <;> cases meetB ks <;> rfl
    · have : oneB (.mk k p l u x ds ats ks) = false := one_zero (by show k = 0; simpa using h0)
      rw [this]; simp
theorem nodes_right : ∀ (L : List Tree) (r : Nat), nodesB L r = (decide (deepL L ≤ r) && rightL L)
  | [], r => by rw [nodesB, deepL, rightL]; simp
  | t :: ts, r => by
    rw [nodesB, deepL, rightL, node_right t r, nodes_right ts r]
    have e : decide (max (deepT t) (deepL ts) ≤ r) = (decide (deepT t ≤ r) && decide (deepL ts ≤ r)) := by rw [Bool.eq_iff_iff]; simp; omega
    rw [e]
    cases (t.kind == 0) <;> cases decide (deepT t ≤ r) <;> cases decide (deepL ts ≤ r) <;> cases rightT t <;> cases rightL ts <;> rfl
end
theorem whole_meet {t : Tree} (h : wholeB t = true) : meetB t.kids = false := by
  refine meet_no fun i hi => ?_
  unfold meetAt
  cases h2 : ((kid t.kids i).kind == 2)
  · simp
  · have := kindTo_some t.kids 2 hi h2
    unfold wholeB at h
    simp only [Bool.and_eq_true, beq_iff_eq] at h
    have := h.2.1
    omega
theorem node_ok_right (t : Tree) : nodeOkB t = (decide ((cnt t : Int) ≤ 60) && (decide ((deepT t : Int) ≤ 7) && rightT t)) := by
  unfold nodeOkB
  congr 1
  have ed : decide ((deepT t : Int) ≤ 7) = decide (deepT t ≤ 7) := by rw [Bool.eq_iff_iff]; simp; omega
  rw [ed]
  cases h0 : (t.kind == 0)
  · rw [cond_false, node_right, h0]; rfl
  · rw [cond_true]
    obtain ⟨k, p, l, u, x, ds, ats, ks⟩ := t
    simp only [Tree.kind] at h0
    have hk1 : (k == 1) = false := by rw [beq_iff_eq] at h0; rw [h0]; rfl
    rw [deepT, rightT, hk1]
    unfold aloneB kidsB
    simp only [Tree.kind, Tree.kids, h0, cond_true]
    rw [nodes_right]
    cases hw : wholeB (.mk k p l u x ds ats ks)
    · simp
    · have := whole_meet hw
      simp only [Tree.kids] at this
      rw [this]
      simp
end Go.Proofs.Ytpejcblmglbjfaa.trees
namespace Go.Proofs.Ytpejcblmglbjfaa.trees
open Go.ChangeShapes Go.WideShapes Go.ChangeAt Go.RowKit
open pairs (Pair at0 PairsAt)
open scopes (xmlB textB declsB ret_bool)
set_option linter.unusedVariables false
set_option maxRecDepth 100000 in
set_option maxHeartbeats 2000000 in
theorem one_none (k : Int) (p l u x : ByteArray) (ds : List Pair) (ats : List Att) (ks : List Tree) (h : Hdr) (w : World) (h1 : (k == 1) = false) (h2 : (k == 2) = false) (h3 : (k == 3) = false) (h4 : (k == 4) = false) : OneOk (.mk k p l u x ds ats ks) h w false := by
  obtain ⟨da, dc, aa, ac, ka, kc⟩ := h
  unfold OneOk
  simp only [vals, Tree.kind, Tree.pre, Tree.loc, Tree.uri, Tree.text, Tree.ds, Tree.ats, Tree.kids]
  go_enter Try.func110, Try.ntmps110
  go_wp2
  go_ret
  exact ⟨rfl, (Below.refl _ _).alloc (Nat.le_refl _) _⟩
theorem spec_one (t : Tree) (h : Hdr) (B : Nat) (w : World) (hz : nsz t ≤ 1048576) (hn : NodeIn w B t h) : OneOk t h w (oneB t) := by
  obtain ⟨k, p, l, u, x, ds, ats, ks⟩ := t
  have hx : x.size ≤ 1048576 := by rw [nsz] at hz; omega
  have hl : l.size ≤ maxLen := hn.fit.2.2.1
  have hxl : x.size ≤ maxLen := by unfold maxLen; omega
  unfold oneB
  simp only [Tree.kind]
  cases h1 : (k == 1)
  · cases h2 : (k == 2)
    · cases h3 : (k == 3)
      · cases h4 : (k == 4)
        · exact one_none k p l u x ds ats ks h w h1 h2 h3 h4
        · obtain rfl : k = 4 := by simpa using h4
          exact one_told p l u x ds ats ks h w hl hx
      · obtain rfl : k = 3 := by simpa using h3
        exact one_note p l u x ds ats ks h w hl hx
    · obtain rfl : k = 2 := by simpa using h2
      exact one_text p l u x ds ats ks h w hxl
  · obtain rfl : k = 1 := by simpa using h1
    exact one_el p l u x ds ats ks h B w hn
/-- What l5Kids says of a list. -/
def KidsOk (L : List Tree) (a : Option Addr) (cap deep : Nat) (w : World) : Prop :=
  Calls Try.prog 108 #[.slice a L.length cap, .int .i64 deep] w fun e w' => e = .returned (.bool (kidsB L (7 - deep))) ∧ Below w.heap.size w w'
set_option maxRecDepth 100000 in
set_option maxHeartbeats 8000000 in
theorem spec_kids_of (n B : Nat) (ih : ∀ (L : List Tree) (a : Option Addr) (cap deep : Nat) (w : World), ksize L < n → deep ≤ 7 → (∀ i, i < L.length → nsz (kid L i) ≤ 1048576) → NodesAt w B a L → KidsOk L a cap deep w)
    (L : List Tree) (a : Option Addr) (cap deep : Nat) (w : World) (ht : ksize L ≤ n) (hd7 : deep ≤ 7) (hz : ∀ i, i < L.length → nsz (kid L i) ≤ 1048576) (hL : NodesAt w B a L) : KidsOk L a cap deep w := by
  have HL : Hid _ := hL
  have HZ : Hid (∀ i, i < L.length → nsz (kid L i) ≤ 1048576) := hz
  have HIH : Hid _ := ih
  have HKT : Hid (∀ i, i < L.length → ksize (kid L i).kids < n) := fun i hi => by
    have h1 := ksize_kid L i hi
    have h2 : tsize (kid L i) = 1 + ksize (kid L i).kids := by cases kid L i; rw [tsize]; rfl
    omega
  have hkk : L.length ≤ 9223372036854775807 := hL.short
  unfold KidsOk
  clear ih hL ht hz
  go_enter Try.func108, Try.ntmps108
  go_wp2
  go_loopw [5] (fun t wr => ∃ i : Nat, i ≤ L.length ∧ t = .int .i64 i ∧ Hid (∀ j, j < i → stepB L (7 - deep) j = true) ∧ Hid (Below w.heap.size w wr)) (fun t _ => L.length - (intOf t).toNat)
  case atStart => exact ⟨0, Nat.zero_le _, rfl, (fun j hj => by omega), Below.refl _ _⟩
  case round =>
    obtain ⟨i, hi, rfl, hup, hbw⟩ := hrel
    by_cases hlt : i < L.length
    · obtain ⟨b, off, ha, hblt, hc⟩ := (HL.out.below hbw.out).row (by omega)
      obtain ⟨h', hnode, hc0, hc1, hc2, hc3, hc4, hc5, hc6, hc7⟩ := hc i hlt
      have hE := fun o => spec_one (kid L i) h' B (wr.alloc o) (HZ.out i hlt) (hnode.below ((Below.refl _ _).alloc (Nat.le_refl _) o))
      unfold OneOk at hE
      unfold vals at hE
      have hks : ∀ W, Below wr.heap.size wr W → NodesAt W B h'.ka (kid L i).kids := fun W h => (kids_at hnode).below h
      have hkz : ∀ j, j < (kid L i).kids.length → nsz (kid (kid L i).kids j) ≤ 1048576 := fun j hj => by
        have h1 := nsz_kid (kid L i).kids j hj
        have h2 := HZ.out i hlt
        have h3 : nszs (kid L i).kids ≤ nsz (kid L i) := by cases kid L i; rw [nsz]; show nszs _ ≤ _; simp only [Tree.kids]; omega
        omega
      have hkn := HKT.out i hlt
      have hno : stepB L (7 - deep) i = false → kidsB L (7 - deep) = false := kids_no hlt
      have hmo := fun h => upto_more (f := fun i => stepB L (7 - deep) i) hup.out h
      have hst : stepB L (7 - deep) i = ((oneB (kid L i) && (!((kid L i).kind == 1) || (decide (7 - deep ≠ 0) && kidsB (kid L i).kids (7 - deep - 1)))) && !meetAt L i) := by
        unfold stepB
        have : nodeB (kid L i) (7 - deep) = (oneB (kid L i) && (!((kid L i).kind == 1) || (decide (7 - deep ≠ 0) && kidsB (kid L i).kids (7 - deep - 1)))) := by cases kid L i; exact nodeB_eq _ _ _ _ _ _ _ _ _
        rw [this]
      rw [hst] at hno hmo
      have hme : meetAt L i = (decide (0 < i) && (((kid L (i - 1)).kind == 2) && ((kid L i).kind == 2))) := rfl
      have hpc : ∀ W, Below wr.heap.size wr W → ∀ j, j < L.length → W.cell? ⟨b, off + j * 8, none⟩ = some (.int .i64 (kid L j).kind) := fun W h j hj => by
        obtain ⟨_, _, q0, _⟩ := hc j hj
        rw [h.cell (p := ⟨b, off + j * 8, none⟩) hblt]
        exact q0
      have hpk : (kid L i).kind = (kid L i).kind := rfl
      generalize hy : kid L i = y at hc0 hc1 hc2 hc3 hc4 hc5 hc6 hc7 hE hks hkz hkn hno hmo hst hme
      have HE : Hid (∀ o, _) := hE
      have HKS : Hid (∀ W, Below wr.heap.size wr W → _) := hks
      have HKZ : Hid _ := hkz
      have HKN : Hid _ := hkn
      have HNO : Hid (∀ h, _) := hno
      have HMO : Hid (∀ h, _) := hmo
      have HME : Hid _ := hme
      have HPC : Hid (∀ W, Below wr.heap.size wr W → ∀ j, j < L.length → W.cell? ⟨b, off + j * 8, none⟩ = some (.int .i64 (kid L j).kind)) := hpc
      subst ha
      clear hc hE hks hkz hkn hno hmo hst hme hpc hnode hpk hy
      go_wp2_with fail
      refine Calls.mono (HE.out _) ?_
      rintro e w2 ⟨rfl, hb2⟩
      have HX : Hid _ := box_kept hb2
      have HU : Hid _ := box_under hb2
      have HB2 : Hid _ := hbw.out.trans (HU.out.mono hbw.out.size)
      obtain ⟨b0, b1, b2, b3, b4, b5, b6, b7⟩ := box8 HX.out
      clear hb2 HE hc0 hc1 hc2 hc3 hc4 hc5 hc6 hc7
      cases ho : oneB y
      · have HF : Hid (kidsB L (7 - deep) = false) := HNO.out (by rw [ho]; rfl)
        go_wp2
        go_ret
        exact ⟨ret_bool HF.out.symm, HB2.out⟩
      · cases hk2 : (y.kind == 2)
        · have hm0 : meetAt L i = false := by rw [HME.out, hk2]; simp
          cases hk1 : (y.kind == 1)
          · have HUP : Hid _ := HMO.out (by rw [ho, hm0, hk1]; rfl)
            go_wp2
            go_roundw
            case rel => exact ⟨i + 1, by omega, by go_num, HUP.out, HB2.out⟩
            case measure => simp [intOf]; omega
          · by_cases hd : deep = 7
            · have HF : Hid (kidsB L (7 - deep) = false) := HNO.out (by rw [ho, hm0, hk1, hd]; rfl)
              have hdi : ((deep : Int) == 7) = true := by simp; omega
              clear hd
              go_wp2
              go_ret
              exact ⟨ret_bool HF.out.symm, HB2.out⟩
            · have hdi : ((deep : Int) == 7) = false := by simp; omega
              have hI := HIH.out y.kids h'.ka h'.kc (deep + 1) w2 HKN.out (by omega) HKZ.out (HKS.out w2 HU.out)
              unfold KidsOk at hI
              have hdc : ((deep + 1 : Nat) : Int) = (deep : Int) + 1 := by omega
              rw [hdc] at hI
              have hds : 7 - (deep + 1) = 7 - deep - 1 := by omega
              rw [hds] at hI
              have hdd : decide (7 - deep ≠ 0) = true := by simp; omega
              have HDD : Hid _ := hdd
              have HI : Hid _ := hI
              clear hI hdc hds hdd
              go_wp2_with fail
              refine Calls.mono HI.out ?_
              rintro e w3 ⟨rfl, hb3⟩
              have HB3 : Hid _ := HB2.out.trans (hb3.mono HB2.out.size)
              clear hb3 HI b0 b1 b2 b3 b4 b5 b6 b7
              cases hkb : kidsB y.kids (7 - deep - 1)
              · have HF : Hid (kidsB L (7 - deep) = false) := HNO.out (by rw [ho, hm0, hk1, hkb]; simp)
                go_wp2
                go_ret
                exact ⟨ret_bool HF.out.symm, HB3.out⟩
              · have HUP : Hid _ := HMO.out (by rw [ho, hm0, hk1, hkb, HDD.out]; rfl)
                go_wp2
                go_roundw
                case rel => exact ⟨i + 1, by omega, by go_num, HUP.out, HB3.out⟩
                case measure => simp [intOf]; omega
        · have hk1 : (y.kind == 1) = false := by rw [beq_iff_eq] at hk2; rw [hk2]; rfl
          by_cases hz : 0 < i
          · obtain ⟨j, rfl⟩ : ∃ j, i = j + 1 := ⟨i - 1, by omega⟩
            have hpj := HPC.out w2 HU.out j (by omega)
            have hme := HME.out
            rw [show j + 1 - 1 = j by omega, decide_eq_true hz, Bool.true_and, hk2, Bool.and_true] at hme
            have hsub : IntKind.i64.wrap (((j + 1 : Nat) : Int) - 1) = (j : Int) := by rw [IntKind.wrap_i64]; omega
            have hjlt : (j : Int) < L.length := by omega
            have hj0 : (0 : Int) < ((j + 1 : Nat) : Int) := by omega
            generalize (kid L j).kind = pk at hpj hme
            cases hp : (pk == 2)
            · have HUP : Hid _ := HMO.out (by rw [ho, hk1, hme, hp]; rfl)
              clear hme
              go_wp2
              go_roundw
              case rel => exact ⟨j + 1 + 1, by omega, by go_num, HUP.out, HB2.out⟩
              case measure => simp [intOf]; omega
            · have HF : Hid (kidsB L (7 - deep) = false) := HNO.out (by rw [ho, hk1, hme, hp]; rfl)
              clear hme
              go_wp2
              go_ret
              exact ⟨ret_bool HF.out.symm, HB2.out⟩
          · obtain rfl : i = 0 := by omega
            have HUP : Hid _ := HMO.out (by rw [ho, hk1]; rfl)
            go_wp2
            go_roundw
            case rel => exact ⟨0 + 1, by omega, by go_num, HUP.out, HB2.out⟩
            case measure => simp [intOf]; omega
    · have HF : Hid (kidsB L (7 - deep) = true) := kids_yes fun j hj => hup.out j (by omega)
      go_wp2
      go_ret
      exact ⟨ret_bool HF.out.symm, hbw.out⟩
theorem spec_kids (B : Nat) : ∀ n, ∀ (L : List Tree) (a : Option Addr) (cap deep : Nat) (w : World), ksize L < n → deep ≤ 7 → (∀ i, i < L.length → nsz (kid L i) ≤ 1048576) → NodesAt w B a L → KidsOk L a cap deep w
  | 0, L, a, cap, deep, w, ht, _, _, _ => by omega
  | n + 1, L, a, cap, deep, w, ht, hd, hz, hL => spec_kids_of n B (fun L a cap deep w ht hd hz hL => spec_kids B n L a cap deep w ht hd hz hL) L a cap deep w (by omega) hd hz hL
end Go.Proofs.Ytpejcblmglbjfaa.trees
namespace Go.Proofs.Ytpejcblmglbjfaa.trees
open Go.ChangeShapes Go.WideShapes Go.ChangeAt Go.RowKit
open pairs (Pair at0 PairsAt)
set_option linter.unusedVariables false
/-- A row of the call's own, of as many nodes, the first k of which are there already; what they lead to lies beyond it. -/
structure MadeN (w : World) (g : Nat) (L : List Tree) (k : Nat) : Prop where
  all : ∃ (cur : Array Value) (ty : TypeId), w.heap[g]? = some (.cells cur ty (0, 0)) ∧ L.length * 8 ≤ cur.size ∧ ∀ i, i < k → ∃ h, NodeIn w (g + 1) (kid L i) h ∧ ∀ j, j < 8 → cur[i * 8 + j]? = (vals (kid L i) h)[j]?
theorem set_keeps {w : World} {g o : Nat} {u : Value} (k : Nat) (hk : g + 1 ≤ k) : (w.setCell ⟨g, o, none⟩ u).heap[k]? = w.heap[k]? := Below.heap_setCell w ⟨g, o, none⟩ u k (by show k ≠ g; omega)
theorem set_size (w : World) (g o : Nat) (u : Value) : (w.setCell ⟨g, o, none⟩ u).heap.size = w.heap.size := by simp [World.setCell]
theorem node_set {w : World} {g o : Nat} {u : Value} {t : Tree} {h : Hdr} (hn : NodeIn w (g + 1) t h) : NodeIn (w.setCell ⟨g, o, none⟩ u) (g + 1) t h := NodeIn.keep (by rw [set_size]; exact Nat.le_refl _) (fun k hk _ => set_keeps k hk) t h hn
set_option maxHeartbeats 1000000 in
theorem MadeN.next {w w2 : World} {g : Nat} {L : List Tree} {k : Nat} (hm : MadeN w g L k) (hk : k < L.length) (hb : Below w.heap.size w w2) :
    ∃ c0 c1 c2 c3 c4 c5 c6 c7, w2.cell? ⟨g, k * 8, none⟩ = some c0 ∧ w2.cell? ⟨g, k * 8 + 1, none⟩ = some c1 ∧ w2.cell? ⟨g, k * 8 + 2, none⟩ = some c2 ∧ w2.cell? ⟨g, k * 8 + 3, none⟩ = some c3 ∧ w2.cell? ⟨g, k * 8 + 4, none⟩ = some c4 ∧ w2.cell? ⟨g, k * 8 + 5, none⟩ = some c5 ∧ w2.cell? ⟨g, k * 8 + 6, none⟩ = some c6 ∧ w2.cell? ⟨g, k * 8 + 7, none⟩ = some c7 ∧ w2.frozen? ⟨g, k * 8, none⟩ = false ∧ w2.frozen? ⟨g, k * 8 + 1, none⟩ = false ∧ w2.frozen? ⟨g, k * 8 + 2, none⟩ = false ∧ w2.frozen? ⟨g, k * 8 + 3, none⟩ = false ∧ w2.frozen? ⟨g, k * 8 + 4, none⟩ = false ∧ w2.frozen? ⟨g, k * 8 + 5, none⟩ = false ∧ w2.frozen? ⟨g, k * 8 + 6, none⟩ = false ∧ w2.frozen? ⟨g, k * 8 + 7, none⟩ = false ∧ ∀ t h, t = kid L k → NodeIn w2 (g + 1) t h →
      MadeN ((((((((w2.setCell ⟨g, k * 8, none⟩ (.int .i64 t.kind)).setCell ⟨g, k * 8 + 1, none⟩ (.string t.pre)).setCell ⟨g, k * 8 + 2, none⟩ (.string t.loc)).setCell ⟨g, k * 8 + 3, none⟩ (.string t.uri)).setCell ⟨g, k * 8 + 4, none⟩ (.slice h.da t.ds.length h.dc)).setCell ⟨g, k * 8 + 5, none⟩ (.slice h.aa t.ats.length h.ac)).setCell ⟨g, k * 8 + 6, none⟩ (.slice h.ka t.kids.length h.kc)).setCell ⟨g, k * 8 + 7, none⟩ (.string t.text)) g L (k + 1) := by
  obtain ⟨cur, ty, hg, hs, hj⟩ := hm.all
  have hg2 : w2.heap[g]? = some (.cells cur ty (0, 0)) := (hb.block g (pairs.lt_heap hg)).trans hg
  have hlt : ∀ j, j < 8 → k * 8 + j < cur.size := fun j hj => by omega
  refine ⟨cur[k * 8 + 0]'(hlt 0 (by omega)), cur[k * 8 + 1]'(hlt 1 (by omega)), cur[k * 8 + 2]'(hlt 2 (by omega)), cur[k * 8 + 3]'(hlt 3 (by omega)), cur[k * 8 + 4]'(hlt 4 (by omega)), cur[k * 8 + 5]'(hlt 5 (by omega)), cur[k * 8 + 6]'(hlt 6 (by omega)), cur[k * 8 + 7]'(hlt 7 (by omega)), by have := hlt 0 (by omega); simp [World.cell?, hg2], by have := hlt 1 (by omega); simp [World.cell?, hg2, this], by have := hlt 2 (by omega); simp [World.cell?, hg2, this], by have := hlt 3 (by omega); simp [World.cell?, hg2, this], by have := hlt 4 (by omega); simp [World.cell?, hg2, this], by have := hlt 5 (by omega); simp [World.cell?, hg2, this], by have := hlt 6 (by omega); simp [World.cell?, hg2, this], by have := hlt 7 (by omega); simp [World.cell?, hg2, this], by simp [World.frozen?, hg2], by simp [World.frozen?, hg2], by simp [World.frozen?, hg2], by simp [World.frozen?, hg2], by simp [World.frozen?, hg2], by simp [World.frozen?, hg2], by simp [World.frozen?, hg2], by simp [World.frozen?, hg2], fun t h ht hn => ⟨_, ty, (pairs.block_set _ (pairs.block_set _ (pairs.block_set _ (pairs.block_set _ (pairs.block_set _ (pairs.block_set _ (pairs.block_set _ (pairs.block_set _ hg2)))))))), by simpa using hs, fun i hi => ?_⟩⟩
  by_cases e : i = k
  · subst e ht
    refine ⟨h, (node_set (node_set (node_set (node_set (node_set (node_set (node_set (node_set hn)))))))), fun j hj' => ?_⟩
    have := hlt 7 (by omega)
    rcases (show j = 0 ∨ j = 1 ∨ j = 2 ∨ j = 3 ∨ j = 4 ∨ j = 5 ∨ j = 6 ∨ j = 7 by omega) with rfl | rfl | rfl | rfl | rfl | rfl | rfl | rfl
    · rw [Array.getElem?_setIfInBounds_ne (by omega), Array.getElem?_setIfInBounds_ne (by omega), Array.getElem?_setIfInBounds_ne (by omega), Array.getElem?_setIfInBounds_ne (by omega), Array.getElem?_setIfInBounds_ne (by omega), Array.getElem?_setIfInBounds_ne (by omega), Array.getElem?_setIfInBounds_ne (by omega)]; exact Array.getElem?_setIfInBounds_self_of_lt (by omega)
    · rw [Array.getElem?_setIfInBounds_ne (by omega), Array.getElem?_setIfInBounds_ne (by omega), Array.getElem?_setIfInBounds_ne (by omega), Array.getElem?_setIfInBounds_ne (by omega), Array.getElem?_setIfInBounds_ne (by omega), Array.getElem?_setIfInBounds_ne (by omega), Array.getElem?_setIfInBounds_self_of_lt (by simp only [Array.size_setIfInBounds]; omega)]; rfl
    · rw [Array.getElem?_setIfInBounds_ne (by omega), Array.getElem?_setIfInBounds_ne (by omega), Array.getElem?_setIfInBounds_ne (by omega), Array.getElem?_setIfInBounds_ne (by omega), Array.getElem?_setIfInBounds_ne (by omega), Array.getElem?_setIfInBounds_self_of_lt (by simp only [Array.size_setIfInBounds]; omega)]; rfl
    · rw [Array.getElem?_setIfInBounds_ne (by omega), Array.getElem?_setIfInBounds_ne (by omega), Array.getElem?_setIfInBounds_ne (by omega), Array.getElem?_setIfInBounds_ne (by omega), Array.getElem?_setIfInBounds_self_of_lt (by simp only [Array.size_setIfInBounds]; omega)]; rfl
    · rw [Array.getElem?_setIfInBounds_ne (by omega), Array.getElem?_setIfInBounds_ne (by omega), Array.getElem?_setIfInBounds_ne (by omega), Array.getElem?_setIfInBounds_self_of_lt (by simp only [Array.size_setIfInBounds]; omega)]; rfl
    · rw [Array.getElem?_setIfInBounds_ne (by omega), Array.getElem?_setIfInBounds_ne (by omega), Array.getElem?_setIfInBounds_self_of_lt (by simp only [Array.size_setIfInBounds]; omega)]; rfl
    · rw [Array.getElem?_setIfInBounds_ne (by omega), Array.getElem?_setIfInBounds_self_of_lt (by simp only [Array.size_setIfInBounds]; omega)]; rfl
    · rw [Array.getElem?_setIfInBounds_self_of_lt (by simp only [Array.size_setIfInBounds]; omega)]; rfl
  · obtain ⟨h', h1, h2⟩ := hj i (by omega)
    refine ⟨h', (node_set (node_set (node_set (node_set (node_set (node_set (node_set (node_set (h1.below hb))))))))), fun j hj' => ?_⟩
    rw [← h2 j hj']
    repeat rw [Array.getElem?_setIfInBounds_ne (by omega)]
theorem info_node : (Try.prog.info? 28).map (fun i => (i.zero, i.size, i.bytes)) = some (some (.agg #[.int .i64 0, .string ⟨#[]⟩, .string ⟨#[]⟩, .string ⟨#[]⟩, .slice none 0 0, .slice none 0 0, .slice none 0 0, .string ⟨#[]⟩]), 8, 144) := by kernel_rfl
theorem madeN_new {w : World} {B g cap : Nat} {t : TypeId} {L : List Tree} {xs : List Value} (h : w.ownsRow B t 8 (.slice (some ⟨g, 0, none⟩) L.length cap) L.length xs) (hc : cap = L.length) : MadeN w g L 0 := by
  rcases h.2 with ⟨h', _⟩ | ⟨g', cap', cur, h', _, hg, _, _, hs, _⟩
  · cases h'
  · cases h'
    subst hc
    exact ⟨cur, t, hg, by omega, fun j hj => by omega⟩
theorem MadeN.nodes {w : World} {g : Nat} {L : List Tree} (h : MadeN w g L L.length) (hl : L.length ≤ maxLen) : NodesAt w g (some ⟨g, 0, none⟩) L := by
  obtain ⟨cur, t, hg, hs, hj⟩ := h.all
  refine ⟨fun _ => ⟨g, 0, rfl, pairs.lt_heap hg, fun i hi => ?_⟩, hl, fun ad e => by cases e; exact Nat.le_refl _⟩
  obtain ⟨h', h1, h2⟩ := hj i hi
  have e : ∀ j, j < 8 → w.cell? ⟨g, 0 + i * 8 + j, none⟩ = (vals (kid L i) h')[j]? := fun j hj => by
    rw [← h2 j hj, Nat.zero_add]
    simp [World.cell?, hg]
  exact ⟨h', NodeIn.mono (by omega) _ _ h1, e 0 (by omega), e 1 (by omega), e 2 (by omega), e 3 (by omega), e 4 (by omega), e 5 (by omega), e 6 (by omega), e 7 (by omega)⟩
theorem NodesAt.mono {w : World} {B B' : Nat} {a : Option Addr} {L : List Tree} (h : NodesAt w B a L) (hB : B' ≤ B) : NodesAt w B' a L :=
  ⟨fun h0 => by
    obtain ⟨b, off, ha, hlt, hc⟩ := h.row h0
    refine ⟨b, off, ha, hlt, fun i hi => ?_⟩
    obtain ⟨h', h1, h2⟩ := hc i hi
    exact ⟨h', NodeIn.mono hB _ _ h1, h2⟩, h.short, fun ad e => Nat.le_trans hB (h.ge ad e)⟩
/-- What toNode answers. -/
def ToOk (t : Tree) (h : Hdr) (w : World) : Prop :=
  Calls Try.prog 31 #[.agg (vals t h)] w fun e w' => (∃ h', e = .returned (.agg (vals t h')) ∧ NodeIn w' w.heap.size t h') ∧ Below w.heap.size w w'
set_option maxRecDepth 100000 in
set_option maxHeartbeats 4000000 in
theorem mk_nodes_of (n B : Nat) (ih : ∀ t h w, tsize t < n → nsz t ≤ 1048576 → NodeIn w B t h → ToOk t h w) (w : World) (a : Option Addr) (L : List Tree) (cap : Nat) (hn : ksize L < n) (hz : nszs L ≤ 1048576) (hL : Hid (NodesAt w B a L)) :
    Calls Try.prog 39 #[.slice a L.length cap] w fun e w' => (∃ g, e = .returned (.slice (some ⟨g, 0, none⟩) L.length L.length) ∧ w.heap.size ≤ g ∧ MadeN w' g L L.length) ∧ Below w.heap.size w w' := by
  have HZ : Hid _ := hz
  have hlz : L.length ≤ 1048576 := by have := nszs_eq L; omega
  clear hz
  have HIH : Hid (∀ t h w, tsize t < n → nsz t ≤ 1048576 → NodeIn w B t h → ToOk t h w) := ih
  clear ih
  go_enter Try.func39, Try.ntmps39
  go_wp2
  obtain ⟨i0, hi, hz0, hz1, hz2⟩ := info_parts info_node
  obtain ⟨w1, hrun, hown, hgr⟩ := run_make_full (P := Try.prog) w w.heap.size 26 28 i0 (.agg #[.int .i64 0, .string ⟨#[]⟩, .string ⟨#[]⟩, .string ⟨#[]⟩, .slice none 0 0, .slice none 0 0, .slice none 0 0, .string ⟨#[]⟩]) 8 Try.underlying26 hi hz0 hz1 .i64 .i64 L.length (by rw [hz2]; omega) (by unfold maxLen; omega) (Nat.le_refl _)
  refine pairs.upon_of_run hrun ?_
  have hm : MadeN w1 w.heap.size L 0 := madeN_new hown rfl
  have HM : Hid _ := hm
  have HB : Hid (Below w.heap.size w w1) := (Below.refl _ _).grown hgr (Nat.le_refl _) (fun k hk => by cases hk)
  clear hm hrun hown hgr
  go_wp2
  go_loopw [4] (fun t wr => ∃ (k : Nat), k ≤ L.length ∧ t = .int .i64 k ∧ Hid (MadeN wr w.heap.size L k) ∧ Hid (Below w.heap.size w wr)) (fun t _ => L.length - (intOf t).toNat)
  case atStart => exact ⟨0, Nat.zero_le _, rfl, HM, HB⟩
  case round =>
    obtain ⟨k, hk, rfl, hmr, hbw⟩ := hrel
    by_cases hlt : k < L.length
    · obtain ⟨b, off, ha, hblt, hc⟩ := (hL.out.below hbw.out).row (by omega)
      obtain ⟨h, hnode, hc0, hc1, hc2, hc3, hc4, hc5, hc6, hc7⟩ := hc k hlt
      have hks := ksize_kid L k hlt
      have hkz := nsz_kid L k hlt
      have hT := HIH.out (kid L k) h wr (by omega) (by have := HZ.out; omega) hnode
      unfold ToOk at hT
      unfold vals at hT
      have hmn := fun w2 (h : Below wr.heap.size wr w2) => hmr.out.next hlt h
      obtain ⟨x, hx⟩ : ∃ x, x = kid L k := ⟨_, rfl⟩
      have HX : Hid _ := hx
      rw [← hx] at hc0 hc1 hc2 hc3 hc4 hc5 hc6 hc7 hT
      subst ha
      have HT : Hid _ := hT
      have HMN : Hid _ := hmn
      have HGR : Hid (w.heap.size + 1 ≤ wr.heap.size) := by
        obtain ⟨cur, ty, hg, _⟩ := hmr.out.all
        exact pairs.lt_heap hg
      clear hT hc hnode hks hkz hmn hx
      go_wp2_with fail
      refine Calls.mono HT.out ?_
      rintro e w2 ⟨⟨h', rfl, hn2⟩, hb2⟩
      obtain ⟨c0, c1, c2, c3, c4, c5, c6, c7, hd0, hd1, hd2, hd3, hd4, hd5, hd6, hd7, hf0, hf1, hf2, hf3, hf4, hf5, hf6, hf7, hnext⟩ := HMN.out w2 hb2
      have HB2 : Hid _ := hbw.out.trans (hb2.mono hbw.out.size)
      have HNX : Hid _ := hnext x h' HX.out (NodeIn.mono HGR.out _ _ hn2)
      clear hb2 hnext hn2 HT HMN
      go_wp2
      go_roundw
      case rel => exact ⟨k + 1, by omega, by go_num, HNX.out, pairs.below_set (pairs.below_set (pairs.below_set (pairs.below_set (pairs.below_set (pairs.below_set (pairs.below_set (pairs.below_set HB2.out (Nat.le_refl _)) (Nat.le_refl _)) (Nat.le_refl _)) (Nat.le_refl _)) (Nat.le_refl _)) (Nat.le_refl _)) (Nat.le_refl _)) (Nat.le_refl _)⟩
      case measure => simp [intOf]; omega
    · have HF : Hid (MadeN wr w.heap.size L L.length) := by
        have h1 := hmr.out
        rw [show k = L.length by omega] at h1
        exact h1
      go_wp2
      go_ret
      exact ⟨⟨_, rfl, Nat.le_refl _, HF.out⟩, hbw.out⟩
theorem froz8 {w : World} {b : Nat} {t : TypeId} {C : Array Value} (h : w.heap[b]? = some (.cells C t (0, 0))) :
    w.frozen? ⟨b, 0, none⟩ = false ∧ w.frozen? ⟨b, 1, none⟩ = false ∧ w.frozen? ⟨b, 2, none⟩ = false ∧ w.frozen? ⟨b, 3, none⟩ = false ∧ w.frozen? ⟨b, 4, none⟩ = false ∧ w.frozen? ⟨b, 5, none⟩ = false ∧ w.frozen? ⟨b, 6, none⟩ = false ∧ w.frozen? ⟨b, 7, none⟩ = false := by
  simp [World.frozen?, h]
theorem set_ne {W : World} {b o k : Nat} {u : Value} (h : k ≠ b) : (W.setCell ⟨b, o, none⟩ u).heap[k]? = W.heap[k]? := Below.heap_setCell W ⟨b, o, none⟩ u k h
theorem set10 {W : World} {b c k : Nat} {u0 : Value} {u1 : Value} {u2 : Value} {u3 : Value} {u4 : Value} {u5 : Value} {u6 : Value} {u7 : Value} {u8 : Value} {u9 : Value} (h1 : k ≠ b) (h2 : k ≠ c) : ((((((((((W.setCell ⟨b, 6, none⟩ u0).setCell ⟨b, 7, none⟩ u1).setCell ⟨c, 0, none⟩ u2).setCell ⟨c, 1, none⟩ u3).setCell ⟨c, 2, none⟩ u4).setCell ⟨c, 3, none⟩ u5).setCell ⟨c, 4, none⟩ u6).setCell ⟨c, 5, none⟩ u7).setCell ⟨c, 6, none⟩ u8).setCell ⟨c, 7, none⟩ u9).heap[k]? = W.heap[k]? := by
  rw [set_ne h2, set_ne h2, set_ne h2, set_ne h2, set_ne h2, set_ne h2, set_ne h2, set_ne h2, set_ne h1, set_ne h1]
/-- The three boxes of toNode. -/
structure Tb (w W : World) (P O : Array Value) : Prop where
  par : W.heap[w.heap.size]? = some (.cells P 52 (0, 0))
  res : W.heap[w.heap.size + 1]? = some (.cells #[.int .i64 0, .string ⟨#[]⟩, .string ⟨#[]⟩, .string ⟨#[]⟩, .slice none 0 0, .slice none 0 0, .slice none 0 0, .string ⟨#[]⟩] 28 (0, 0))
  out : W.heap[w.heap.size + 1 + 1]? = some (.cells O 28 (0, 0))
  bel : Below w.heap.size w W
theorem Tb.size {w W : World} {P O : Array Value} (h : Tb w W P O) : w.heap.size + 3 ≤ W.heap.size := pairs.lt_heap h.out
theorem Tb.new (w : World) (P O : Array Value) : Tb w (((w.alloc (.cells P 52)).alloc (.cells #[.int .i64 0, .string ⟨#[]⟩, .string ⟨#[]⟩, .string ⟨#[]⟩, .slice none 0 0, .slice none 0 0, .slice none 0 0, .string ⟨#[]⟩] 28)).alloc (.cells O 28)) P O := by
  refine ⟨?_, ?_, ?_, (((Below.refl _ w).alloc (Nat.le_refl _) _).alloc (by simp) _).alloc (by simp; omega) _⟩
  · exact (Below.heap_alloc _ _ _ (by simp; omega)).trans ((Below.heap_alloc _ _ _ (by simp)).trans (heap_alloc_new w _))
  · have := heap_alloc_new (w.alloc (.cells P 52)) (.cells #[.int .i64 0, .string ⟨#[]⟩, .string ⟨#[]⟩, .string ⟨#[]⟩, .slice none 0 0, .slice none 0 0, .slice none 0 0, .string ⟨#[]⟩] 28)
    rw [World.size_alloc] at this
    exact (Below.heap_alloc _ _ _ (by simp)).trans this
  · have := heap_alloc_new ((w.alloc (.cells P 52)).alloc (.cells #[.int .i64 0, .string ⟨#[]⟩, .string ⟨#[]⟩, .string ⟨#[]⟩, .slice none 0 0, .slice none 0 0, .slice none 0 0, .string ⟨#[]⟩] 28)) (.cells O 28)
    rw [World.size_alloc, World.size_alloc] at this
    exact this
theorem Tb.below {w W W' : World} {P O : Array Value} (h : Tb w W P O) (hb : Below W.heap.size W W') : Tb w W' P O :=
  ⟨(hb.block _ (pairs.lt_heap h.par)).trans h.par, (hb.block _ (pairs.lt_heap h.res)).trans h.res, (hb.block _ (pairs.lt_heap h.out)).trans h.out, h.bel.trans (hb.mono h.bel.size)⟩
theorem Tb.set {w W : World} {P O : Array Value} (h : Tb w W P O) (i : Nat) (u : Value) : Tb w (W.setCell ⟨w.heap.size + 1 + 1, i, none⟩ u) P (O.setIfInBounds i u) :=
  ⟨(Below.heap_setCell _ ⟨w.heap.size + 1 + 1, i, none⟩ _ _ (by show w.heap.size ≠ w.heap.size + 1 + 1; omega)).trans h.par, (Below.heap_setCell _ ⟨w.heap.size + 1 + 1, i, none⟩ _ _ (by show w.heap.size + 1 ≠ w.heap.size + 1 + 1; omega)).trans h.res, pairs.block_set _ h.out, h.bel.setCell (p := ⟨w.heap.size + 1 + 1, i, none⟩) (by show w.heap.size ≤ w.heap.size + 1 + 1; omega) _⟩
set_option maxRecDepth 100000 in
set_option maxHeartbeats 4000000 in
theorem to_node_of (n B : Nat) (ihS : ∀ (w : World) (a : Option Addr) (L : List Tree) (cap : Nat), ksize L < n → nszs L ≤ 1048576 → NodesAt w B a L → Calls Try.prog 39 #[.slice a L.length cap] w fun e w' => (∃ g, e = .returned (.slice (some ⟨g, 0, none⟩) L.length L.length) ∧ w.heap.size ≤ g ∧ MadeN w' g L L.length) ∧ Below w.heap.size w w')
    (t : Tree) (h : Hdr) (w : World) (ht : tsize t ≤ n) (hz : nsz t ≤ 1048576) (hn : NodeIn w B t h) : ToOk t h w := by
  obtain ⟨k, p, l, u, x, ds, ats, ks⟩ := t
  obtain ⟨da, dc, aa, ac, ka, kc⟩ := h
  have HD : Hid (PairsAt w da ds) := hn.decls
  have HA : Hid (AttsAt w aa ats) := hn.atts
  have HK : Hid (NodesAt w B ka ks) := kids_at hn
  have HFT : Hid (Tree.fits (.mk k p l u x ds ats ks)) := hn.fit
  have HKS : Hid (ksize ks < n) := by rw [tsize] at ht; show _ < _; omega
  rw [nsz] at hz
  have HZD : Hid (ds.length ≤ 1048576) := by show _ ≤ _; omega
  have HZA : Hid (ats.length ≤ 1048576) := by unfold smallA at hz; show _ ≤ _; omega
  have HZK : Hid (nszs ks ≤ 1048576) := by show _ ≤ _; omega
  have HIS : Hid _ := ihS
  unfold ToOk
  simp only [vals, Tree.kind, Tree.pre, Tree.loc, Tree.uri, Tree.text, Tree.ds, Tree.ats, Tree.kids]
  clear ihS hn ht hz
  go_enter Try.func31, Try.ntmps31
  have HT0 : Hid (Tb w (((w.alloc (.cells #[.int .i64 k, .string p, .string l, .string u, .slice da ds.length dc, .slice aa ats.length ac, .slice ka ks.length kc, .string x] 52)).alloc (.cells #[.int .i64 0, .string ⟨#[]⟩, .string ⟨#[]⟩, .string ⟨#[]⟩, .slice none 0 0, .slice none 0 0, .slice none 0 0, .string ⟨#[]⟩] 28)).alloc (.cells #[.int .i64 k, .string p, .string l, .string u, .slice none 0 0, .slice none 0 0, .slice none 0 0, .string ⟨#[]⟩] 28)) #[.int .i64 k, .string p, .string l, .string u, .slice da ds.length dc, .slice aa ats.length ac, .slice ka ks.length kc, .string x] #[.int .i64 k, .string p, .string l, .string u, .slice none 0 0, .slice none 0 0, .slice none 0 0, .string ⟨#[]⟩]) := Tb.new w _ _
  go_wp2_with fail
  refine (pairs.mk_DeclS _ da ds dc (HD.out.below (Nat.le_refl _) HT0.out.bel) HZD.out).mono ?_
  rintro e w1 ⟨⟨g1, rfl, hg1, hp1, -⟩, hb1⟩
  have HT1 : Hid _ := HT0.out.below hb1
  have HG1 : Hid (w.heap.size + 3 ≤ g1) := Nat.le_trans HT0.out.size hg1
  obtain ⟨b0, b1, b2, b3, b4, b5, b6, b7⟩ := box8 HT1.out.par
  obtain ⟨o0, o1, o2, o3, o4, o5, o6, o7⟩ := box8 HT1.out.out
  obtain ⟨f0, f1, f2, f3, f4, f5, f6, f7⟩ := froz8 HT1.out.out
  have HT2 : Hid _ := HT1.out.set 4 (.slice (some ⟨g1, 0, none⟩) ds.length ds.length)
  have HP1 : Hid _ := pairs_keep (w' := w1.setCell ⟨w.heap.size + 1 + 1, 4, none⟩ (.slice (some ⟨g1, 0, none⟩) ds.length ds.length)) hp1 (by rw [set_size]; exact Nat.le_refl _) (fun b off e _ => by cases e; exact set_keeps g1 HG1.out)
  clear hg1 hp1 hb1
  go_wp2_with fail
  refine (mk_atts _ aa ats ac (HA.out.below (Nat.le_refl _) HT2.out.bel) HZA.out).mono ?_
  rintro e w2 ⟨⟨g2, rfl, hg2, hp2, -⟩, hb2⟩
  have HT3 : Hid _ := HT2.out.below hb2
  have HG2 : Hid (w.heap.size + 3 ≤ g2) := Nat.le_trans HT2.out.size hg2
  have hp1 := HP1.out.below (Nat.le_refl _) hb2
  clear HP1 b0 b1 b2 b3 b4 b5 b6 b7 o0 o1 o2 o3 o4 o5 o6 o7 f0 f1 f2 f3 f4 f5 f6 f7
  obtain ⟨b0, b1, b2, b3, b4, b5, b6, b7⟩ := box8 HT3.out.par
  obtain ⟨o0, o1, o2, o3, o4, o5, o6, o7⟩ := box8 HT3.out.out
  obtain ⟨f0, f1, f2, f3, f4, f5, f6, f7⟩ := froz8 HT3.out.out
  have HT4 : Hid _ := HT3.out.set 5 (.slice (some ⟨g2, 0, none⟩) ats.length ats.length)
  have HP1 : Hid _ := pairs_keep (w' := w2.setCell ⟨w.heap.size + 1 + 1, 5, none⟩ (.slice (some ⟨g2, 0, none⟩) ats.length ats.length)) hp1 (by rw [set_size]; exact Nat.le_refl _) (fun b off e _ => by cases e; exact set_keeps g1 HG1.out)
  have HP2 : Hid _ := hp2.keep (w' := w2.setCell ⟨w.heap.size + 1 + 1, 5, none⟩ (.slice (some ⟨g2, 0, none⟩) ats.length ats.length)) (by rw [set_size]; exact Nat.le_refl _) (fun b off e _ => by cases e; exact set_keeps g2 HG2.out)
  clear hg2 hp1 hp2 hb2
  go_wp2_with fail
  refine (HIS.out _ ka ks kc HKS.out HZK.out (HK.out.below HT4.out.bel)).mono ?_
  rintro e w3 ⟨⟨g3, rfl, hg3, hm3⟩, hb3⟩
  have HT5 : Hid _ := HT4.out.below hb3
  have HG3 : Hid (w.heap.size + 3 ≤ g3) := Nat.le_trans HT4.out.size hg3
  have HP1n : Hid _ := HP1.out.below (Nat.le_refl _) hb3
  have HP2n : Hid _ := HP2.out.below (Nat.le_refl _) hb3
  have HP3 : Hid (NodesAt w3 g3 (some ⟨g3, 0, none⟩) ks) := hm3.nodes HK.out.short
  clear HP1 HP2 b0 b1 b2 b3 b4 b5 b6 b7 o0 o1 o2 o3 o4 o5 o6 o7 f0 f1 f2 f3 f4 f5 f6 f7 hb3 hg3 hm3
  obtain ⟨b0, b1, b2, b3, b4, b5, b6, b7⟩ := box8 HT5.out.par
  obtain ⟨o0, o1, o2, o3, o4, o5, o6, o7⟩ := box8 HT5.out.out
  obtain ⟨f0, f1, f2, f3, f4, f5, f6, f7⟩ := froz8 HT5.out.out
  obtain ⟨r0, r1, r2, r3, r4, r5, r6, r7⟩ := box8 HT5.out.res
  obtain ⟨s0, s1, s2, s3, s4, s5, s6, s7⟩ := froz8 HT5.out.res
  go_wp2
  refine bodyPost_ret (by simp [results, Try.results31, go_sem, r0, r1, r2, r3, r4, r5, r6, r7]; try rfl) rfl ?_
  refine ⟨⟨⟨some ⟨g1, 0, none⟩, ds.length, some ⟨g2, 0, none⟩, ats.length, some ⟨g3, 0, none⟩, ks.length⟩, rfl, ?_⟩, pairs.below_set (pairs.below_set (pairs.below_set (pairs.below_set (pairs.below_set (pairs.below_set (pairs.below_set (pairs.below_set (pairs.below_set (pairs.below_set HT5.out.bel (by omega)) (by omega)) (by omega)) (by omega)) (by omega)) (by omega)) (by omega)) (by omega)) (by omega)) (by omega)⟩
  refine node_of ⟨HFT.out, Nat.le_refl _⟩ (pairs_keep HP1n.out (by simp only [set_size]; exact Nat.le_refl _) (fun b off e _ => by cases e; exact set10 (by have := HG1.out; omega) (by have := HG1.out; omega))) (HP2n.out.keep (by simp only [set_size]; exact Nat.le_refl _) (fun b off e _ => by cases e; exact set10 (by have := HG2.out; omega) (by have := HG2.out; omega)))
    ((HP3.out.keep (by simp only [set_size]; exact Nat.le_refl _) (fun k hk _ => set10 (by have := HG3.out; omega) (by have := HG3.out; omega))).mono (by have := HG3.out; omega)) (fun ad e => by cases e; have := HG1.out; show w.heap.size ≤ g1; omega) (fun ad e => by cases e; have := HG2.out; show w.heap.size ≤ g2; omega)
theorem to_node (B : Nat) : ∀ n, ∀ (t : Tree) (h : Hdr) (w : World), tsize t < n → nsz t ≤ 1048576 → NodeIn w B t h → ToOk t h w
  | 0, t, h, w, ht, _, _ => by omega
  | n + 1, t, h, w, ht, hz, hn =>
    to_node_of n B (fun w a L cap hk hz hL => mk_nodes_of n B (fun t h w ht hz hn => to_node B n t h w ht hz hn) w a L cap hk hz hL) t h w (by omega) hz hn
theorem mk_nodes (B : Nat) (w : World) (a : Option Addr) (L : List Tree) (cap : Nat) (hz : nszs L ≤ 1048576) (hL : NodesAt w B a L) :
    Calls Try.prog 39 #[.slice a L.length cap] w fun e w' => (∃ g, e = .returned (.slice (some ⟨g, 0, none⟩) L.length L.length) ∧ w.heap.size ≤ g ∧ MadeN w' g L L.length) ∧ Below w.heap.size w w' :=
  mk_nodes_of (ksize L + 1) B (fun t h w ht hz hn => to_node B _ t h w ht hz hn) w a L cap (by omega) hz hL
end Go.Proofs.Ytpejcblmglbjfaa.trees
namespace Go.Proofs.Ytpejcblmglbjfaa.trees
open Go.ChangeShapes Go.WideShapes Go.ChangeAt Go.RowKit
open pairs (Pair at0 PairsAt)
open scopes (xmlB textB declsB ret_bool)
set_option linter.unusedVariables false
/-- What NodeOk says of a node. -/
def NodeOkOk (t : Tree) (h : Hdr) (w : World) : Prop :=
  Calls Try.prog 103 #[.agg (vals t h)] w fun e w' => e = .returned (.bool (nodeOkB t)) ∧ Below w.heap.size w w'
/-- A list of one node, in a row of its own. -/
theorem one_row {w : World} {B : Nat} {t : Tree} {h : Hdr} {ty : TypeId} (hn : NodeIn w B t h) : NodesAt (w.alloc (.cells (vals t h) ty)) 0 (some ⟨w.heap.size, 0, none⟩) [t] := by
  have hb : Below w.heap.size w (w.alloc (.cells (vals t h) ty)) := (Below.refl _ _).alloc (Nat.le_refl _) _
  refine ⟨fun _ => ⟨w.heap.size, 0, rfl, by simp, fun i hi => ?_⟩, by simp [maxLen], fun _ _ => Nat.zero_le _⟩
  obtain rfl : i = 0 := by simpa using hi
  refine ⟨h, NodeIn.mono (Nat.zero_le _) _ _ (hn.below hb), ?_⟩
  have hx : (w.alloc (.cells (vals t h) ty)).heap[w.heap.size]? = some (.cells (vals t h) ty (0, 0)) := heap_alloc_new w _
  unfold vals at hx ⊢
  exact box8 hx
theorem kids_one (t : Tree) (r : Nat) : kidsB [t] r = nodeB t r := by
  unfold kidsB
  rw [nodesB, nodesB, meet_no (fun i hi => by obtain rfl : i = 0 := (by simpa using hi); rfl)]
  simp
def emptyB (t : Tree) : Bool := t.pre.toList.isEmpty && (t.loc.toList.isEmpty && (t.uri.toList.isEmpty && (t.text.toList.isEmpty && ((((t.ds.length : Nat) : Int) == 0) && (((t.ats.length : Nat) : Int) == 0)))))
theorem whole_eq (t : Tree) : wholeB t = ((((kindTo t.kids 1 t.kids.length : Nat) : Int) == 1) && ((((kindTo t.kids 2 t.kids.length : Nat) : Int) == 0) && emptyB t)) := rfl
theorem whole_text {t : Tree} {i : Nat} (hi : i < t.kids.length) (h : ((kid t.kids i).kind == 2) = true) : wholeB t = false := by
  have := kindTo_some t.kids 2 hi h
  rw [whole_eq]
  have e : (((kindTo t.kids 2 t.kids.length : Nat) : Int) == 0) = false := by simp; omega
  rw [e]; simp
theorem whole_count {t : Tree} (h : ∀ i, i < t.kids.length → ((kid t.kids i).kind == 2) = false) : wholeB t = ((((kindTo t.kids 1 t.kids.length : Nat) : Int) == 1) && emptyB t) := by
  rw [whole_eq, kindTo_none t.kids 2 h]
  simp
theorem spec_cnt_flat {k : Int} {p l u x : ByteArray} {ds : List Pair} {ats : List Att} {ks : List Tree} {da : Option Addr} {dc : Nat} {aa : Option Addr} {ac : Nat} {ka : Option Addr} {kc : Nat} {w : World} {B c : Nat} (hc : cnt (.mk k p l u x ds ats ks) = c) (hz : nsz (.mk k p l u x ds ats ks) ≤ 1048576) (hn : NodeAt w B (.mk k p l u x ds ats ks) ⟨da, dc, aa, ac, ka, kc⟩) : Calls Try.prog 107 #[.agg #[.int .i64 k, .string p, .string l, .string u, .slice da ds.length dc, .slice aa ats.length ac, .slice ka ks.length kc, .string x]] w fun e w' => e = .returned (.int .i64 c) ∧ Below w.heap.size w w' := by
  have := cnt_node B _ (.mk k p l u x ds ats ks) ⟨da, dc, aa, ac, ka, kc⟩ w (Nat.lt_succ_self _) (by omega) hn.node
  unfold CntOk at this
  rw [hc] at this
  exact this
set_option maxRecDepth 100000 in
set_option maxHeartbeats 8000000 in
theorem spec_node_ok (t : Tree) (h : Hdr) (B : Nat) (w : World) (hz : nsz t ≤ 1048576) (hn : NodeIn w B t h) : NodeOkOk t h w := by
  have hR : nodeOkB t = (decide ((cnt t : Int) ≤ 60) && (bif t.kind == 0 then wholeB t && kidsB t.kids 7 else nodeB t 7)) := rfl
  have hW := whole_eq t
  have hWT := @whole_text t
  have hWC := @whole_count t
  have hcl := cnt_le t
  have hemp : emptyB t = (t.pre.toList.isEmpty && (t.loc.toList.isEmpty && (t.uri.toList.isEmpty && (t.text.toList.isEmpty && ((((t.ds.length : Nat) : Int) == 0) && (((t.ats.length : Nat) : Int) == 0)))))) := rfl
  obtain ⟨k, p, l, u, x, ds, ats, ks⟩ := t
  obtain ⟨da, dc, aa, ac, ka, kc⟩ := h
  simp only [Tree.kind, Tree.pre, Tree.loc, Tree.uri, Tree.text, Tree.ds, Tree.ats, Tree.kids] at hR hWT hWC hemp
  have HN : Hid (NodeAt w B (.mk k p l u x ds ats ks) ⟨da, dc, aa, ac, ka, kc⟩) := ⟨hn⟩
  have HK : Hid (NodesAt w B ka ks) := kids_at hn
  have hkk : ks.length ≤ 9223372036854775807 := (kids_at hn).short
  have HKZ : Hid (∀ j, j < ks.length → nsz (kid ks j) ≤ 1048576) := fun j hj => by
    have h1 := nsz_kid ks j hj
    rw [nsz] at hz
    omega
  have HZ : Hid _ := hz
  obtain ⟨c, hc⟩ : ∃ c, cnt (.mk k p l u x ds ats ks) = c := ⟨_, rfl⟩
  rw [hc] at hcl
  have hcb : c ≤ 1048577 := by omega
  have HC : Hid _ := hc
  rw [hc] at hR
  have H1 : Hid (∀ w, _) := fun w (h : NodesAt w 0 (some ⟨w.heap.size - 1, 0, none⟩) [Tree.mk k p l u x ds ats ks]) => spec_kids 0 _ [Tree.mk k p l u x ds ats ks] (some ⟨w.heap.size - 1, 0, none⟩) 1 0 w (Nat.lt_succ_self _) (by omega) (fun i hi => by obtain rfl : i = 0 := (by simpa using hi); exact HZ.out) h
  obtain ⟨nb, hnb⟩ : ∃ nb, nodeB (.mk k p l u x ds ats ks) 7 = nb := ⟨_, rfl⟩
  have H1 : Hid (∀ w, NodesAt w 0 (some ⟨w.heap.size - 1, 0, none⟩) [Tree.mk k p l u x ds ats ks] → Calls Try.prog 108 #[.slice (some ⟨w.heap.size - 1, 0, none⟩) 1 1, .int .i64 0] w fun e w' => e = .returned (.bool nb) ∧ Below w.heap.size w w') := fun w h => by
    have := H1.out w h
    unfold KidsOk at this
    rw [kids_one, hnb] at this
    exact this
  obtain ⟨kb, hkb⟩ : ∃ kb, kidsB ks 7 = kb := ⟨_, rfl⟩
  have H2 : Hid (∀ w, NodesAt w B ka ks → Calls Try.prog 108 #[.slice ka ks.length kc, .int .i64 0] w fun e w' => e = .returned (.bool kb) ∧ Below w.heap.size w w') := fun w h => by
    have := spec_kids B _ ks ka kc 0 w (Nat.lt_succ_self _) (by omega) HKZ.out h
    unfold KidsOk at this
    rw [hkb] at this
    exact this
  unfold NodeOkOk
  rw [hR, hkb, hnb]
  generalize hwb : wholeB (.mk k p l u x ds ats ks) = wb at hWT hWC
  have HWT : Hid (∀ i, i < ks.length → ((kid ks i).kind == 2) = true → wb = false) := fun i hi h => hWT hi h
  have HWC : Hid ((∀ i, i < ks.length → ((kid ks i).kind == 2) = false) → wb = ((((kindTo ks 1 ks.length : Nat) : Int) == 1) && emptyB (.mk k p l u x ds ats ks))) := fun h => hWC h
  have HEM : Hid _ := hemp
  simp only [vals, Tree.kind, Tree.pre, Tree.loc, Tree.uri, Tree.text, Tree.ds, Tree.ats, Tree.kids]
  clear hR hW hWT hWC hemp hn hz hcl hc hnb hkb hwb
  have HROW : Hid (∀ W, Below w.heap.size w W → NodesAt (W.alloc (.cells #[.int .i64 k, .string p, .string l, .string u, .slice da ds.length dc, .slice aa ats.length ac, .slice ka ks.length kc, .string x] 28)) 0 (some ⟨W.heap.size, 0, none⟩) [Tree.mk k p l u x ds ats ks]) := fun W h => one_row (HN.out.below h).node
  go_enter Try.func103, Try.ntmps103
  go_wp2_with fail
  refine (spec_cnt_flat HC.out HZ.out (HN.out.below ((Below.refl _ _).alloc (Nat.le_refl _) _))).mono ?_
  rintro e w1 ⟨rfl, hb1⟩
  have HX : Hid _ := box_kept hb1
  have HB : Hid _ := box_under hb1
  obtain ⟨b0, b1, b2, b3, b4, b5, b6, b7⟩ := box8 HX.out
  clear hb1
  by_cases h60 : (c : Int) ≤ 60
  · cases hk0 : (k == 0)
    · have hk0' : (k != 0) = true := by simp [bne, hk0]
      have H1' : Hid _ := H1.out _ (by have := HROW.out w1 HB.out; rw [World.size_alloc, Nat.add_sub_cancel]; exact this)
      rw [World.size_alloc, Nat.add_sub_cancel] at H1'
      go_wp2_with fail
      refine Calls.mono H1'.out ?_
      rintro e w2 ⟨rfl, hb2⟩
      have HB2 : Hid _ := HB.out.trans ((box_under (by rw [World.size_alloc]; exact hb2)).mono HB.out.size)
      clear hb2
      go_wp2
      go_ret
      exact ⟨ret_bool (by rw [decide_eq_true h60, hk0]; rfl), HB2.out⟩
    · have hk0' : (k != 0) = false := by simp [bne, hk0]
      go_wp2_with fail
      go_loopw [3, 4] (fun q t wr => ∃ i : Nat, i ≤ ks.length ∧ t = .int .i64 i ∧ q = .int .i64 (kindTo ks 1 i : Int) ∧ Hid (∀ j, j < i → ((kid ks j).kind == 2) = false) ∧ wr = w1) (fun _ t _ => ks.length - (intOf t).toNat)
      case atStart => exact ⟨0, Nat.zero_le _, rfl, rfl, (fun j hj => by omega), rfl⟩
      case round =>
        obtain ⟨i, hi, rfl, rfl, hup, rfl⟩ := hrel
        by_cases hlt : i < ks.length
        · obtain ⟨b, off, ha, hblt, hcs⟩ := (HK.out.below HB.out).row (by omega)
          obtain ⟨h', hnode, hc0, _⟩ := hcs i hlt
          have hst : kindTo ks 1 (i + 1) = kindTo ks 1 i + (bif (kid ks i).kind == 1 then 1 else 0) := rfl
          have hle := kindTo_le ks 1 i
          have hwt := HWT.out i hlt
          have hmo := fun h => upto_more (f := fun i => !((kid ks i).kind == 2)) (n := i) (fun j hj => by rw [hup.out j hj]; rfl) h
          generalize kid ks i = y at hc0 hst hwt hmo
          have HWTi : Hid (∀ h, _) := hwt
          have HMO : Hid (∀ h, _) := hmo
          have HST : Hid _ := hst
          subst ha
          clear hcs hnode hst hwt hmo
          cases hk2 : (y.kind == 2)
          · have HUP : Hid (∀ j, j < i + 1 → ((kid ks j).kind == 2) = false) := fun j hj => by have := HMO.out (by rw [hk2]; rfl) j hj; simpa using this
            cases hk1 : (y.kind == 1)
            · rw [hk1] at HST
              go_wp2
              go_roundw
              case rel => exact ⟨i + 1, by omega, by go_num, (by rw [HST.out]; rfl), HUP.out, trivial⟩
              case measure => simp [intOf]; omega
            · rw [hk1] at HST
              go_wp2
              go_roundw
              case rel => exact ⟨i + 1, by omega, by go_num, (by rw [HST.out]; congr 1), HUP.out, trivial⟩
              case measure => simp [intOf]; omega
          · have HF : Hid (wb = false) := HWTi.out hk2
            have hk1 : (y.kind == 1) = false := by rw [beq_iff_eq] at hk2; rw [hk2]; rfl
            go_wp2
            go_ret
            exact ⟨ret_bool (by rw [decide_eq_true h60, HF.out, hk0]; rfl), HB.out⟩
        · obtain rfl : i = ks.length := by omega
          have HWW := HWC.out hup.out
          rw [HEM.out] at HWW
          have HWE : Hid _ := HWW
          clear HWW
          cases z1 : (((kindTo ks 1 ks.length : Nat) : Int) == 1)
          · have HWF : Hid (wb = false) := by show _ = _; rw [HWE.out, z1]; simp
            go_wp2
            go_ret
            exact ⟨ret_bool (by rw [decide_eq_true h60, HWF.out, hk0]; rfl), HB.out⟩
          · skip
            cases z2 : (p.toList.isEmpty)
            · have HWF : Hid (wb = false) := by show _ = _; rw [HWE.out, z1, z2]; simp
              go_wp2
              go_ret
              exact ⟨ret_bool (by rw [decide_eq_true h60, HWF.out, hk0]; rfl), HB.out⟩
            · skip
              cases z3 : (l.toList.isEmpty)
              · have HWF : Hid (wb = false) := by show _ = _; rw [HWE.out, z1, z2, z3]; simp
                go_wp2
                go_ret
                exact ⟨ret_bool (by rw [decide_eq_true h60, HWF.out, hk0]; rfl), HB.out⟩
              · skip
                cases z4 : (u.toList.isEmpty)
                · have HWF : Hid (wb = false) := by show _ = _; rw [HWE.out, z1, z2, z3, z4]; simp
                  go_wp2
                  go_ret
                  exact ⟨ret_bool (by rw [decide_eq_true h60, HWF.out, hk0]; rfl), HB.out⟩
                · skip
                  cases z5 : (x.toList.isEmpty)
                  · have HWF : Hid (wb = false) := by show _ = _; rw [HWE.out, z1, z2, z3, z4, z5]; simp
                    go_wp2
                    go_ret
                    exact ⟨ret_bool (by rw [decide_eq_true h60, HWF.out, hk0]; rfl), HB.out⟩
                  · skip
                    cases z6 : (((ds.length : Nat) : Int) == 0)
                    · have HWF : Hid (wb = false) := by show _ = _; rw [HWE.out, z1, z2, z3, z4, z5, z6]; simp
                      go_wp2
                      go_ret
                      exact ⟨ret_bool (by rw [decide_eq_true h60, HWF.out, hk0]; rfl), HB.out⟩
                    · skip
                      cases z7 : (((ats.length : Nat) : Int) == 0)
                      · have HWF : Hid (wb = false) := by show _ = _; rw [HWE.out, z1, z2, z3, z4, z5, z6, z7]; simp
                        go_wp2
                        go_ret
                        exact ⟨ret_bool (by rw [decide_eq_true h60, HWF.out, hk0]; rfl), HB.out⟩
                      · skip
                        have HWT2 : Hid (wb = true) := by show _ = _; rw [HWE.out, z1, z2, z3, z4, z5, z6, z7]; rfl
                        go_wp2_with fail
                        refine (H2.out _ (HK.out.below HB.out)).mono ?_
                        rintro e w2 ⟨rfl, hb2⟩
                        have HB2 : Hid _ := HB.out.trans (hb2.mono HB.out.size)
                        clear hb2
                        go_wp2
                        go_ret
                        exact ⟨ret_bool (by rw [decide_eq_true h60, HWT2.out, hk0]; cases kb <;> rfl), HB2.out⟩
  · have HF : Hid (decide ((c : Int) ≤ 60) = false) := decide_eq_false h60
    go_wp2
    go_ret
    exact ⟨ret_bool (by rw [HF.out]; rfl), HB.out⟩
end Go.Proofs.Ytpejcblmglbjfaa.trees
namespace Go.Proofs.Ytpejcblmglbjfaa.trees
open Go.ChangeShapes Go.WideShapes Go.ChangeAt Go.RowKit
open pairs (Pair at0 PairsAt)
open scopes (spaceR)
set_option linter.unusedVariables false
theorem ret_bool {a b : Bool} (h : a = b) : Ending.returned (.bool a) = .returned (.bool b) := by rw [h]
def FitOk (t : Tree) (h : Hdr) (a : Option Addr) (L : List Pair) (cap : Nat) (w : World) : Prop :=
  Calls Try.prog 104 #[.agg (vals t h), .slice a L.length cap] w fun e w' => e = .returned (.bool (fitsB t L)) ∧ Below w.heap.size w w'
set_option maxRecDepth 100000 in
set_option maxHeartbeats 4000000 in
theorem fit_node_of (n B : Nat) (ih : ∀ (t : Tree) (h : Hdr) (a : Option Addr) (L : List Pair) (cap : Nat) (w : World), tsize t < n → L.length + nsz t ≤ 3000000 → (∀ i, i < L.length → (at0 L i).1.size ≤ maxLen ∧ (at0 L i).2.size ≤ maxLen) → NodeIn w B t h → PairsAt w a L → FitOk t h a L cap w)
    (t : Tree) (h : Hdr) (a : Option Addr) (L : List Pair) (cap : Nat) (w : World) (ht : tsize t ≤ n) (hz : L.length + nsz t ≤ 3000000) (hn : NodeIn w B t h) (hL : PairsAt w a L) : FitOk t h a L cap w := by
  have hkt := tsize_kid t
  obtain ⟨k, p, l, u, x, ds, ats, ks⟩ := t
  obtain ⟨da, dc, aa, ac, ka, kc⟩ := h
  have HD : Hid (PairsAt w da ds) := hn.decls
  have HA : Hid (AttsAt w aa ats) := hn.atts
  have HK : Hid (NodesAt w B ka ks) := kids_at hn
  have HL : Hid _ := hL
  have hka := hn.atts.short
  have hkk := (kids_at hn).short
  simp only [Tree.ats, Tree.kids] at hka hkk
  unfold maxLen at hka hkk
  have hnz : nsz (.mk k p l u x ds ats ks) = p.size + l.size + u.size + (ds.length + pairs.sizeTo ds ds.length) + smallA ats + nszs ks + x.size := by rw [nsz]
  have HZ : Hid (L.length + ds.length + nszs ks ≤ 3000000) := by show _ ≤ _; omega
  have HKT : Hid (∀ i, i < ks.length → tsize (kid ks i) < n) := fun i hi => Nat.lt_of_lt_of_le (hkt i hi) ht
  have HIH : Hid _ := ih
  have HTX : Hid (∀ i, i < (L ++ ds).length → (at0 (L ++ ds) i).1.size ≤ maxLen ∧ (at0 (L ++ ds) i).2.size ≤ maxLen) := pairs.both_texts hL.texts hn.decls.texts
  obtain ⟨LM, hLM⟩ : ∃ LM, LM = L ++ ds := ⟨_, rfl⟩
  have HF : Hid (fitsB (.mk k p l u x ds ats ks) L = (headFit LM k p u && (attsFit LM ats && fitsAll ks LM))) := by show _ = _; rw [fitsB, hLM]
  unfold FitOk
  rw [HF.out]
  simp only [vals, Tree.kind, Tree.pre, Tree.loc, Tree.uri, Tree.text, Tree.ds, Tree.ats, Tree.kids]
  rw [← hLM] at HTX
  have HLM : Hid _ := hLM
  have HLN : Hid (LM.length ≤ maxLen) := by have := HZ.out; show _ ≤ _; rw [hLM, List.length_append]; unfold maxLen; omega
  clear ih hn ht hL hz hnz hkt hLM HF
  go_enter Try.func104, Try.ntmps104
  go_wp2_with fail
  refine (scopes.spec_inner _ _ _ _ _ _ _ (HL.out.below (Nat.le_refl _) ((Below.refl _ _).alloc (Nat.le_refl _) _)) (HD.out.below (Nat.le_refl _) ((Below.refl _ _).alloc (Nat.le_refl _) _)) (by have := HZ.out; omega)).mono ?_
  rintro e w1 ⟨⟨v, rfl, ho, hv⟩, hb1⟩
  rw [← HLM.out] at ho
  obtain ⟨g, c, rfl, hg, hm⟩ := ho.made hv
  have HI : Hid (PairsAt w1 (some ⟨g, 0, none⟩) LM) := hm.pairs HLN.out HTX.out
  have HX1 : Hid _ := box_kept hb1
  have HB1 : Hid _ := box_under hb1
  obtain ⟨b0, b1, b2, b3, b4, b5, b6, b7⟩ := box8 HX1.out
  clear hb1 ho hv hg hm
  cases hk1 : (k == 1)
  · have HH : Hid (headFit LM k p u = true) := by show _ = _; unfold headFit; rw [hk1]; rfl
    go_wp2_with fail
    go_loopw [8] (fun t wr => ∃ i : Nat, i ≤ ats.length ∧ t = .int .i64 i ∧ Hid (∀ j, j < i → attFit LM (att0 ats j) = true) ∧ Hid (Below w1.heap.size w1 wr)) (fun t _ => ats.length - (intOf t).toNat)
    case atStart => exact ⟨0, Nat.zero_le _, rfl, (fun j hj => by omega), Below.refl _ _⟩
    case round =>
      obtain ⟨i, hi, rfl, hup, hbw⟩ := hrel
      have HBW : Hid _ := HB1.out.trans (hbw.out.mono HB1.out.size)
      have HXW : Hid _ := (hbw.out.block _ (pairs.lt_heap HX1.out)).trans HX1.out
      have HIW : Hid _ := HI.out.below (Nat.le_refl _) hbw.out
      clear b0 b1 b2 b3 b4 b5 b6 b7
      obtain ⟨b0, b1, b2, b3, b4, b5, b6, b7⟩ := box8 HXW.out
      by_cases hlt : i < ats.length
      · obtain ⟨b, off, ha, hblt, hc⟩ := (HA.out.below (Nat.le_refl _) HBW.out).row (by omega)
        obtain ⟨hc1, hc2, hc3, hc4⟩ := hc i hlt
        have hno : attFit LM (att0 ats i) = false → attsFit LM ats = false := fun h => all_no (f := fun i => attFit LM (att0 ats i)) hlt h
        have hmo := fun h => upto_more (f := fun i => attFit LM (att0 ats i)) hup.out h
        generalize att0 ats i = y at hc1 hc2 hc3 hc4 hno hmo
        obtain ⟨sx, sok, hs⟩ : ∃ sx sok, spaceR LM y.pre = (sx, sok) := ⟨_, _, rfl⟩
        have HS : Hid (∀ (a : Option Addr) (cap : Nat) (w : World), _) := scopes.spec_spaceH LM y.pre sx sok hs
        have hat : attFit LM y = (y.pre.toList.isEmpty || (sok && (sx.toList == y.uri.toList))) := by unfold attFit fitB; rw [hs]
        rw [hat] at hno hmo
        have HNO : Hid (∀ h, _) := hno
        have HMO : Hid (∀ h, _) := hmo
        subst ha
        clear hc hs hat hno hmo
        cases he : y.pre.toList.isEmpty
        · cases sok
          · have HFF : Hid (attsFit LM ats = false) := HNO.out (by rw [he]; rfl)
            go_wp2_with (go_at_call 100; refine (HS.out _ _ _ HIW.out).mono ?_; rintro e w2 ⟨rfl, hw1⟩; have hw2 := hw1.symm; clear hw1; subst hw2)
            go_ret
            exact ⟨ret_bool (by rw [HH.out, HFF.out]; rfl), HBW.out⟩
          · cases hq : (sx.toList == y.uri.toList)
            · have HFF : Hid (attsFit LM ats = false) := HNO.out (by rw [he, hq]; rfl)
              go_wp2_with (go_at_call 100; refine (HS.out _ _ _ HIW.out).mono ?_; rintro e w2 ⟨rfl, hw1⟩; have hw2 := hw1.symm; clear hw1; subst hw2)
              go_ret
              exact ⟨ret_bool (by rw [HH.out, HFF.out]; rfl), HBW.out⟩
            · have HUP : Hid _ := HMO.out (by rw [he, hq]; rfl)
              go_wp2_with (go_at_call 100; refine (HS.out _ _ _ HIW.out).mono ?_; rintro e w2 ⟨rfl, hw1⟩; have hw2 := hw1.symm; clear hw1; subst hw2)
              go_roundw
              case rel => exact ⟨i + 1, by omega, by go_num, HUP.out, hbw.out⟩
              case measure => simp [intOf]; omega
        · have HUP : Hid _ := HMO.out (by rw [he]; rfl)
          go_wp2_with (go_at_call 100; refine (HS.out _ _ _ HIW.out).mono ?_; rintro e w2 ⟨rfl, hw1⟩; have hw2 := hw1.symm; clear hw1; subst hw2)
          go_roundw
          case rel => exact ⟨i + 1, by omega, by go_num, HUP.out, hbw.out⟩
          case measure => simp [intOf]; omega
      · have HAT : Hid (attsFit LM ats = true) := all_yes fun j hj => hup.out j (by omega)
        go_wp2_with fail
        go_loopw [11] (fun t wr => ∃ i : Nat, i ≤ ks.length ∧ t = .int .i64 i ∧ Hid (∀ j, j < i → fitsB (kid ks j) LM = true) ∧ Hid (Below w1.heap.size w1 wr)) (fun t _ => ks.length - (intOf t).toNat)
        case atStart => exact ⟨0, Nat.zero_le _, rfl, (fun j hj => by omega), hbw⟩
        case round =>
          clear HBW HXW HIW b0 b1 b2 b3 b4 b5 b6 b7 hbw hup hlt hi
          obtain ⟨i, hi, rfl, hup, hbw⟩ := hrel
          have HBW : Hid _ := HB1.out.trans (hbw.out.mono HB1.out.size)
          have HXW : Hid _ := (hbw.out.block _ (pairs.lt_heap HX1.out)).trans HX1.out
          have HIW : Hid _ := HI.out.below (Nat.le_refl _) hbw.out
          obtain ⟨b0, b1, b2, b3, b4, b5, b6, b7⟩ := box8 HXW.out
          by_cases hlt : i < ks.length
          · obtain ⟨b, off, ha, hblt, hc⟩ := (HK.out.below HBW.out).row (by omega)
            obtain ⟨h', hnode, hc0, hc1, hc2, hc3, hc4, hc5, hc6, hc7⟩ := hc i hlt
            have hE := HIH.out (kid ks i) h' (some ⟨g, 0, none⟩) LM c wr (HKT.out i hlt) (by have h1 := nsz_kid ks i hlt; have h2 := HZ.out; have h3 : LM.length = L.length + ds.length := (by rw [HLM.out, List.length_append]); omega) HTX.out hnode HIW.out
            unfold FitOk at hE
            unfold vals at hE
            have hno : fitsB (kid ks i) LM = false → fitsAll ks LM = false := fun h => (fitsAll_range ks LM).trans (all_no (f := fun i => fitsB (kid ks i) LM) hlt h)
            have hmo := fun h => upto_more (f := fun i => fitsB (kid ks i) LM) hup.out h
            generalize kid ks i = y at hc0 hc1 hc2 hc3 hc4 hc5 hc6 hc7 hE hno hmo
            have HE : Hid _ := hE
            have HNO : Hid (∀ h, _) := hno
            have HMO : Hid (∀ h, _) := hmo
            subst ha
            clear hc hE hno hmo hnode
            go_wp2_with fail
            refine Calls.mono HE.out ?_
            rintro e w2 ⟨rfl, hb2⟩
            have HB2 : Hid _ := hbw.out.trans (hb2.mono hbw.out.size)
            clear hb2 HE
            cases hfb : fitsB y LM
            · have HFF : Hid (fitsAll ks LM = false) := HNO.out hfb
              go_wp2
              go_ret
              exact ⟨ret_bool (by rw [HH.out, HAT.out, HFF.out]; rfl), HB1.out.trans (HB2.out.mono HB1.out.size)⟩
            · have HUP : Hid _ := HMO.out hfb
              go_wp2
              go_roundw
              case rel => exact ⟨i + 1, by omega, by go_num, HUP.out, HB2.out⟩
              case measure => simp [intOf]; omega
          · have HFF : Hid (fitsAll ks LM = true) := (fitsAll_range ks LM).trans (all_yes fun j hj => hup.out j (by omega))
            go_wp2
            go_ret
            exact ⟨ret_bool (by rw [HH.out, HAT.out, HFF.out]; rfl), HBW.out⟩
  · obtain ⟨hx, hok, hsp⟩ : ∃ hx hok, spaceR LM p = (hx, hok) := ⟨_, _, rfl⟩
    have HSP : Hid (∀ (a : Option Addr) (cap : Nat) (w : World), _) := scopes.spec_spaceH LM p hx hok hsp
    have HHE : Hid (headFit LM k p u = (hok && (hx.toList == u.toList))) := by show _ = _; unfold headFit fitB; rw [hk1, hsp]; rfl
    clear hsp
    cases hok
    · have HH : Hid (headFit LM k p u = false) := HHE.out
      go_wp2_with (go_at_call 100; refine (HSP.out _ _ _ HI.out).mono ?_; rintro e w2 ⟨rfl, hw1⟩; have hw2 := hw1.symm; clear hw1; subst hw2)
      go_ret
      exact ⟨ret_bool (by rw [HH.out]; rfl), HB1.out⟩
    · cases hq0 : (hx.toList == u.toList)
      · have HH : Hid (headFit LM k p u = false) := by show _ = _; rw [HHE.out, hq0]; rfl
        go_wp2_with (go_at_call 100; refine (HSP.out _ _ _ HI.out).mono ?_; rintro e w2 ⟨rfl, hw1⟩; have hw2 := hw1.symm; clear hw1; subst hw2)
        go_ret
        exact ⟨ret_bool (by rw [HH.out]; rfl), HB1.out⟩
      · have HH : Hid (headFit LM k p u = true) := by show _ = _; rw [HHE.out, hq0]; rfl
        go_wp2_with (go_at_call 100; refine (HSP.out _ _ _ HI.out).mono ?_; rintro e w2 ⟨rfl, hw1⟩; have hw2 := hw1.symm; clear hw1; subst hw2)
        go_loopw [8] (fun t wr => ∃ i : Nat, i ≤ ats.length ∧ t = .int .i64 i ∧ Hid (∀ j, j < i → attFit LM (att0 ats j) = true) ∧ Hid (Below w1.heap.size w1 wr)) (fun t _ => ats.length - (intOf t).toNat)
        case atStart => exact ⟨0, Nat.zero_le _, rfl, (fun j hj => by omega), Below.refl _ _⟩
        case round =>
          obtain ⟨i, hi, rfl, hup, hbw⟩ := hrel
          have HBW : Hid _ := HB1.out.trans (hbw.out.mono HB1.out.size)
          have HXW : Hid _ := (hbw.out.block _ (pairs.lt_heap HX1.out)).trans HX1.out
          have HIW : Hid _ := HI.out.below (Nat.le_refl _) hbw.out
          clear b0 b1 b2 b3 b4 b5 b6 b7
          obtain ⟨b0, b1, b2, b3, b4, b5, b6, b7⟩ := box8 HXW.out
          by_cases hlt : i < ats.length
          · obtain ⟨b, off, ha, hblt, hc⟩ := (HA.out.below (Nat.le_refl _) HBW.out).row (by omega)
            obtain ⟨hc1, hc2, hc3, hc4⟩ := hc i hlt
            have hno : attFit LM (att0 ats i) = false → attsFit LM ats = false := fun h => all_no (f := fun i => attFit LM (att0 ats i)) hlt h
            have hmo := fun h => upto_more (f := fun i => attFit LM (att0 ats i)) hup.out h
            generalize att0 ats i = y at hc1 hc2 hc3 hc4 hno hmo
            obtain ⟨sx, sok, hs⟩ : ∃ sx sok, spaceR LM y.pre = (sx, sok) := ⟨_, _, rfl⟩
            have HS : Hid (∀ (a : Option Addr) (cap : Nat) (w : World), _) := scopes.spec_spaceH LM y.pre sx sok hs
            have hat : attFit LM y = (y.pre.toList.isEmpty || (sok && (sx.toList == y.uri.toList))) := by unfold attFit fitB; rw [hs]
            rw [hat] at hno hmo
            have HNO : Hid (∀ h, _) := hno
            have HMO : Hid (∀ h, _) := hmo
            subst ha
            clear hc hs hat hno hmo
            cases he : y.pre.toList.isEmpty
            · cases sok
              · have HFF : Hid (attsFit LM ats = false) := HNO.out (by rw [he]; rfl)
                go_wp2_with (go_at_call 100; refine (HS.out _ _ _ HIW.out).mono ?_; rintro e w2 ⟨rfl, hw1⟩; have hw2 := hw1.symm; clear hw1; subst hw2)
                go_ret
                exact ⟨ret_bool (by rw [HH.out, HFF.out]; rfl), HBW.out⟩
              · cases hq : (sx.toList == y.uri.toList)
                · have HFF : Hid (attsFit LM ats = false) := HNO.out (by rw [he, hq]; rfl)
                  go_wp2_with (go_at_call 100; refine (HS.out _ _ _ HIW.out).mono ?_; rintro e w2 ⟨rfl, hw1⟩; have hw2 := hw1.symm; clear hw1; subst hw2)
                  go_ret
                  exact ⟨ret_bool (by rw [HH.out, HFF.out]; rfl), HBW.out⟩
                · have HUP : Hid _ := HMO.out (by rw [he, hq]; rfl)
                  go_wp2_with (go_at_call 100; refine (HS.out _ _ _ HIW.out).mono ?_; rintro e w2 ⟨rfl, hw1⟩; have hw2 := hw1.symm; clear hw1; subst hw2)
                  go_roundw
                  case rel => exact ⟨i + 1, by omega, by go_num, HUP.out, hbw.out⟩
                  case measure => simp [intOf]; omega
            · have HUP : Hid _ := HMO.out (by rw [he]; rfl)
              go_wp2_with (go_at_call 100; refine (HS.out _ _ _ HIW.out).mono ?_; rintro e w2 ⟨rfl, hw1⟩; have hw2 := hw1.symm; clear hw1; subst hw2)
              go_roundw
              case rel => exact ⟨i + 1, by omega, by go_num, HUP.out, hbw.out⟩
              case measure => simp [intOf]; omega
          · have HAT : Hid (attsFit LM ats = true) := all_yes fun j hj => hup.out j (by omega)
            go_wp2_with fail
            go_loopw [11] (fun t wr => ∃ i : Nat, i ≤ ks.length ∧ t = .int .i64 i ∧ Hid (∀ j, j < i → fitsB (kid ks j) LM = true) ∧ Hid (Below w1.heap.size w1 wr)) (fun t _ => ks.length - (intOf t).toNat)
            case atStart => exact ⟨0, Nat.zero_le _, rfl, (fun j hj => by omega), hbw⟩
            case round =>
              clear HBW HXW HIW b0 b1 b2 b3 b4 b5 b6 b7 hbw hup hlt hi
              obtain ⟨i, hi, rfl, hup, hbw⟩ := hrel
              have HBW : Hid _ := HB1.out.trans (hbw.out.mono HB1.out.size)
              have HXW : Hid _ := (hbw.out.block _ (pairs.lt_heap HX1.out)).trans HX1.out
              have HIW : Hid _ := HI.out.below (Nat.le_refl _) hbw.out
              obtain ⟨b0, b1, b2, b3, b4, b5, b6, b7⟩ := box8 HXW.out
              by_cases hlt : i < ks.length
              · obtain ⟨b, off, ha, hblt, hc⟩ := (HK.out.below HBW.out).row (by omega)
                obtain ⟨h', hnode, hc0, hc1, hc2, hc3, hc4, hc5, hc6, hc7⟩ := hc i hlt
                have hE := HIH.out (kid ks i) h' (some ⟨g, 0, none⟩) LM c wr (HKT.out i hlt) (by have h1 := nsz_kid ks i hlt; have h2 := HZ.out; have h3 : LM.length = L.length + ds.length := (by rw [HLM.out, List.length_append]); omega) HTX.out hnode HIW.out
                unfold FitOk at hE
                unfold vals at hE
                have hno : fitsB (kid ks i) LM = false → fitsAll ks LM = false := fun h => (fitsAll_range ks LM).trans (all_no (f := fun i => fitsB (kid ks i) LM) hlt h)
                have hmo := fun h => upto_more (f := fun i => fitsB (kid ks i) LM) hup.out h
                generalize kid ks i = y at hc0 hc1 hc2 hc3 hc4 hc5 hc6 hc7 hE hno hmo
                have HE : Hid _ := hE
                have HNO : Hid (∀ h, _) := hno
                have HMO : Hid (∀ h, _) := hmo
                subst ha
                clear hc hE hno hmo hnode
                go_wp2_with fail
                refine Calls.mono HE.out ?_
                rintro e w2 ⟨rfl, hb2⟩
                have HB2 : Hid _ := hbw.out.trans (hb2.mono hbw.out.size)
                clear hb2 HE
                cases hfb : fitsB y LM
                · have HFF : Hid (fitsAll ks LM = false) := HNO.out hfb
                  go_wp2
                  go_ret
                  exact ⟨ret_bool (by rw [HH.out, HAT.out, HFF.out]; rfl), HB1.out.trans (HB2.out.mono HB1.out.size)⟩
                · have HUP : Hid _ := HMO.out hfb
                  go_wp2
                  go_roundw
                  case rel => exact ⟨i + 1, by omega, by go_num, HUP.out, HB2.out⟩
                  case measure => simp [intOf]; omega
              · have HFF : Hid (fitsAll ks LM = true) := (fitsAll_range ks LM).trans (all_yes fun j hj => hup.out j (by omega))
                go_wp2
                go_ret
                exact ⟨ret_bool (by rw [HH.out, HAT.out, HFF.out]; rfl), HBW.out⟩
theorem fit_node (B : Nat) : ∀ n, ∀ (t : Tree) (h : Hdr) (a : Option Addr) (L : List Pair) (cap : Nat) (w : World), tsize t < n → L.length + nsz t ≤ 3000000 → (∀ i, i < L.length → (at0 L i).1.size ≤ maxLen ∧ (at0 L i).2.size ≤ maxLen) → NodeIn w B t h → PairsAt w a L → FitOk t h a L cap w
  | 0, t, h, a, L, cap, w, ht, _, _, _, _ => by omega
  | n + 1, t, h, a, L, cap, w, ht, hz, htx, hn, hL => fit_node_of n B (fun t h a L cap w ht hz htx hn hL => fit_node B n t h a L cap w ht hz htx hn hL) t h a L cap w (by omega) hz hn hL
end Go.Proofs.Ytpejcblmglbjfaa.trees
namespace Go.Proofs.Ytpejcblmglbjfaa.trees
open Go.ChangeShapes Go.WideShapes Go.ChangeAt Go.RowKit
open pairs (Pair at0 PairsAt)
set_option linter.unusedVariables false
def treeOkB (t : Tree) : Bool := (t.kind == 0) && (nodeOkB t && fitsB t [])
theorem no_pairs (w : World) (a : Option Addr) : PairsAt w a [] := ⟨fun h => absurd h (by simp), by simp, fun i hi => by cases hi⟩
def TreeOkOk (t : Tree) (h : Hdr) (w : World) : Prop :=
  Calls Try.prog 81 #[.agg (vals t h)] w fun e w' => e = .returned (.bool (treeOkB t)) ∧ Below w.heap.size w w'
set_option maxRecDepth 100000 in
set_option maxHeartbeats 4000000 in
theorem spec_tree_ok (t : Tree) (h : Hdr) (B : Nat) (w : World) (hz : nsz t ≤ 1048576) (hn : NodeIn w B t h) : TreeOkOk t h w := by
  have H1 : Hid (∀ W, Below w.heap.size w W → NodeOkOk t h W) := fun W hb => spec_node_ok t h B W hz (hn.below hb)
  have H2 : Hid (∀ a c W, Below w.heap.size w W → FitOk t h a [] c W) := fun a c W hb => fit_node B _ t h a [] c W (Nat.lt_succ_self _) (by simp; omega) (fun i hi => by cases hi) (hn.below hb) (no_pairs _ _)
  have HF : Hid (treeOkB t = ((t.kind == 0) && (nodeOkB t && fitsB t []))) := rfl
  unfold TreeOkOk
  rw [HF.out]
  obtain ⟨b1, e1⟩ : ∃ b, nodeOkB t = b := ⟨_, rfl⟩
  obtain ⟨b2, e2⟩ : ∃ b, fitsB t [] = b := ⟨_, rfl⟩
  unfold NodeOkOk at H1
  unfold FitOk at H2
  rw [e1] at H1 ⊢
  rw [e2] at H2 ⊢
  clear hn hz HF e1 e2
  obtain ⟨k, p, l, u, x, ds, ats, ks⟩ := t
  obtain ⟨da, dc, aa, ac, ka, kc⟩ := h
  simp only [vals, Tree.kind, Tree.pre, Tree.loc, Tree.uri, Tree.text, Tree.ds, Tree.ats, Tree.kids, List.length_nil] at H1 H2 ⊢
  cases hk : (k == 0)
  · go_enter Try.func81, Try.ntmps81
    go_wp2
    go_ret
    exact ⟨rfl, (Below.refl _ _).alloc (Nat.le_refl _) _⟩
  · go_enter Try.func81, Try.ntmps81
    go_wp2_with fail
    refine (H1.out _ ((Below.refl _ _).alloc (Nat.le_refl _) _)).mono ?_
    rintro e w1 ⟨rfl, hb1⟩
    have HB1 : Hid _ := box_under hb1
    have HX1 : Hid _ := box_kept hb1
    obtain ⟨b0, b1', b2', b3, b4, b5, b6, b7⟩ := box8 HX1.out
    clear hb1
    cases b1
    · go_wp2
      go_ret
      exact ⟨rfl, HB1.out⟩
    · go_wp2_with fail
      refine Calls.mono (H2.out _ _ _ (HB1.out.alloc HB1.out.size _)) ?_
      rintro e w2 ⟨rfl, hb2⟩
      have HB2 : Hid _ := (HB1.out.alloc HB1.out.size _).trans (hb2.mono (by have := HB1.out.size; simp; omega))
      clear hb2
      go_wp2
      go_ret
      exact ⟨rfl, HB2.out⟩
end Go.Proofs.Ytpejcblmglbjfaa.trees
