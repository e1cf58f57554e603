/-
  What the specification's helpers of chapter 5 answer: Attrs; what is not named.
-/
import Derived.Test.YtmiiilamjbhheaaGreatDoorSpecNode1
import Derived.Deep.QuietTactic
import Derived.BigQuiet
namespace Go.Proofs.YtmiiilamjbhheaaGreatDoor.trees
open Go.ChangeShapes Go.WideShapes Go.ChangeAt Go.RowKit
open pairs (Pair at0 PairsAt)
open scopes (xmlB textB declsB ret_bool)
set_option linter.unusedVariables false
theorem box4 {w : World} {b : Nat} {t : TypeId} {c0 c1 c2 c3 : Value} (h : w.heap[b]? = some (.cells #[c0, c1, c2, c3] t (0, 0))) : w.cell? ⟨b, 0, none⟩ = some c0 ∧ w.cell? ⟨b, 1, none⟩ = some c1 ∧ w.cell? ⟨b, 2, none⟩ = some c2 ∧ w.cell? ⟨b, 3, none⟩ = some c3 := by
  simp [World.cell?, h]
set_option maxRecDepth 100000 in
set_option maxHeartbeats 1000000 in
theorem spec_l5less (x y : Att) (w : World) : Calls Tryz.prog 69 #[.agg #[.string x.pre, .string x.loc, .string x.uri, .string x.val], .agg #[.string y.pre, .string y.loc, .string y.uri, .string y.val]] w fun e w' => e = .returned (.bool (lessB x y)) ∧ Below w.heap.size w w' := by
  have hb := ((Below.refl w.heap.size w).alloc (Nat.le_refl _) (.cells #[.string x.pre, .string x.loc, .string x.uri, .string x.val] 80)).alloc (by simp) (.cells #[.string y.pre, .string y.loc, .string y.uri, .string y.val] 80)
  have HB : Hid _ := hb
  clear hb
  cases h1 : Op.bytesLess x.uri.toList y.uri.toList
  · cases h2 : (x.uri.toList == y.uri.toList)
    · have HF : Hid (lessB x y = false) := by show _ = _; unfold lessB; rw [h1, h2]; rfl
      go_enter Tryz.func69, Tryz.ntmps69
      go_wp2
      go_ret
      exact ⟨ret_bool HF.out.symm, HB.out⟩
    · have HF : Hid (lessB x y = Op.bytesLess x.loc.toList y.loc.toList) := by show _ = _; unfold lessB; rw [h1, h2]; rfl
      go_enter Tryz.func69, Tryz.ntmps69
      go_wp2
      go_ret
      exact ⟨ret_bool HF.out.symm, HB.out⟩
  · have HF : Hid (lessB x y = true) := by show _ = _; unfold lessB; rw [h1]; rfl
    go_enter Tryz.func69, Tryz.ntmps69
    go_wp2
    go_ret
    exact ⟨ret_bool HF.out.symm, HB.out⟩
def bareB (t : Tree) : Bool := t.pre.toList.isEmpty && (t.uri.toList.isEmpty && ((((t.ds.length : Nat) : Int) == 0) && ((((t.ats.length : Nat) : Int) == 0) && (((t.kids.length : Nat) : Int) == 0))))
set_option maxRecDepth 100000 in
set_option maxHeartbeats 1000000 in
theorem spec_l5bare (t : Tree) (h : Hdr) (w : World) : Calls Tryz.prog 70 #[.agg (vals t h)] w fun e w' => e = .returned (.bool (bareB t)) ∧ Below w.heap.size w w' := by
  obtain ⟨k, p, l, u, x, ds, ats, ks⟩ := t
  obtain ⟨da, dc, aa, ac, ka, kc⟩ := h
  simp only [vals, Tree.kind, Tree.pre, Tree.loc, Tree.uri, Tree.text, Tree.ds, Tree.ats, Tree.kids]
  have HF : Hid (bareB (.mk k p l u x ds ats ks) = (p.toList.isEmpty && (u.toList.isEmpty && ((((ds.length : Nat) : Int) == 0) && ((((ats.length : Nat) : Int) == 0) && (((ks.length : Nat) : Int) == 0)))))) := rfl
  rw [HF.out]
  clear HF
  cases h1 : p.toList.isEmpty <;> cases h2 : u.toList.isEmpty <;> cases h3 : (((ds.length : Nat) : Int) == 0) <;> cases h4 : (((ats.length : Nat) : Int) == 0)
  all_goals
    go_enter Tryz.func70, Tryz.ntmps70
    go_wp2
    go_ret
    exact ⟨by simp, (Below.refl _ _).alloc (Nat.le_refl _) _⟩
theorem att_parts (x : Att) : attB x = ((l5PreB x.pre && ((x.pre.toList.isEmpty == x.uri.toList.isEmpty) && (names.plainB x.loc && !(x.pre.toList.isEmpty && xmlnsB x.loc)))) && (textB x.val && (textB x.uri && decide ((x.uri.size : Int) ≤ 40)))) := by
  unfold attB uriB
  have e : decide ((x.uri.size : Int) ≤ 40) = decide (x.uri.size ≤ 40) := by rw [Bool.eq_iff_iff]; simp; omega
  rw [e]
set_option maxRecDepth 100000 in
set_option maxHeartbeats 4000000 in
theorem spec_l5attr (x : Att) (w : World) (hx : x.fits) : Calls Tryz.prog 68 #[.agg #[.string x.pre, .string x.loc, .string x.uri, .string x.val]] w fun e w' => e = .returned (.bool (attB x)) ∧ Below w.heap.size w w' := by
  obtain ⟨z1, z2, z3, z4⟩ := hx
  rw [att_parts]
  have H1 : Hid (∀ w, _) := fun w => spec_l5pre x.pre w z1
  have H2 : Hid (∀ w, _) := fun w => names.spec_plain x.loc w z2
  have H3 : Hid (∀ w, _) := fun w => scans.spec_text x.val w z4
  have H4 : Hid (∀ w, _) := fun w => scans.spec_text x.uri w z3
  unfold maxLen at z1 z2 z3 z4
  go_enter Tryz.func68, Tryz.ntmps68
  go_wp2_with fail
  refine (H1.out _).mono ?_
  rintro e w1 ⟨rfl, hb1⟩
  have HB1 : Hid _ := box_under hb1
  have HX1 : Hid _ := box_kept hb1
  obtain ⟨b0, b1, b2, b3⟩ := box4 HX1.out
  clear hb1 H1
  cases h1 : l5PreB x.pre
  · go_wp2
    go_ret
    exact ⟨ret_bool (by rw [h1]; rfl), HB1.out⟩
  · cases h2 : x.pre.toList.isEmpty <;> cases h3 : x.uri.toList.isEmpty
    · go_wp2_with fail
      refine (H2.out _).mono ?_
      rintro e w2 ⟨rfl, hb2⟩
      have HB2 : Hid _ := HB1.out.trans (hb2.mono HB1.out.size)
      have HX2 : Hid _ := (hb2.block _ (pairs.lt_heap HX1.out)).trans HX1.out
      clear b0 b1 b2 b3 hb2 H2
      obtain ⟨b0, b1, b2, b3⟩ := box4 HX2.out
      cases h4 : names.plainB x.loc
      · go_wp2
        go_ret
        exact ⟨ret_bool (by rw [h1, h2, h3, h4]; rfl), HB2.out⟩
      · cases h5 : textB x.val
        · have h5' : (decide (x.val.size ≤ 600) && scans.signs x.val) = false := h5
          rw [h5'] at H3
          go_wp2_with fail
          refine (H3.out _).mono ?_
          rintro e w3 ⟨rfl, hw1⟩
          have hw2 := hw1.symm
          clear hw1
          subst hw2
          go_wp2
          go_ret
          exact ⟨ret_bool (by rw [h1, h2, h3, h4, h5]; rfl), HB2.out⟩
        · have h5' : (decide (x.val.size ≤ 600) && scans.signs x.val) = true := h5
          rw [h5'] at H3
          go_wp2_with fail
          refine (H3.out _).mono ?_
          rintro e w3 ⟨rfl, hw1⟩
          have hw2 := hw1.symm
          clear hw1
          subst hw2
          cases h6 : textB x.uri
          · have h6' : (decide (x.uri.size ≤ 600) && scans.signs x.uri) = false := h6
            rw [h6'] at H4
            go_wp2_with fail
            refine (H4.out _).mono ?_
            rintro e w3 ⟨rfl, hw1⟩
            have hw2 := hw1.symm
            clear hw1
            subst hw2
            go_wp2
            go_ret
            exact ⟨ret_bool (by rw [h1, h2, h3, h4, h5, h6]; rfl), HB2.out⟩
          · have h6' : (decide (x.uri.size ≤ 600) && scans.signs x.uri) = true := h6
            rw [h6'] at H4
            go_wp2_with fail
            refine (H4.out _).mono ?_
            rintro e w3 ⟨rfl, hw1⟩
            have hw2 := hw1.symm
            clear hw1
            subst hw2
            go_wp2
            go_ret
            exact ⟨ret_bool (by rw [h1, h2, h3, h4, h5, h6]; simp), HB2.out⟩
    · go_wp2
      go_ret
      exact ⟨ret_bool (by rw [h1, h2, h3]; rfl), HB1.out⟩
    · go_wp2
      go_ret
      exact ⟨ret_bool (by rw [h1, h2, h3]; rfl), HB1.out⟩
    · go_wp2_with fail
      refine (H2.out _).mono ?_
      rintro e w2 ⟨rfl, hb2⟩
      have HB2 : Hid _ := HB1.out.trans (hb2.mono HB1.out.size)
      have HX2 : Hid _ := (hb2.block _ (pairs.lt_heap HX1.out)).trans HX1.out
      clear b0 b1 b2 b3 hb2 H2
      obtain ⟨b0, b1, b2, b3⟩ := box4 HX2.out
      cases h4 : names.plainB x.loc
      · go_wp2
        go_ret
        exact ⟨ret_bool (by rw [h1, h2, h3, h4]; rfl), HB2.out⟩
      · cases h7 : xmlnsB x.loc
        · have h7' : (x.loc.toList == [120, 109, 108, 110, 115]) = false := h7
          cases h5 : textB x.val
          · have h5' : (decide (x.val.size ≤ 600) && scans.signs x.val) = false := h5
            rw [h5'] at H3
            go_wp2_with fail
            refine (H3.out _).mono ?_
            rintro e w3 ⟨rfl, hw1⟩
            have hw2 := hw1.symm
            clear hw1
            subst hw2
            go_wp2
            go_ret
            exact ⟨ret_bool (by rw [h1, h2, h3, h4, h7, h5]; rfl), HB2.out⟩
          · have h5' : (decide (x.val.size ≤ 600) && scans.signs x.val) = true := h5
            rw [h5'] at H3
            go_wp2_with fail
            refine (H3.out _).mono ?_
            rintro e w3 ⟨rfl, hw1⟩
            have hw2 := hw1.symm
            clear hw1
            subst hw2
            cases h6 : textB x.uri
            · have h6' : (decide (x.uri.size ≤ 600) && scans.signs x.uri) = false := h6
              rw [h6'] at H4
              go_wp2_with fail
              refine (H4.out _).mono ?_
              rintro e w3 ⟨rfl, hw1⟩
              have hw2 := hw1.symm
              clear hw1
              subst hw2
              go_wp2
              go_ret
              exact ⟨ret_bool (by rw [h1, h2, h3, h4, h7, h5, h6]; rfl), HB2.out⟩
            · have h6' : (decide (x.uri.size ≤ 600) && scans.signs x.uri) = true := h6
              rw [h6'] at H4
              go_wp2_with fail
              refine (H4.out _).mono ?_
              rintro e w3 ⟨rfl, hw1⟩
              have hw2 := hw1.symm
              clear hw1
              subst hw2
              go_wp2
              go_ret
              exact ⟨ret_bool (by rw [h1, h2, h3, h4, h7, h5, h6]; simp), HB2.out⟩
        · have h7' : (x.loc.toList == [120, 109, 108, 110, 115]) = true := h7
          go_wp2
          go_ret
          exact ⟨ret_bool (by rw [h1, h2, h3, h4, h7]; rfl), HB2.out⟩
end Go.Proofs.YtmiiilamjbhheaaGreatDoor.trees
