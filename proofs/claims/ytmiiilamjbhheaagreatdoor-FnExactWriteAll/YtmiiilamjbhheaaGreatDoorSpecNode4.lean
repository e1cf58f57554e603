/-
  What the specification's l5One answers, of a text, a note, and what is told.
-/
import Derived.Test.YtmiiilamjbhheaaGreatDoorSpecNode3
namespace Go.Proofs.YtmiiilamjbhheaaGreatDoor.trees
open Go.ChangeShapes Go.WideShapes Go.ChangeAt Go.RowKit
open pairs (Pair at0 PairsAt)
open scopes (xmlB textB declsB ret_bool)
open escs (byteAt)
set_option linter.unusedVariables false
def textOneB (t : Tree) : Bool := bareB t && (t.loc.toList.isEmpty && (!t.text.toList.isEmpty && textB t.text))
def lastB (x : ByteArray) : Bool := x.toList.isEmpty || !(byteAt x (x.size - 1) == 45)
def firstB (x : ByteArray) : Bool := x.toList.isEmpty || !blanks.blkB (byteAt x 0)
def noteOneB (t : Tree) : Bool := bareB t && (t.loc.toList.isEmpty && (textB t.text && (!hasB t.text ⟨#[45, 45]⟩ && (!hasB t.text ⟨#[13]⟩ && lastB t.text))))
def toldOneB (t : Tree) : Bool := bareB t && (names.plainB t.loc && (!xmlAnyB t.loc && (textB t.text && (!hasB t.text ⟨#[63, 62]⟩ && (!hasB t.text ⟨#[13]⟩ && firstB t.text)))))
theorem bare_flat {p l u x : ByteArray} {ds : List Pair} {ats : List Att} {ks : List Tree} {da : Option Addr} {dc : Nat} {aa : Option Addr} {ac : Nat} {ka : Option Addr} {kc : Nat} (k : Int) (b : Bool) (h : bareB (.mk k p l u x ds ats ks) = b) (w : World) : Calls Tryz.prog 70 #[.agg #[.int .i64 k, .string p, .string l, .string u, .slice da ds.length dc, .slice aa ats.length ac, .slice ka ks.length kc, .string x]] w fun e w' => e = .returned (.bool b) ∧ Below w.heap.size w w' := by
  have := spec_l5bare (.mk k p l u x ds ats ks) ⟨da, dc, aa, ac, ka, kc⟩ w
  rw [h] at this
  exact this
theorem text_flat (s : ByteArray) (b : Bool) (hs : s.size ≤ maxLen) (h : textB s = b) (w : World) : Calls Tryz.prog 66 #[.string s] w fun e w' => e = .returned (.bool b) ∧ w' = w := by
  have := scans.spec_text s w hs
  rw [show (decide (s.size ≤ 600) && scans.signs s) = b from h] at this
  exact this
theorem has_flat (s t : ByteArray) (b : Bool) (hs : s.size ≤ 1048576) (ht : t.size ≤ 1048576) (h : hasB s t = b) (w : World) : Calls Tryz.prog 71 #[.string s, .string t] w fun e w' => e = .returned (.bool b) ∧ w' = w := by rw [← h]; exact spec_l5has s t w hs ht
theorem plain_flat (s : ByteArray) (b : Bool) (hs : s.size ≤ maxLen) (h : names.plainB s = b) (w : World) : Calls Tryz.prog 65 #[.string s] w fun e w' => e = .returned (.bool b) ∧ Below w.heap.size w w' := by rw [← h]; exact names.spec_plain s w hs
theorem xml_flat (s : ByteArray) (b : Bool) (hs : s.size ≤ maxLen) (h : xmlAnyB s = b) (w : World) : Calls Tryz.prog 72 #[.string s] w fun e w' => e = .returned (.bool b) ∧ Below w.heap.size w w' := by rw [← h]; exact spec_l5xml s w hs
/-- What l5One says of a node. -/
def OneOk (t : Tree) (h : Hdr) (w : World) (b : Bool) : Prop :=
  Calls Tryz.prog 54 #[.agg (vals t h)] w fun e w' => e = .returned (.bool b) ∧ Below w.heap.size w w'
set_option maxRecDepth 100000 in
set_option maxHeartbeats 2000000 in
theorem one_text (p l u x : ByteArray) (ds : List Pair) (ats : List Att) (ks : List Tree) (h : Hdr) (w : World) (hx : x.size ≤ maxLen) : OneOk (.mk 2 p l u x ds ats ks) h w (textOneB (.mk 2 p l u x ds ats ks)) := by
  obtain ⟨da, dc, aa, ac, ka, kc⟩ := h
  have HF : Hid (textOneB (.mk 2 p l u x ds ats ks) = (bareB (.mk 2 p l u x ds ats ks) && (l.toList.isEmpty && (!x.toList.isEmpty && textB x)))) := rfl
  unfold OneOk
  simp only [vals, Tree.kind, Tree.pre, Tree.loc, Tree.uri, Tree.text, Tree.ds, Tree.ats, Tree.kids]
  obtain ⟨bb, hbb⟩ : ∃ bb, bareB (.mk 2 p l u x ds ats ks) = bb := ⟨_, rfl⟩
  have HB0 : Hid (∀ w, _) := bare_flat (p := p) (l := l) (u := u) (x := x) (ds := ds) (ats := ats) (ks := ks) (da := da) (dc := dc) (aa := aa) (ac := ac) (ka := ka) (kc := kc) 2 bb hbb
  rw [hbb] at HF
  obtain ⟨tb, htb⟩ : ∃ tb, textB x = tb := ⟨_, rfl⟩
  have HT : Hid (∀ w, _) := text_flat x tb hx htb
  rw [htb] at HF
  generalize textOneB (.mk 2 p l u x ds ats ks) = res at HF ⊢
  clear hbb htb
  go_enter Tryz.func54, Tryz.ntmps54
  go_wp2_with fail
  refine (HB0.out _).mono ?_
  rintro e w1 ⟨rfl, hb1⟩
  have HB : Hid _ := box_under hb1
  have HX : Hid _ := box_kept hb1
  obtain ⟨b0, b1, b2, b3, b4, b5, b6, b7⟩ := box8 HX.out
  clear hb1 HB0
  cases bb
  · go_wp2
    go_ret
    exact ⟨ret_bool HF.out.symm, HB.out⟩
  · cases h1 : l.toList.isEmpty
    · rw [h1] at HF
      go_wp2
      go_ret
      exact ⟨ret_bool HF.out.symm, HB.out⟩
    · rw [h1] at HF
      cases h2 : x.toList.isEmpty
      · rw [h2] at HF
        go_wp2_with fail
        refine (HT.out _).mono ?_
        rintro e wq ⟨rfl, hw1⟩
        have hw2 := hw1.symm
        clear hw1
        subst hw2
        go_wp2
        go_ret
        exact ⟨ret_bool HF.out.symm, HB.out⟩
      · rw [h2] at HF
        go_wp2
        go_ret
        exact ⟨ret_bool HF.out.symm, HB.out⟩
theorem not_empty {x : ByteArray} (h : x.toList.isEmpty = false) : 0 < x.size := by
  rcases Nat.eq_zero_or_pos x.size with h0 | h0
  · have : x.toList = [] := by rw [ByteArray.toList_eq]; exact List.length_eq_zero_iff.1 (by simpa using h0)
    rw [this] at h
    cases h
  · exact h0
theorem last_idx {x : ByteArray} (h : x.toList.isEmpty = false) : (∀ z, z = byteAt x (x.size - 1) → ∀ W, (Instr.index 9 (.string x) (.int .i64 ((x.size : Int) - 1))).run Tryz.prog W = .ok (.int .u8 z) W) ∧ ∃ z, z = byteAt x (x.size - 1) ∧ 0 ≤ z := by
  have h0 := not_empty h
  refine ⟨fun z hz W => ?_, _, rfl, (escs.byteAt_range x _).1⟩
  have := escs.idx x (x.size - 1) (by omega) W
  rw [show ((x.size - 1 : Nat) : Int) = (x.size : Int) - 1 by omega] at this
  rw [hz]
  exact this
set_option maxRecDepth 100000 in
set_option maxHeartbeats 4000000 in
theorem one_note (p l u x : ByteArray) (ds : List Pair) (ats : List Att) (ks : List Tree) (h : Hdr) (w : World) (hl : l.size ≤ maxLen) (hx : x.size ≤ 1048576) : OneOk (.mk 3 p l u x ds ats ks) h w (noteOneB (.mk 3 p l u x ds ats ks)) := by
  obtain ⟨da, dc, aa, ac, ka, kc⟩ := h
  have hxm : x.size ≤ maxLen := by unfold maxLen; omega
  have HF : Hid (noteOneB (.mk 3 p l u x ds ats ks) = (bareB (.mk 3 p l u x ds ats ks) && (l.toList.isEmpty && (textB x && (!hasB x ⟨#[45, 45]⟩ && (!hasB x ⟨#[13]⟩ && (x.toList.isEmpty || !(byteAt x (x.size - 1) == 45)))))))) := rfl
  unfold OneOk
  simp only [vals, Tree.kind, Tree.pre, Tree.loc, Tree.uri, Tree.text, Tree.ds, Tree.ats, Tree.kids]
  obtain ⟨bb, hbb⟩ : ∃ bb, bareB (.mk 3 p l u x ds ats ks) = bb := ⟨_, rfl⟩
  have HB0 : Hid (∀ w, _) := bare_flat (p := p) (l := l) (u := u) (x := x) (ds := ds) (ats := ats) (ks := ks) (da := da) (dc := dc) (aa := aa) (ac := ac) (ka := ka) (kc := kc) 3 bb hbb
  rw [hbb] at HF
  obtain ⟨tb, htb⟩ : ∃ q, textB x = q := ⟨_, rfl⟩
  have HT : Hid (∀ w, _) := text_flat x tb hxm htb
  rw [htb] at HF
  clear htb
  obtain ⟨q1, hq1⟩ : ∃ q, hasB x ⟨#[45, 45]⟩ = q := ⟨_, rfl⟩
  have HQ1 : Hid (∀ w, _) := has_flat x ⟨#[45, 45]⟩ q1 hx (by decide) hq1
  rw [hq1] at HF
  clear hq1
  obtain ⟨q2, hq2⟩ : ∃ q, hasB x ⟨#[13]⟩ = q := ⟨_, rfl⟩
  have HQ2 : Hid (∀ w, _) := has_flat x ⟨#[13]⟩ q2 hx (by decide) hq2
  rw [hq2] at HF
  clear hq2
  generalize noteOneB (.mk 3 p l u x ds ats ks) = res at HF ⊢
  clear hbb
  go_enter Tryz.func54, Tryz.ntmps54
  go_wp2_with fail
  refine (HB0.out _).mono ?_
  rintro e w1 ⟨rfl, hb1⟩
  have HB : Hid _ := box_under hb1
  have HX : Hid _ := box_kept hb1
  obtain ⟨b0, b1, b2, b3, b4, b5, b6, b7⟩ := box8 HX.out
  clear hb1 HB0
  cases bb
  · go_wp2
    go_ret
    exact ⟨ret_bool HF.out.symm, HB.out⟩
  · cases h1 : l.toList.isEmpty
    · rw [h1] at HF
      go_wp2
      go_ret
      exact ⟨ret_bool HF.out.symm, HB.out⟩
    · rw [h1] at HF
      go_wp2_with fail
      refine (HT.out _).mono ?_
      rintro e wq ⟨rfl, hw1⟩
      have hw2 := hw1.symm
      clear hw1
      subst hw2
      cases tb
      · go_wp2
        go_ret
        exact ⟨ret_bool HF.out.symm, HB.out⟩
      · go_wp2_with fail
        refine (HQ1.out _).mono ?_
        rintro e wq ⟨rfl, hw1⟩
        have hw2 := hw1.symm
        clear hw1
        subst hw2
        cases q1
        · go_wp2_with fail
          refine (HQ2.out _).mono ?_
          rintro e wq ⟨rfl, hw1⟩
          have hw2 := hw1.symm
          clear hw1
          subst hw2
          cases q2
          · cases h9 : x.toList.isEmpty
            · rw [h9, Bool.false_or] at HF
              obtain ⟨hx0, z, hz, hzr⟩ := last_idx h9
              have hx1 := hx0 z hz
              clear hx0
              rw [← hz] at HF
              clear hz
              go_wp2
              go_ret
              exact ⟨ret_bool (by rw [HF.out]; rfl), HB.out⟩
            · rw [h9, Bool.true_or] at HF
              go_wp2
              go_ret
              exact ⟨ret_bool HF.out.symm, HB.out⟩
          · go_wp2
            go_ret
            exact ⟨ret_bool HF.out.symm, HB.out⟩
        · go_wp2
          go_ret
          exact ⟨ret_bool HF.out.symm, HB.out⟩
set_option maxRecDepth 100000 in
set_option maxHeartbeats 4000000 in
theorem one_told (p l u x : ByteArray) (ds : List Pair) (ats : List Att) (ks : List Tree) (h : Hdr) (w : World) (hl : l.size ≤ maxLen) (hx : x.size ≤ 1048576) : OneOk (.mk 4 p l u x ds ats ks) h w (toldOneB (.mk 4 p l u x ds ats ks)) := by
  obtain ⟨da, dc, aa, ac, ka, kc⟩ := h
  have hxm : x.size ≤ maxLen := by unfold maxLen; omega
  have HF : Hid (toldOneB (.mk 4 p l u x ds ats ks) = (bareB (.mk 4 p l u x ds ats ks) && (names.plainB l && (!xmlAnyB l && (textB x && (!hasB x ⟨#[63, 62]⟩ && (!hasB x ⟨#[13]⟩ && (x.toList.isEmpty || !blanks.blkB (byteAt x 0))))))))) := rfl
  unfold OneOk
  simp only [vals, Tree.kind, Tree.pre, Tree.loc, Tree.uri, Tree.text, Tree.ds, Tree.ats, Tree.kids]
  obtain ⟨bb, hbb⟩ : ∃ bb, bareB (.mk 4 p l u x ds ats ks) = bb := ⟨_, rfl⟩
  have HB0 : Hid (∀ w, _) := bare_flat (p := p) (l := l) (u := u) (x := x) (ds := ds) (ats := ats) (ks := ks) (da := da) (dc := dc) (aa := aa) (ac := ac) (ka := ka) (kc := kc) 4 bb hbb
  rw [hbb] at HF
  obtain ⟨pb, hpb⟩ : ∃ q, names.plainB l = q := ⟨_, rfl⟩
  have HPL : Hid (∀ w, _) := plain_flat l pb hl hpb
  rw [hpb] at HF
  clear hpb
  obtain ⟨xb, hxb⟩ : ∃ q, xmlAnyB l = q := ⟨_, rfl⟩
  have HXM : Hid (∀ w, _) := xml_flat l xb hl hxb
  rw [hxb] at HF
  clear hxb
  obtain ⟨tb, htb⟩ : ∃ q, textB x = q := ⟨_, rfl⟩
  have HT : Hid (∀ w, _) := text_flat x tb hxm htb
  rw [htb] at HF
  clear htb
  obtain ⟨q1, hq1⟩ : ∃ q, hasB x ⟨#[63, 62]⟩ = q := ⟨_, rfl⟩
  have HQ1 : Hid (∀ w, _) := has_flat x ⟨#[63, 62]⟩ q1 hx (by decide) hq1
  rw [hq1] at HF
  clear hq1
  obtain ⟨q2, hq2⟩ : ∃ q, hasB x ⟨#[13]⟩ = q := ⟨_, rfl⟩
  have HQ2 : Hid (∀ w, _) := has_flat x ⟨#[13]⟩ q2 hx (by decide) hq2
  rw [hq2] at HF
  clear hq2
  generalize toldOneB (.mk 4 p l u x ds ats ks) = res at HF ⊢
  clear hbb
  go_enter Tryz.func54, Tryz.ntmps54
  go_wp2_with fail
  refine (HB0.out _).mono ?_
  rintro e w1 ⟨rfl, hb1⟩
  have HB : Hid _ := box_under hb1
  have HX : Hid _ := box_kept hb1
  obtain ⟨b0, b1, b2, b3, b4, b5, b6, b7⟩ := box8 HX.out
  clear hb1 HB0
  cases bb
  · go_wp2
    go_ret
    exact ⟨ret_bool HF.out.symm, HB.out⟩
  · go_wp2_with fail
    refine (HPL.out _).mono ?_
    rintro e wb ⟨rfl, hb⟩
    have HBn : Hid _ := HB.out.trans (hb.mono HB.out.size)
    have HXn : Hid _ := (hb.block _ (pairs.lt_heap HX.out)).trans HX.out
    clear HB HX hb b0 b1 b2 b3 b4 b5 b6 b7
    have HB : Hid _ := HBn
    have HX : Hid _ := HXn
    clear HBn HXn
    obtain ⟨b0, b1, b2, b3, b4, b5, b6, b7⟩ := box8 HX.out
    cases pb
    · go_wp2
      go_ret
      exact ⟨ret_bool HF.out.symm, HB.out⟩
    · go_wp2_with fail
      refine (HXM.out _).mono ?_
      rintro e wb ⟨rfl, hb⟩
      have HBn : Hid _ := HB.out.trans (hb.mono HB.out.size)
      have HXn : Hid _ := (hb.block _ (pairs.lt_heap HX.out)).trans HX.out
      clear HB HX hb b0 b1 b2 b3 b4 b5 b6 b7
      have HB : Hid _ := HBn
      have HX : Hid _ := HXn
      clear HBn HXn
      obtain ⟨b0, b1, b2, b3, b4, b5, b6, b7⟩ := box8 HX.out
      cases xb
      · go_wp2_with fail
        refine (HT.out _).mono ?_
        rintro e wq ⟨rfl, hw1⟩
        have hw2 := hw1.symm
        clear hw1
        subst hw2
        cases tb
        · go_wp2
          go_ret
          exact ⟨ret_bool HF.out.symm, HB.out⟩
        · go_wp2_with fail
          refine (HQ1.out _).mono ?_
          rintro e wq ⟨rfl, hw1⟩
          have hw2 := hw1.symm
          clear hw1
          subst hw2
          cases q1
          · go_wp2_with fail
            refine (HQ2.out _).mono ?_
            rintro e wq ⟨rfl, hw1⟩
            have hw2 := hw1.symm
            clear hw1
            subst hw2
            cases q2
            · cases h9 : x.toList.isEmpty
              · rw [h9, Bool.false_or] at HF
                have hx0 : ∀ W, (Instr.index 9 (.string x) (.int .i64 0)).run Tryz.prog W = .ok (.int .u8 (byteAt x 0)) W := escs.idx x 0 (not_empty h9)
                obtain ⟨z, hz⟩ : ∃ z, z = byteAt x 0 := ⟨_, rfl⟩
                have hzr := escs.byteAt_range x 0
                rw [← hz] at hx0 hzr HF
                clear hz
                have HBL : Hid (∀ w, _) := fun w => blanks.spec_blank z w
                go_wp2_with fail
                refine (HBL.out _).mono ?_
                rintro e wq ⟨rfl, hw1⟩
                have hw2 := hw1.symm
                clear hw1
                subst hw2
                go_wp2
                go_ret
                exact ⟨ret_bool (by rw [HF.out]; rfl), HB.out⟩
              · rw [h9, Bool.true_or] at HF
                go_wp2
                go_ret
                exact ⟨ret_bool HF.out.symm, HB.out⟩
            · go_wp2
              go_ret
              exact ⟨ret_bool HF.out.symm, HB.out⟩
          · go_wp2
            go_ret
            exact ⟨ret_bool HF.out.symm, HB.out⟩
      · go_wp2
        go_ret
        exact ⟨ret_bool HF.out.symm, HB.out⟩
end Go.Proofs.YtmiiilamjbhheaaGreatDoor.trees
