/-
  What the program's rightAlone, rightBelow and NodeOk answer.
-/
import Derived.Test.YtmiiilamjbhheaaGreatDoorImplParts
import Derived.Test.YtmiiilamjbhheaaGreatDoorImplRight
import Derived.Test.YtmiiilamjbhheaaGreatDoorImplAttrs
import Derived.Test.YtmiiilamjbhheaaGreatDoorImplTold
import Derived.Test.YtmiiilamjbhheaaGreatDoorImplFold
namespace Go.Proofs.YtmiiilamjbhheaaGreatDoor.trees
open Go.ChangeShapes Go.WideShapes Go.ChangeAt Go.RowKit
open pairs (Pair at0 PairsAt)
open scopes (ret_bool textB declB declsB preOkB uriOkB)
set_option linter.unusedVariables false
/-- The tables that are read. -/
structure NTabs (w : World) : Prop where
  tab : scopes.Tabs w
  max : frames.MaxAt w
  fold : FoldAt w
theorem NTabs.below {w w' : World} (h : NTabs w) (hb : Below w.heap.size w w') : NTabs w' := ⟨h.tab.below hb, h.max.below hb, h.fold.below hb⟩
set_option maxRecDepth 100000 in
set_option maxHeartbeats 2000000 in
theorem alone_none (k : Int) (p l u x : ByteArray) (nd na nk : Nat) (h : Hdr) (w : World) (h0 : (k == 0) = false) (h1 : (k == 1) = false) (h2 : (k == 2) = false) (h3 : (k == 3) = false) (h4 : (k == 4) = false) : Calls Tryz.prog 57 #[.agg #[.int .i64 k, .string p, .string l, .string u, .slice h.da nd h.dc, .slice h.aa na h.ac, .slice h.ka nk h.kc, .string x]] w fun e w' => e = .returned (.bool false) ∧ Below w.heap.size w w' := by
  have HSH : Hid (∀ W, _) := fun W => shape_none k p l u x nd na nk h W h0 h1 h2 h3 h4
  clear h0 h1 h2 h3 h4
  go_enter Tryz.func57, Tryz.ntmps57
  go_wp2_with fail
  refine (HSH.out _).mono ?_
  rintro e w1 ⟨rfl, hb1⟩
  have HB : Hid _ := box_under hb1
  clear hb1
  go_wp2_with fail
  refine quiets.wp_region_below (by kernel_rfl) (by kernel_rfl) ?_
  repeat (go_big_quiet_step ((first | (intro hq; rfl))))
  refine wpQuiet_nil ?_
  intro w6 hb6
  have HB6 : Hid _ := HB.out.trans (hb6.mono HB.out.size)
  clear hb6
  go_wp2
  go_ret
  exact ⟨rfl, HB6.out⟩
theorem zero_cast : ((0 : Nat) : Int) = 0 := rfl
theorem right_alone (t : Tree) (h : Hdr) (B : Nat) (w : World) (hz : nsz t ≤ 1048576) (hn : NodeIn w B t h) (hT : NTabs w) : Calls Tryz.prog 57 #[.agg (vals t h)] w fun e w' => e = .returned (.bool (aloneB t)) ∧ Below w.heap.size w w' := by
  have hK := kids_at hn
  have hD := hn.decls
  have hA := hn.atts
  obtain ⟨k, p, l, u, x, ds, ats, ks⟩ := t
  obtain ⟨da, dc, aa, ac, ka, kc⟩ := h
  rw [nsz] at hz
  simp only [vals, Tree.kind, Tree.pre, Tree.loc, Tree.uri, Tree.text, Tree.ds, Tree.ats, Tree.kids] at hK hD hA ⊢
  have hp : p.size ≤ maxLen := by unfold maxLen; omega
  have hl : l.size ≤ maxLen := by unfold maxLen; omega
  have hu : u.size ≤ maxLen := by unfold maxLen; omega
  have hx : x.size ≤ 1048576 := by omega
  by_cases k0 : k = 0
  · subst k0
    refine (alone_whole p l u x ds.length ats.length ks.length ⟨da, dc, aa, ac, ka, kc⟩ _ _ w (fun W => nothing_else 0 0 p l u x ⟨#[]⟩ ⟨#[]⟩ ⟨#[]⟩ ⟨#[]⟩ ds.length ats.length ks.length 0 0 ks.length ⟨da, dc, aa, ac, ka, kc⟩ ⟨none, 0, none, 0, ka, kc⟩ _ rfl W)
      (fun W hW => shape_ok_whole ka ks.length kc _ _ W (fun W2 h2 => impl_count_kind B ka ks kc 1 W2 ((hK.below hW).below h2)) (fun W2 h2 => impl_count_kind B ka ks kc 2 W2 ((hK.below hW).below h2)))).mono ?_
    rintro e w' ⟨rfl, hb⟩
    refine ⟨ret_bool ?_, hb⟩
    unfold aloneB wholeB
    simp only [Tree.kind, Tree.pre, Tree.loc, Tree.uri, Tree.text, Tree.ds, Tree.ats, Tree.kids, lt_eq_none, beq_self_eq_true, Bool.and_true, cond_true, zero_cast]
    ac_rfl
  · by_cases k1 : k = 1
    · subst k1
      refine (alone_el p l u x ds.length ats.length ks.length ⟨da, dc, aa, ac, ka, kc⟩ _ _ w (fun W => nothing_else 1 1 p l u x p l u ⟨#[]⟩ ds.length ats.length ks.length ds.length ats.length ks.length ⟨da, dc, aa, ac, ka, kc⟩ ⟨da, dc, aa, ac, ka, kc⟩ _ rfl W)
        (fun W hW => shape_ok_el p l u da aa ka ds.length dc ats.length ac ks.length kc _ W (fun W2 h2 => element_ok p l u da aa ka ds.length dc ats.length ac ks.length kc _ _ _ _ _ W2
          (fun W3 h3 => scopes.impl_decl p u W3 hp hu (((hT.below hW).below h2).below h3).tab)
          (fun W3 h3 => plainH l _ hl rfl W3 (((hT.below hW).below h2).below h3).tab)
          (fun W3 h3 => scopes.impl_decls da ds dc W3 (((hT.below hW).below h2).below h3).tab (((hD.below (Nat.le_refl _) hW).below (Nat.le_refl _) h2).below (Nat.le_refl _) h3))
          (fun W3 h3 => attrs_ok aa ats ac W3 (((hT.below hW).below h2).below h3).tab (((hA.below (Nat.le_refl _) hW).below (Nat.le_refl _) h2).below (Nat.le_refl _) h3))
          (fun W3 h3 => impl_texts_meet B ka ks kc W3 (((hK.below hW).below h2).below h3))))).mono ?_
      rintro e w' ⟨rfl, hb⟩
      refine ⟨ret_bool ?_, hb⟩
      unfold aloneB oneB elOneB
      rw [scopes.decl_impl]
      simp only [Tree.kind, Tree.pre, Tree.loc, Tree.uri, Tree.text, Tree.ds, Tree.ats, Tree.kids, lt_eq_none, beq_self_eq_true, Bool.and_true, Bool.true_and, cond_true, Bool.not_true, Bool.false_or, show ((1 : Int) == 0) = false from rfl, cond_false]
      have e1 : l5PreB p = preOkB p := rfl
      have e2 : uriOkB u = (decide ((u.size : Int) ≤ 40) && textB u) := rfl
      have e3 : (u.toList.isEmpty && !p.toList.isEmpty) = (!p.toList.isEmpty && u.toList.isEmpty) := Bool.and_comm _ _
      rw [e1, e2, e3]
      ac_rfl
    · by_cases k2 : k = 2
      · subst k2
        refine (alone_text p l u x ds.length ats.length ks.length ⟨da, dc, aa, ac, ka, kc⟩ _ _ w (fun W => nothing_else 2 2 p l u x ⟨#[]⟩ ⟨#[]⟩ ⟨#[]⟩ x ds.length ats.length ks.length 0 0 0 ⟨da, dc, aa, ac, ka, kc⟩ ⟨none, 0, none, 0, none, 0⟩ _ rfl W)
          (fun W hW => shape_ok_text x _ W (fun W2 h2 => textH x _ (by unfold maxLen; omega) rfl W2 ((hT.below hW).below h2).tab))).mono ?_
        rintro e w' ⟨rfl, hb⟩
        refine ⟨ret_bool ?_, hb⟩
        unfold aloneB oneB textOneB bareB
        simp only [Tree.kind, Tree.pre, Tree.loc, Tree.uri, Tree.text, Tree.ds, Tree.ats, Tree.kids, lt_eq_none, beq_self_eq_true, Bool.and_true, Bool.true_and, cond_true, zero_cast, Bool.not_false, Bool.true_or, show ((2 : Int) == 0) = false from rfl, show ((2 : Int) == 1) = false from rfl, cond_false]
        ac_rfl
      · by_cases k3 : k = 3
        · subst k3
          refine (alone_note p l u x ds.length ats.length ks.length ⟨da, dc, aa, ac, ka, kc⟩ _ _ w (fun W => nothing_else 3 3 p l u x ⟨#[]⟩ ⟨#[]⟩ ⟨#[]⟩ x ds.length ats.length ks.length 0 0 0 ⟨da, dc, aa, ac, ka, kc⟩ ⟨none, 0, none, 0, none, 0⟩ _ rfl W)
            (fun W hW => shape_ok_note x _ _ W (fun W2 h2 => mark_text x _ W2 hx ((hT.below hW).below h2).tab ((hT.below hW).below h2).max) (fun W2 h2 => suffix_H x _ hx rfl W2))).mono ?_
          rintro e w' ⟨rfl, hb⟩
          refine ⟨ret_bool ?_, hb⟩
          unfold aloneB oneB noteOneB bareB
          simp only [Tree.kind, Tree.pre, Tree.loc, Tree.uri, Tree.text, Tree.ds, Tree.ats, Tree.kids, lt_eq_none, beq_self_eq_true, Bool.and_true, Bool.true_and, cond_true, zero_cast, Bool.not_false, Bool.not_not, Bool.true_or, show ((3 : Int) == 0) = false from rfl, show ((3 : Int) == 1) = false from rfl, show ((3 : Int) == 2) = false from rfl, cond_false]
          ac_rfl
        · by_cases k4 : k = 4
          · subst k4
            refine (alone_told p l u x ds.length ats.length ks.length ⟨da, dc, aa, ac, ka, kc⟩ _ _ w (fun W => nothing_else 4 4 p l u x ⟨#[]⟩ l ⟨#[]⟩ x ds.length ats.length ks.length 0 0 0 ⟨da, dc, aa, ac, ka, kc⟩ ⟨none, 0, none, 0, none, 0⟩ _ rfl W)
              (fun W hW => shape_ok_told l x _ _ _ W (fun W2 h2 => plainH l _ hl rfl W2 ((hT.below hW).below h2).tab) (fun W2 h2 => fold_xml l _ (by omega) rfl W2 ((hT.below hW).below h2).fold) (fun W2 h2 => told_text x W2 hx ((hT.below hW).below h2).tab ((hT.below hW).below h2).max))).mono ?_
            rintro e w' ⟨rfl, hb⟩
            refine ⟨ret_bool ?_, hb⟩
            unfold aloneB oneB toldOneB bareB
            simp only [Tree.kind, Tree.pre, Tree.loc, Tree.uri, Tree.text, Tree.ds, Tree.ats, Tree.kids, lt_eq_none, beq_self_eq_true, Bool.and_true, Bool.true_and, cond_true, zero_cast, Bool.not_false, Bool.true_or, show ((4 : Int) == 0) = false from rfl, show ((4 : Int) == 1) = false from rfl, show ((4 : Int) == 2) = false from rfl, show ((4 : Int) == 3) = false from rfl, cond_false]
            ac_rfl
          · have c0 : (k == 0) = false := by simpa using k0
            have c1 : (k == 1) = false := by simpa using k1
            have c2 : (k == 2) = false := by simpa using k2
            have c3 : (k == 3) = false := by simpa using k3
            have c4 : (k == 4) = false := by simpa using k4
            refine (alone_none k p l u x ds.length ats.length ks.length ⟨da, dc, aa, ac, ka, kc⟩ w c0 c1 c2 c3 c4).mono ?_
            rintro e w' ⟨rfl, hb⟩
            refine ⟨ret_bool ?_, hb⟩
            unfold aloneB oneB
            simp only [Tree.kind, c0, c1, c2, c3, c4, cond_false, Bool.false_and]
def RightOk (t : Tree) (h : Hdr) (w : World) : Prop :=
  Calls Tryz.prog 47 #[.agg (vals t h)] w fun e w' => e = .returned (.bool (rightT t)) ∧ Below w.heap.size w w'
theorem right_alone_flat {k : Int} {p l u x : ByteArray} {ds : List Pair} {ats : List Att} {ks : List Tree} {da : Option Addr} {dc : Nat} {aa : Option Addr} {ac : Nat} {ka : Option Addr} {kc : Nat} {B : Nat} {b : Bool} (w : World) (hb : aloneB (.mk k p l u x ds ats ks) = b) (hz : nsz (.mk k p l u x ds ats ks) ≤ 1048576) (hn : NodeIn w B (.mk k p l u x ds ats ks) ⟨da, dc, aa, ac, ka, kc⟩) (hT : NTabs w) : Calls Tryz.prog 57 #[.agg #[.int .i64 k, .string p, .string l, .string u, .slice da ds.length dc, .slice aa ats.length ac, .slice ka ks.length kc, .string x]] w fun e w' => e = .returned (.bool b) ∧ Below w.heap.size w w' := by
  have := right_alone (.mk k p l u x ds ats ks) ⟨da, dc, aa, ac, ka, kc⟩ B w hz hn hT
  rw [hb] at this
  exact this
set_option maxRecDepth 100000 in
set_option maxHeartbeats 4000000 in
theorem right_node_of (n B : Nat) (ih : ∀ (t : Tree) (h : Hdr) (w : World), tsize t < n → nsz t ≤ 1048576 → NodeIn w B t h → NTabs w → RightOk t h w)
    (t : Tree) (h : Hdr) (w : World) (ht : tsize t ≤ n) (hz : nsz t ≤ 1048576) (hn : NodeIn w B t h) (hT : NTabs w) : RightOk t h w := by
  have hkt := tsize_kid t
  obtain ⟨k, p, l, u, x, ds, ats, ks⟩ := t
  obtain ⟨da, dc, aa, ac, ka, kc⟩ := h
  have HK : Hid (NodesAt w B ka ks) := kids_at hn
  have hkk : ks.length ≤ 9223372036854775807 := (kids_at hn).short
  have HKZ : Hid (∀ j, j < ks.length → nsz (kid ks j) ≤ 1048576) := fun j hj => by
    have h1 := nsz_kid ks j hj
    rw [nsz] at hz
    omega
  have HT : Hid _ := hT
  obtain ⟨ab, hab⟩ : ∃ b, aloneB (.mk k p l u x ds ats ks) = b := ⟨_, rfl⟩
  have HA : Hid (∀ o, Calls Tryz.prog 57 #[.agg #[.int .i64 k, .string p, .string l, .string u, .slice da ds.length dc, .slice aa ats.length ac, .slice ka ks.length kc, .string x]] (w.alloc o) fun e w' => e = .returned (.bool ab) ∧ Below (w.alloc o).heap.size (w.alloc o) w') := fun o => right_alone_flat _ hab hz (hn.below ((Below.refl _ _).alloc (Nat.le_refl _) o)) (hT.below ((Below.refl _ _).alloc (Nat.le_refl _) o))
  have HF : Hid (rightT (.mk k p l u x ds ats ks) = (ab && rightL ks)) := by show _ = _; rw [rightT, hab]
  have HKT : Hid (∀ i, i < ks.length → tsize (kid ks i) < n) := fun i hi => Nat.lt_of_lt_of_le (hkt i hi) ht
  have HIH : Hid _ := ih
  unfold RightOk
  rw [HF.out]
  simp only [vals, Tree.kind, Tree.pre, Tree.loc, Tree.uri, Tree.text, Tree.ds, Tree.ats, Tree.kids]
  clear ih hn ht hz hkt hab hT HF
  go_enter Tryz.func47, Tryz.ntmps47
  go_wp2_with fail
  refine (HA.out _).mono ?_
  rintro e w1 ⟨rfl, hb1⟩
  have HX1 : Hid _ := box_kept hb1
  have HB1 : Hid _ := box_under hb1
  obtain ⟨b0, b1, b2, b3, b4, b5, b6, b7⟩ := box8 HX1.out
  clear hb1
  cases ab
  · go_wp2
    go_ret
    exact ⟨rfl, HB1.out⟩
  · go_wp2_with fail
    go_loopw [11] (fun t wr => ∃ i : Nat, i ≤ ks.length ∧ t = .int .i64 i ∧ Hid (∀ j, j < i → (!((kid ks j).kind == 0) && rightT (kid ks j)) = true) ∧ Hid (Below w1.heap.size w1 wr)) (fun t _ => ks.length - (intOf t).toNat)
    case atStart => exact ⟨0, Nat.zero_le _, rfl, (fun j hj => by omega), Below.refl _ _⟩
    case round =>
      obtain ⟨i, hi, rfl, hup, hbw⟩ := hrel
      have HBW : Hid _ := HB1.out.trans (hbw.out.mono HB1.out.size)
      by_cases hlt : i < ks.length
      · obtain ⟨b, off, ha, hblt, hc⟩ := (HK.out.below HBW.out).row (by omega)
        obtain ⟨h', hnode, hc0, hc1, hc2, hc3, hc4, hc5, hc6, hc7⟩ := hc i hlt
        have hE := fun W (hW : Below wr.heap.size wr W) => HIH.out (kid ks i) h' W (HKT.out i hlt) (HKZ.out i hlt) (hnode.below hW) (HT.out.below (HBW.out.trans (hW.mono HBW.out.size)))
        unfold RightOk at hE
        unfold vals at hE
        have hno : (!((kid ks i).kind == 0) && rightT (kid ks i)) = false → rightL ks = false := fun h => (rightL_range ks).trans (all_no (f := fun i => !((kid ks i).kind == 0) && rightT (kid ks i)) hlt h)
        have hmo := fun h => upto_more (f := fun i => !((kid ks i).kind == 0) && rightT (kid ks i)) hup.out h
        generalize kid ks i = y at hc0 hc1 hc2 hc3 hc4 hc5 hc6 hc7 hE hno hmo
        have HE : Hid (∀ W, Below wr.heap.size wr W → _) := hE
        have HNO : Hid (∀ h, _) := hno
        have HMO : Hid (∀ h, _) := hmo
        subst ha
        clear hc hE hno hmo hnode
        cases hk0 : (y.kind == 0)
        · go_wp2_with fail
          refine Calls.mono (HE.out _ ((Below.refl _ _).alloc (Nat.le_refl _) _)) ?_
          rintro e w2 ⟨rfl, hb2⟩
          have HB2 : Hid _ := hbw.out.trans ((box_under hb2).mono hbw.out.size)
          clear hb2 HE
          cases hfb : rightT y
          · have HFF : Hid (rightL ks = false) := HNO.out (by rw [hk0, hfb]; rfl)
            go_wp2
            go_ret
            exact ⟨ret_bool (by rw [HFF.out]; rfl), HB1.out.trans (HB2.out.mono HB1.out.size)⟩
          · have HUP : Hid _ := HMO.out (by rw [hk0, hfb]; rfl)
            go_wp2
            go_roundw
            case rel => exact ⟨i + 1, by omega, by go_num, HUP.out, HB2.out⟩
            case measure => simp [intOf]; omega
        · have HFF : Hid (rightL ks = false) := HNO.out (by rw [hk0]; rfl)
          have HB2 : Hid (∀ o, Below w.heap.size w (wr.alloc o)) := fun o => HBW.out.trans (((Below.refl _ wr).alloc (Nat.le_refl _) o).mono HBW.out.size)
          go_wp2
          go_ret
          exact ⟨ret_bool (by rw [HFF.out]; rfl), HB2.out _⟩
      · have HFF : Hid (rightL ks = true) := (rightL_range ks).trans (all_yes fun j hj => hup.out j (by omega))
        go_wp2
        go_ret
        exact ⟨ret_bool (by rw [HFF.out]; rfl), HBW.out⟩
theorem right_node (B : Nat) : ∀ n, ∀ (t : Tree) (h : Hdr) (w : World), tsize t < n → nsz t ≤ 1048576 → NodeIn w B t h → NTabs w → RightOk t h w
  | 0, t, h, w, ht, _, _, _ => by omega
  | n + 1, t, h, w, ht, hz, hn, hT => right_node_of n B (fun t h w ht hz hn hT => right_node B n t h w ht hz hn hT) t h w (by omega) hz hn hT
def ImplNodeOkOk (t : Tree) (h : Hdr) (w : World) : Prop :=
  Calls Tryz.prog 31 #[.agg (vals t h)] w fun e w' => e = .returned (.bool (nodeOkB t)) ∧ Below w.heap.size w w'
set_option maxRecDepth 100000 in
set_option maxHeartbeats 4000000 in
theorem impl_node_ok (t : Tree) (h : Hdr) (B : Nat) (w : World) (hz : nsz t ≤ 1048576) (hn : NodeIn w B t h) (hT : NTabs w) : ImplNodeOkOk t h w := by
  have H1 : Hid (∀ W, Below w.heap.size w W → LeftOk t h 60 W) := fun W hb => left_node B _ t h 60 W (Nat.lt_succ_self _) (by omega) (by omega) (hn.below hb)
  have H2 : Hid (∀ W, Below w.heap.size w W → DeepOk t h W) := fun W hb => deep_node B _ t h W (Nat.lt_succ_self _) (by omega) (hn.below hb)
  have H3 : Hid (∀ W, Below w.heap.size w W → RightOk t h W) := fun W hb => right_node B _ t h W (Nat.lt_succ_self _) (by omega) (hn.below hb) (hT.below hb)
  have HF : Hid (nodeOkB t = (decide ((cnt t : Int) ≤ 60) && (decide ((deepT t : Int) ≤ 7) && rightT t))) := node_ok_right t
  unfold LeftOk at H1
  unfold DeepOk at H2
  unfold RightOk at H3
  unfold ImplNodeOkOk
  obtain ⟨c, hc⟩ : ∃ c, cnt t = c := ⟨_, rfl⟩
  obtain ⟨d, hd⟩ : ∃ d, deepT t = d := ⟨_, rfl⟩
  obtain ⟨r, hr⟩ : ∃ r, rightT t = r := ⟨_, rfl⟩
  rw [hc, hd, hr] at HF
  rw [hc] at H1
  rw [hd] at H2
  rw [hr] at H3
  rw [HF.out]
  have hdl : d ≤ 2000000 := by
    have h1 := deepT_le t
    have h2 := cnt_le t
    omega
  clear hn hT hz hc hd hr HF
  obtain ⟨k, p, l, u, x, ds, ats, ks⟩ := t
  obtain ⟨da, dc, aa, ac, ka, kc⟩ := h
  simp only [vals, Tree.kind, Tree.pre, Tree.loc, Tree.uri, Tree.text, Tree.ds, Tree.ats, Tree.kids] at H1 H2 H3 ⊢
  go_enter Tryz.func31, Tryz.ntmps31
  go_wp2_with fail
  refine (H1.out _ ((Below.refl _ _).alloc (Nat.le_refl _) _)).mono ?_
  rintro e w1 ⟨⟨q, rfl, hq1, hq2, hq3⟩, hb1⟩
  have HB1 : Hid _ := box_under hb1
  have HX1 : Hid _ := box_kept hb1
  obtain ⟨b0, b1, b2, b3, b4, b5, b6, b7⟩ := box8 HX1.out
  clear hb1
  by_cases hq : 0 ≤ q
  · have HL : Hid (decide ((c : Int) ≤ 60) = true) := decide_eq_true (by omega)
    clear hq3
    go_wp2_with fail
    refine (H2.out _ HB1.out).mono ?_
    rintro e w2 ⟨rfl, hb2⟩
    have HB2 : Hid _ := HB1.out.trans (hb2.mono HB1.out.size)
    have HX2 : Hid _ := (hb2.block _ (pairs.lt_heap HX1.out)).trans HX1.out
    clear hb2 b0 b1 b2 b3 b4 b5 b6 b7
    obtain ⟨b0, b1, b2, b3, b4, b5, b6, b7⟩ := box8 HX2.out
    by_cases hd7 : (d : Int) ≤ 7
    · have HD : Hid (decide ((d : Int) ≤ 7) = true) := decide_eq_true hd7
      go_wp2_with fail
      refine (H3.out _ HB2.out).mono ?_
      rintro e w3 ⟨rfl, hb3⟩
      have HB3 : Hid _ := HB2.out.trans (hb3.mono HB2.out.size)
      clear hb3
      go_wp2
      go_ret
      exact ⟨ret_bool (by rw [HL.out, HD.out]; rfl), HB3.out⟩
    · have HD : Hid (decide ((d : Int) ≤ 7) = false) := decide_eq_false hd7
      go_wp2
      go_ret
      exact ⟨ret_bool (by rw [HL.out, HD.out]; rfl), HB2.out⟩
  · have HL : Hid (decide ((c : Int) ≤ 60) = false) := decide_eq_false (by omega)
    clear hq3
    go_wp2
    go_ret
    exact ⟨ret_bool (by rw [HL.out]; rfl), HB1.out⟩
end Go.Proofs.YtmiiilamjbhheaaGreatDoor.trees
