/-
  What the specification's FitsIn answers.
-/
import Derived.Test.YtglcjaedmmknpaaGreatDoorFitsP
import Derived.Test.YtglcjaedmmknpaaGreatDoorScope
namespace Go.Proofs.YtglcjaedmmknpaaGreatDoor.trees
open Go.ChangeShapes Go.WideShapes Go.ChangeAt Go.RowKit
open pairs (Pair at0 PairsAt)
open scopes (spaceR)
set_option linter.unusedVariables false
theorem ret_bool {a b : Bool} (h : a = b) : Ending.returned (.bool a) = .returned (.bool b) := by rw [h]
def FitOk (t : Tree) (h : Hdr) (a : Option Addr) (L : List Pair) (cap : Nat) (w : World) : Prop :=
  Calls Tryz.prog 13 #[.agg (vals t h), .slice a L.length cap] w fun e w' => e = .returned (.bool (fitsB t L)) ∧ Below w.heap.size w w'
set_option maxRecDepth 100000 in
set_option maxHeartbeats 4000000 in
theorem fit_node_of (n B : Nat) (ih : ∀ (t : Tree) (h : Hdr) (a : Option Addr) (L : List Pair) (cap : Nat) (w : World), tsize t < n → L.length + nsz t ≤ 3000000 → (∀ i, i < L.length → (at0 L i).1.size ≤ maxLen ∧ (at0 L i).2.size ≤ maxLen) → NodeIn w B t h → PairsAt w a L → FitOk t h a L cap w)
    (t : Tree) (h : Hdr) (a : Option Addr) (L : List Pair) (cap : Nat) (w : World) (ht : tsize t ≤ n) (hz : L.length + nsz t ≤ 3000000) (hn : NodeIn w B t h) (hL : PairsAt w a L) : FitOk t h a L cap w := by
  have hkt := tsize_kid t
  obtain ⟨k, p, l, u, x, ds, ats, ks⟩ := t
  obtain ⟨da, dc, aa, ac, ka, kc⟩ := h
  have HD : Hid (PairsAt w da ds) := hn.decls
  have HA : Hid (AttsAt w aa ats) := hn.atts
  have HK : Hid (NodesAt w B ka ks) := kids_at hn
  have HL : Hid _ := hL
  have hka := hn.atts.short
  have hkk := (kids_at hn).short
  simp only [Tree.ats, Tree.kids] at hka hkk
  unfold maxLen at hka hkk
  have hnz : nsz (.mk k p l u x ds ats ks) = p.size + l.size + u.size + (ds.length + pairs.sizeTo ds ds.length) + smallA ats + nszs ks + x.size := by rw [nsz]
  have HZ : Hid (L.length + ds.length + nszs ks ≤ 3000000) := by show _ ≤ _; omega
  have HKT : Hid (∀ i, i < ks.length → tsize (kid ks i) < n) := fun i hi => Nat.lt_of_lt_of_le (hkt i hi) ht
  have HIH : Hid _ := ih
  have HTX : Hid (∀ i, i < (L ++ ds).length → (at0 (L ++ ds) i).1.size ≤ maxLen ∧ (at0 (L ++ ds) i).2.size ≤ maxLen) := pairs.both_texts hL.texts hn.decls.texts
  obtain ⟨LM, hLM⟩ : ∃ LM, LM = L ++ ds := ⟨_, rfl⟩
  have HF : Hid (fitsB (.mk k p l u x ds ats ks) L = (headFit LM k p u && (attsFit LM ats && fitsAll ks LM))) := by show _ = _; rw [fitsB, hLM]
  unfold FitOk
  rw [HF.out]
  simp only [vals, Tree.kind, Tree.pre, Tree.loc, Tree.uri, Tree.text, Tree.ds, Tree.ats, Tree.kids]
  rw [← hLM] at HTX
  have HLM : Hid _ := hLM
  have HLN : Hid (LM.length ≤ maxLen) := by have := HZ.out; show _ ≤ _; rw [hLM, List.length_append]; unfold maxLen; omega
  clear ih hn ht hL hz hnz hkt hLM HF
  go_enter Tryz.func13, Tryz.ntmps13
  go_wp2_with fail
  refine (scopes.spec_inner _ _ _ _ _ _ _ (HL.out.below (Nat.le_refl _) ((Below.refl _ _).alloc (Nat.le_refl _) _)) (HD.out.below (Nat.le_refl _) ((Below.refl _ _).alloc (Nat.le_refl _) _)) (by have := HZ.out; omega)).mono ?_
  rintro e w1 ⟨⟨v, rfl, ho, hv⟩, hb1⟩
  rw [← HLM.out] at ho
  obtain ⟨g, c, rfl, hg, hm⟩ := ho.made hv
  have HI : Hid (PairsAt w1 (some ⟨g, 0, none⟩) LM) := hm.pairs HLN.out HTX.out
  have HX1 : Hid _ := box_kept hb1
  have HB1 : Hid _ := box_under hb1
  obtain ⟨b0, b1, b2, b3, b4, b5, b6, b7⟩ := box8 HX1.out
  clear hb1 ho hv hg hm
  cases hk1 : (k == 1)
  · have HH : Hid (headFit LM k p u = true) := by show _ = _; unfold headFit; rw [hk1]; rfl
    go_wp2_with fail
    go_loopw [8] (fun t wr => ∃ i : Nat, i ≤ ats.length ∧ t = .int .i64 i ∧ Hid (∀ j, j < i → attFit LM (att0 ats j) = true) ∧ Hid (Below w1.heap.size w1 wr)) (fun t _ => ats.length - (intOf t).toNat)
    case atStart => exact ⟨0, Nat.zero_le _, rfl, (fun j hj => by omega), Below.refl _ _⟩
    case round =>
      obtain ⟨i, hi, rfl, hup, hbw⟩ := hrel
      have HBW : Hid _ := HB1.out.trans (hbw.out.mono HB1.out.size)
      have HXW : Hid _ := (hbw.out.block _ (pairs.lt_heap HX1.out)).trans HX1.out
      have HIW : Hid _ := HI.out.below (Nat.le_refl _) hbw.out
      clear b0 b1 b2 b3 b4 b5 b6 b7
      obtain ⟨b0, b1, b2, b3, b4, b5, b6, b7⟩ := box8 HXW.out
      by_cases hlt : i < ats.length
      · obtain ⟨b, off, ha, hblt, hc⟩ := (HA.out.below (Nat.le_refl _) HBW.out).row (by omega)
        obtain ⟨hc1, hc2, hc3, hc4⟩ := hc i hlt
        have hno : attFit LM (att0 ats i) = false → attsFit LM ats = false := fun h => all_no (f := fun i => attFit LM (att0 ats i)) hlt h
        have hmo := fun h => upto_more (f := fun i => attFit LM (att0 ats i)) hup.out h
        generalize att0 ats i = y at hc1 hc2 hc3 hc4 hno hmo
        obtain ⟨sx, sok, hs⟩ : ∃ sx sok, spaceR LM y.pre = (sx, sok) := ⟨_, _, rfl⟩
        have HS : Hid (∀ (a : Option Addr) (cap : Nat) (w : World), _) := scopes.spec_spaceH LM y.pre sx sok hs
        have hat : attFit LM y = (y.pre.toList.isEmpty || (sok && (sx.toList == y.uri.toList))) := by unfold attFit fitB; rw [hs]
        rw [hat] at hno hmo
        have HNO : Hid (∀ h, _) := hno
        have HMO : Hid (∀ h, _) := hmo
        subst ha
        clear hc hs hat hno hmo
        cases he : y.pre.toList.isEmpty
        · cases sok
          · have HFF : Hid (attsFit LM ats = false) := HNO.out (by rw [he]; rfl)
            go_wp2_with (go_at_call 27; refine (HS.out _ _ _ HIW.out).mono ?_; rintro e w2 ⟨rfl, hw1⟩; have hw2 := hw1.symm; clear hw1; subst hw2)
            go_ret
            exact ⟨ret_bool (by rw [HH.out, HFF.out]; rfl), HBW.out⟩
          · cases hq : (sx.toList == y.uri.toList)
            · have HFF : Hid (attsFit LM ats = false) := HNO.out (by rw [he, hq]; rfl)
              go_wp2_with (go_at_call 27; refine (HS.out _ _ _ HIW.out).mono ?_; rintro e w2 ⟨rfl, hw1⟩; have hw2 := hw1.symm; clear hw1; subst hw2)
              go_ret
              exact ⟨ret_bool (by rw [HH.out, HFF.out]; rfl), HBW.out⟩
            · have HUP : Hid _ := HMO.out (by rw [he, hq]; rfl)
              go_wp2_with (go_at_call 27; refine (HS.out _ _ _ HIW.out).mono ?_; rintro e w2 ⟨rfl, hw1⟩; have hw2 := hw1.symm; clear hw1; subst hw2)
              go_roundw
              case rel => exact ⟨i + 1, by omega, by go_num, HUP.out, hbw.out⟩
              case measure => simp [intOf]; omega
        · have HUP : Hid _ := HMO.out (by rw [he]; rfl)
          go_wp2_with (go_at_call 27; refine (HS.out _ _ _ HIW.out).mono ?_; rintro e w2 ⟨rfl, hw1⟩; have hw2 := hw1.symm; clear hw1; subst hw2)
          go_roundw
          case rel => exact ⟨i + 1, by omega, by go_num, HUP.out, hbw.out⟩
          case measure => simp [intOf]; omega
      · have HAT : Hid (attsFit LM ats = true) := all_yes fun j hj => hup.out j (by omega)
        go_wp2_with fail
        go_loopw [11] (fun t wr => ∃ i : Nat, i ≤ ks.length ∧ t = .int .i64 i ∧ Hid (∀ j, j < i → fitsB (kid ks j) LM = true) ∧ Hid (Below w1.heap.size w1 wr)) (fun t _ => ks.length - (intOf t).toNat)
        case atStart => exact ⟨0, Nat.zero_le _, rfl, (fun j hj => by omega), hbw⟩
        case round =>
          clear HBW HXW HIW b0 b1 b2 b3 b4 b5 b6 b7 hbw hup hlt hi
          obtain ⟨i, hi, rfl, hup, hbw⟩ := hrel
          have HBW : Hid _ := HB1.out.trans (hbw.out.mono HB1.out.size)
          have HXW : Hid _ := (hbw.out.block _ (pairs.lt_heap HX1.out)).trans HX1.out
          have HIW : Hid _ := HI.out.below (Nat.le_refl _) hbw.out
          obtain ⟨b0, b1, b2, b3, b4, b5, b6, b7⟩ := box8 HXW.out
          by_cases hlt : i < ks.length
          · obtain ⟨b, off, ha, hblt, hc⟩ := (HK.out.below HBW.out).row (by omega)
            obtain ⟨h', hnode, hc0, hc1, hc2, hc3, hc4, hc5, hc6, hc7⟩ := hc i hlt
            have hE := HIH.out (kid ks i) h' (some ⟨g, 0, none⟩) LM c wr (HKT.out i hlt) (by have h1 := nsz_kid ks i hlt; have h2 := HZ.out; have h3 : LM.length = L.length + ds.length := (by rw [HLM.out, List.length_append]); omega) HTX.out hnode HIW.out
            unfold FitOk at hE
            unfold vals at hE
            have hno : fitsB (kid ks i) LM = false → fitsAll ks LM = false := fun h => (fitsAll_range ks LM).trans (all_no (f := fun i => fitsB (kid ks i) LM) hlt h)
            have hmo := fun h => upto_more (f := fun i => fitsB (kid ks i) LM) hup.out h
            generalize kid ks i = y at hc0 hc1 hc2 hc3 hc4 hc5 hc6 hc7 hE hno hmo
            have HE : Hid _ := hE
            have HNO : Hid (∀ h, _) := hno
            have HMO : Hid (∀ h, _) := hmo
            subst ha
            clear hc hE hno hmo hnode
            go_wp2_with fail
            refine Calls.mono HE.out ?_
            rintro e w2 ⟨rfl, hb2⟩
            have HB2 : Hid _ := hbw.out.trans (hb2.mono hbw.out.size)
            clear hb2 HE
            cases hfb : fitsB y LM
            · have HFF : Hid (fitsAll ks LM = false) := HNO.out hfb
              go_wp2
              go_ret
              exact ⟨ret_bool (by rw [HH.out, HAT.out, HFF.out]; rfl), HB1.out.trans (HB2.out.mono HB1.out.size)⟩
            · have HUP : Hid _ := HMO.out hfb
              go_wp2
              go_roundw
              case rel => exact ⟨i + 1, by omega, by go_num, HUP.out, HB2.out⟩
              case measure => simp [intOf]; omega
          · have HFF : Hid (fitsAll ks LM = true) := (fitsAll_range ks LM).trans (all_yes fun j hj => hup.out j (by omega))
            go_wp2
            go_ret
            exact ⟨ret_bool (by rw [HH.out, HAT.out, HFF.out]; rfl), HBW.out⟩
  · obtain ⟨hx, hok, hsp⟩ : ∃ hx hok, spaceR LM p = (hx, hok) := ⟨_, _, rfl⟩
    have HSP : Hid (∀ (a : Option Addr) (cap : Nat) (w : World), _) := scopes.spec_spaceH LM p hx hok hsp
    have HHE : Hid (headFit LM k p u = (hok && (hx.toList == u.toList))) := by show _ = _; unfold headFit fitB; rw [hk1, hsp]; rfl
    clear hsp
    cases hok
    · have HH : Hid (headFit LM k p u = false) := HHE.out
      go_wp2_with (go_at_call 27; refine (HSP.out _ _ _ HI.out).mono ?_; rintro e w2 ⟨rfl, hw1⟩; have hw2 := hw1.symm; clear hw1; subst hw2)
      go_ret
      exact ⟨ret_bool (by rw [HH.out]; rfl), HB1.out⟩
    · cases hq0 : (hx.toList == u.toList)
      · have HH : Hid (headFit LM k p u = false) := by show _ = _; rw [HHE.out, hq0]; rfl
        go_wp2_with (go_at_call 27; refine (HSP.out _ _ _ HI.out).mono ?_; rintro e w2 ⟨rfl, hw1⟩; have hw2 := hw1.symm; clear hw1; subst hw2)
        go_ret
        exact ⟨ret_bool (by rw [HH.out]; rfl), HB1.out⟩
      · have HH : Hid (headFit LM k p u = true) := by show _ = _; rw [HHE.out, hq0]; rfl
        go_wp2_with (go_at_call 27; refine (HSP.out _ _ _ HI.out).mono ?_; rintro e w2 ⟨rfl, hw1⟩; have hw2 := hw1.symm; clear hw1; subst hw2)
        go_loopw [8] (fun t wr => ∃ i : Nat, i ≤ ats.length ∧ t = .int .i64 i ∧ Hid (∀ j, j < i → attFit LM (att0 ats j) = true) ∧ Hid (Below w1.heap.size w1 wr)) (fun t _ => ats.length - (intOf t).toNat)
        case atStart => exact ⟨0, Nat.zero_le _, rfl, (fun j hj => by omega), Below.refl _ _⟩
        case round =>
          obtain ⟨i, hi, rfl, hup, hbw⟩ := hrel
          have HBW : Hid _ := HB1.out.trans (hbw.out.mono HB1.out.size)
          have HXW : Hid _ := (hbw.out.block _ (pairs.lt_heap HX1.out)).trans HX1.out
          have HIW : Hid _ := HI.out.below (Nat.le_refl _) hbw.out
          clear b0 b1 b2 b3 b4 b5 b6 b7
          obtain ⟨b0, b1, b2, b3, b4, b5, b6, b7⟩ := box8 HXW.out
          by_cases hlt : i < ats.length
          · obtain ⟨b, off, ha, hblt, hc⟩ := (HA.out.below (Nat.le_refl _) HBW.out).row (by omega)
            obtain ⟨hc1, hc2, hc3, hc4⟩ := hc i hlt
            have hno : attFit LM (att0 ats i) = false → attsFit LM ats = false := fun h => all_no (f := fun i => attFit LM (att0 ats i)) hlt h
            have hmo := fun h => upto_more (f := fun i => attFit LM (att0 ats i)) hup.out h
            generalize att0 ats i = y at hc1 hc2 hc3 hc4 hno hmo
            obtain ⟨sx, sok, hs⟩ : ∃ sx sok, spaceR LM y.pre = (sx, sok) := ⟨_, _, rfl⟩
            have HS : Hid (∀ (a : Option Addr) (cap : Nat) (w : World), _) := scopes.spec_spaceH LM y.pre sx sok hs
            have hat : attFit LM y = (y.pre.toList.isEmpty || (sok && (sx.toList == y.uri.toList))) := by unfold attFit fitB; rw [hs]
            rw [hat] at hno hmo
            have HNO : Hid (∀ h, _) := hno
            have HMO : Hid (∀ h, _) := hmo
            subst ha
            clear hc hs hat hno hmo
            cases he : y.pre.toList.isEmpty
            · cases sok
              · have HFF : Hid (attsFit LM ats = false) := HNO.out (by rw [he]; rfl)
                go_wp2_with (go_at_call 27; refine (HS.out _ _ _ HIW.out).mono ?_; rintro e w2 ⟨rfl, hw1⟩; have hw2 := hw1.symm; clear hw1; subst hw2)
                go_ret
                exact ⟨ret_bool (by rw [HH.out, HFF.out]; rfl), HBW.out⟩
              · cases hq : (sx.toList == y.uri.toList)
                · have HFF : Hid (attsFit LM ats = false) := HNO.out (by rw [he, hq]; rfl)
                  go_wp2_with (go_at_call 27; refine (HS.out _ _ _ HIW.out).mono ?_; rintro e w2 ⟨rfl, hw1⟩; have hw2 := hw1.symm; clear hw1; subst hw2)
                  go_ret
                  exact ⟨ret_bool (by rw [HH.out, HFF.out]; rfl), HBW.out⟩
                · have HUP : Hid _ := HMO.out (by rw [he, hq]; rfl)
                  go_wp2_with (go_at_call 27; refine (HS.out _ _ _ HIW.out).mono ?_; rintro e w2 ⟨rfl, hw1⟩; have hw2 := hw1.symm; clear hw1; subst hw2)
                  go_roundw
                  case rel => exact ⟨i + 1, by omega, by go_num, HUP.out, hbw.out⟩
                  case measure => simp [intOf]; omega
            · have HUP : Hid _ := HMO.out (by rw [he]; rfl)
              go_wp2_with (go_at_call 27; refine (HS.out _ _ _ HIW.out).mono ?_; rintro e w2 ⟨rfl, hw1⟩; have hw2 := hw1.symm; clear hw1; subst hw2)
              go_roundw
              case rel => exact ⟨i + 1, by omega, by go_num, HUP.out, hbw.out⟩
              case measure => simp [intOf]; omega
          · have HAT : Hid (attsFit LM ats = true) := all_yes fun j hj => hup.out j (by omega)
            go_wp2_with fail
            go_loopw [11] (fun t wr => ∃ i : Nat, i ≤ ks.length ∧ t = .int .i64 i ∧ Hid (∀ j, j < i → fitsB (kid ks j) LM = true) ∧ Hid (Below w1.heap.size w1 wr)) (fun t _ => ks.length - (intOf t).toNat)
            case atStart => exact ⟨0, Nat.zero_le _, rfl, (fun j hj => by omega), hbw⟩
            case round =>
              clear HBW HXW HIW b0 b1 b2 b3 b4 b5 b6 b7 hbw hup hlt hi
              obtain ⟨i, hi, rfl, hup, hbw⟩ := hrel
              have HBW : Hid _ := HB1.out.trans (hbw.out.mono HB1.out.size)
              have HXW : Hid _ := (hbw.out.block _ (pairs.lt_heap HX1.out)).trans HX1.out
              have HIW : Hid _ := HI.out.below (Nat.le_refl _) hbw.out
              obtain ⟨b0, b1, b2, b3, b4, b5, b6, b7⟩ := box8 HXW.out
              by_cases hlt : i < ks.length
              · obtain ⟨b, off, ha, hblt, hc⟩ := (HK.out.below HBW.out).row (by omega)
                obtain ⟨h', hnode, hc0, hc1, hc2, hc3, hc4, hc5, hc6, hc7⟩ := hc i hlt
                have hE := HIH.out (kid ks i) h' (some ⟨g, 0, none⟩) LM c wr (HKT.out i hlt) (by have h1 := nsz_kid ks i hlt; have h2 := HZ.out; have h3 : LM.length = L.length + ds.length := (by rw [HLM.out, List.length_append]); omega) HTX.out hnode HIW.out
                unfold FitOk at hE
                unfold vals at hE
                have hno : fitsB (kid ks i) LM = false → fitsAll ks LM = false := fun h => (fitsAll_range ks LM).trans (all_no (f := fun i => fitsB (kid ks i) LM) hlt h)
                have hmo := fun h => upto_more (f := fun i => fitsB (kid ks i) LM) hup.out h
                generalize kid ks i = y at hc0 hc1 hc2 hc3 hc4 hc5 hc6 hc7 hE hno hmo
                have HE : Hid _ := hE
                have HNO : Hid (∀ h, _) := hno
                have HMO : Hid (∀ h, _) := hmo
                subst ha
                clear hc hE hno hmo hnode
                go_wp2_with fail
                refine Calls.mono HE.out ?_
                rintro e w2 ⟨rfl, hb2⟩
                have HB2 : Hid _ := hbw.out.trans (hb2.mono hbw.out.size)
                clear hb2 HE
                cases hfb : fitsB y LM
                · have HFF : Hid (fitsAll ks LM = false) := HNO.out hfb
                  go_wp2
                  go_ret
                  exact ⟨ret_bool (by rw [HH.out, HAT.out, HFF.out]; rfl), HB1.out.trans (HB2.out.mono HB1.out.size)⟩
                · have HUP : Hid _ := HMO.out hfb
                  go_wp2
                  go_roundw
                  case rel => exact ⟨i + 1, by omega, by go_num, HUP.out, HB2.out⟩
                  case measure => simp [intOf]; omega
              · have HFF : Hid (fitsAll ks LM = true) := (fitsAll_range ks LM).trans (all_yes fun j hj => hup.out j (by omega))
                go_wp2
                go_ret
                exact ⟨ret_bool (by rw [HH.out, HAT.out, HFF.out]; rfl), HBW.out⟩
theorem fit_node (B : Nat) : ∀ n, ∀ (t : Tree) (h : Hdr) (a : Option Addr) (L : List Pair) (cap : Nat) (w : World), tsize t < n → L.length + nsz t ≤ 3000000 → (∀ i, i < L.length → (at0 L i).1.size ≤ maxLen ∧ (at0 L i).2.size ≤ maxLen) → NodeIn w B t h → PairsAt w a L → FitOk t h a L cap w
  | 0, t, h, a, L, cap, w, ht, _, _, _, _ => by omega
  | n + 1, t, h, a, L, cap, w, ht, hz, htx, hn, hL => fit_node_of n B (fun t h a L cap w ht hz htx hn hL => fit_node B n t h a L cap w ht hz htx hn hL) t h a L cap w (by omega) hz hn hL
end Go.Proofs.YtglcjaedmmknpaaGreatDoor.trees
