/-
  What the specification's l5One answers of an element.
-/
import Derived.Test.YtmiiilamjbhheaaGreatDoorSpecNode4
import Derived.Test.YtmiiilamjbhheaaGreatDoorFitsP
namespace Go.Proofs.YtmiiilamjbhheaaGreatDoor.trees
open Go.ChangeShapes Go.WideShapes Go.ChangeAt Go.RowKit
open pairs (Pair at0 PairsAt)
open scopes (xmlB textB declsB ret_bool)
set_option linter.unusedVariables false
def ordB (L : List Att) (i : Nat) : Bool := decide (i = 0) || lessB (att0 L (i - 1)) (att0 L i)
def attsB (L : List Att) : Bool := (List.range L.length).all fun i => attB (att0 L i) && ordB L i
def elOneB (t : Tree) : Bool := l5PreB t.pre && (names.plainB t.loc && (t.text.toList.isEmpty && (!(!t.pre.toList.isEmpty && t.uri.toList.isEmpty) && (textB t.uri && (decide ((t.uri.size : Int) ≤ 40) && (declsB t.ds && (decide ((t.ats.length : Int) ≤ 5) && attsB t.ats)))))))
theorem pre_flat (s : ByteArray) (b : Bool) (hs : s.size ≤ maxLen) (h : l5PreB s = b) (w : World) : Calls Tryz.prog 64 #[.string s] w fun e w' => e = .returned (.bool b) ∧ Below w.heap.size w w' := by rw [← h]; exact spec_l5pre s w hs
theorem decls_flat (a : Option Addr) (L : List Pair) (cap : Nat) (b : Bool) (h : declsB L = b) (w : World) (hL : PairsAt w a L) : Calls Tryz.prog 67 #[.slice a L.length cap] w fun e w' => e = .returned (.bool b) ∧ Below w.heap.size w w' := by rw [← h]; exact scopes.spec_decls a L cap w hL
set_option maxRecDepth 100000 in
set_option maxHeartbeats 8000000 in
theorem one_el (p l u x : ByteArray) (ds : List Pair) (ats : List Att) (ks : List Tree) (h : Hdr) (B : Nat) (w : World) (hn : NodeIn w B (.mk 1 p l u x ds ats ks) h) : OneOk (.mk 1 p l u x ds ats ks) h w (elOneB (.mk 1 p l u x ds ats ks)) := by
  obtain ⟨da, dc, aa, ac, ka, kc⟩ := h
  have HD : Hid (PairsAt w da ds) := hn.decls
  have HA : Hid (AttsAt w aa ats) := hn.atts
  obtain ⟨-, z1, z2, z3, z4, -⟩ := hn.fit
  simp only [Tree.pre, Tree.loc, Tree.uri, Tree.text] at z1 z2 z3 z4
  have hka : ats.length ≤ 9223372036854775807 := hn.atts.short
  have HF : Hid (elOneB (.mk 1 p l u x ds ats ks) = (l5PreB p && (names.plainB l && (x.toList.isEmpty && (!(!p.toList.isEmpty && u.toList.isEmpty) && (textB u && (decide ((u.size : Int) ≤ 40) && (declsB ds && (decide ((ats.length : Int) ≤ 5) && attsB ats))))))))) := rfl
  unfold OneOk
  simp only [vals, Tree.kind, Tree.pre, Tree.loc, Tree.uri, Tree.text, Tree.ds, Tree.ats, Tree.kids]
  obtain ⟨pb, hpb⟩ : ∃ q, l5PreB p = q := ⟨_, rfl⟩
  have HPR : Hid (∀ w, _) := pre_flat p pb z1 hpb
  obtain ⟨lb, hlb⟩ : ∃ q, names.plainB l = q := ⟨_, rfl⟩
  have HPL : Hid (∀ w, _) := plain_flat l lb z2 hlb
  obtain ⟨ub, hub⟩ : ∃ q, textB u = q := ⟨_, rfl⟩
  have HTU : Hid (∀ w, _) := text_flat u ub z3 hub
  obtain ⟨db, hdb⟩ : ∃ q, declsB ds = q := ⟨_, rfl⟩
  have HDS : Hid (∀ w, _) := decls_flat da ds dc db hdb
  rw [hpb, hlb, hub, hdb] at HF
  generalize elOneB (.mk 1 p l u x ds ats ks) = res at HF ⊢
  have hzu : u.size ≤ 9223372036854775807 := z3
  clear hpb hlb hub hdb hn z1 z2 z3 z4
  go_enter Tryz.func54, Tryz.ntmps54
  go_wp2_with fail
  refine (HPR.out _).mono ?_
  rintro e w1 ⟨rfl, hb1⟩
  have HB : Hid _ := box_under hb1
  have HX : Hid _ := box_kept hb1
  obtain ⟨b0, b1, b2, b3, b4, b5, b6, b7⟩ := box8 HX.out
  clear hb1
  cases pb
  · go_wp2
    go_ret
    exact ⟨ret_bool HF.out.symm, HB.out⟩
  · go_wp2_with fail
    refine (HPL.out _).mono ?_
    rintro e wb ⟨rfl, hb⟩
    have HBn : Hid _ := HB.out.trans (hb.mono HB.out.size)
    have HXn : Hid _ := (hb.block _ (pairs.lt_heap HX.out)).trans HX.out
    clear HB HX hb b0 b1 b2 b3 b4 b5 b6 b7
    have HB : Hid _ := HBn
    have HX : Hid _ := HXn
    clear HBn HXn
    obtain ⟨b0, b1, b2, b3, b4, b5, b6, b7⟩ := box8 HX.out
    cases lb
    · go_wp2
      go_ret
      exact ⟨ret_bool HF.out.symm, HB.out⟩
    · cases h2 : x.toList.isEmpty
      · rw [h2] at HF
        go_wp2
        go_ret
        exact ⟨ret_bool HF.out.symm, HB.out⟩
      · rw [h2] at HF
        cases h3 : p.toList.isEmpty
        · cases h4 : u.toList.isEmpty
          · rw [h3, h4] at HF
            go_wp2_with fail
            refine (HTU.out _).mono ?_
            rintro e wq ⟨rfl, hw1⟩
            have hw2 := hw1.symm
            clear hw1
            subst hw2
            cases ub
            · go_wp2
              go_ret
              exact ⟨ret_bool HF.out.symm, HB.out⟩
            · cases h5 : decide ((u.size : Int) ≤ 40)
              · rw [h5] at HF
                have h5' := of_decide_eq_false h5
                go_wp2
                go_ret
                exact ⟨ret_bool HF.out.symm, HB.out⟩
              · rw [h5] at HF
                have h5' := of_decide_eq_true h5
                go_wp2_with fail
                refine (HDS.out _ (HD.out.below (Nat.le_refl _) HB.out)).mono ?_
                rintro e wb ⟨rfl, hb⟩
                have HBn : Hid _ := HB.out.trans (hb.mono HB.out.size)
                have HXn : Hid _ := (hb.block _ (pairs.lt_heap HX.out)).trans HX.out
                clear HB HX hb b0 b1 b2 b3 b4 b5 b6 b7
                have HB : Hid _ := HBn
                have HX : Hid _ := HXn
                clear HBn HXn
                obtain ⟨b0, b1, b2, b3, b4, b5, b6, b7⟩ := box8 HX.out
                cases db
                · go_wp2
                  go_ret
                  exact ⟨ret_bool HF.out.symm, HB.out⟩
                · cases h6 : decide ((ats.length : Int) ≤ 5)
                  · rw [h6] at HF
                    have h6' := of_decide_eq_false h6
                    go_wp2
                    go_ret
                    exact ⟨ret_bool HF.out.symm, HB.out⟩
                  · rw [h6] at HF
                    have h6' := of_decide_eq_true h6
                    go_wp2_with fail
                    go_loopw [3] (fun t wr => ∃ i : Nat, i ≤ ats.length ∧ t = .int .i64 i ∧ Hid (∀ j, j < i → (attB (att0 ats j) && ordB ats j) = true) ∧ Hid (Below w.heap.size w wr) ∧ Hid (wr.heap[w.heap.size]? = some (.cells #[.int .i64 1, .string p, .string l, .string u, .slice da ds.length dc, .slice aa ats.length ac, .slice ka ks.length kc, .string x] 38 (0, 0)))) (fun t _ => ats.length - (intOf t).toNat)
                    case atStart => exact ⟨0, Nat.zero_le _, rfl, (fun j hj => by omega), HB, HX⟩
                    case round =>
                      clear HB HX b0 b1 b2 b3 b4 b5 b6 b7
                      obtain ⟨i, hi, rfl, hup, hbw, hxw⟩ := hrel
                      obtain ⟨b0, b1, b2, b3, b4, b5, b6, b7⟩ := box8 hxw.out
                      by_cases hlt : i < ats.length
                      · obtain ⟨b, off, ha, hblt, hc⟩ := (HA.out.below (Nat.le_refl _) hbw.out).row (by omega)
                        have hx : ∀ W, Below wr.heap.size wr W → W.cell? ⟨w.heap.size, 5, none⟩ = some (.slice aa ats.length ac) := fun W h => (box8 ((h.block _ (pairs.lt_heap hxw.out)).trans hxw.out)).2.2.2.2.2.1
                        have hl : ∀ W, Below wr.heap.size wr W → W.cell? ⟨b, off + i * 4, none⟩ = some (.string (att0 ats i).pre) ∧ W.cell? ⟨b, off + i * 4 + 1, none⟩ = some (.string (att0 ats i).loc) ∧ W.cell? ⟨b, off + i * 4 + 2, none⟩ = some (.string (att0 ats i).uri) ∧ W.cell? ⟨b, off + i * 4 + 3, none⟩ = some (.string (att0 ats i).val) := fun W h => by
                          rw [h.cell (p := ⟨b, off + i * 4, none⟩) hblt, h.cell (p := ⟨b, off + i * 4 + 1, none⟩) hblt, h.cell (p := ⟨b, off + i * 4 + 2, none⟩) hblt, h.cell (p := ⟨b, off + i * 4 + 3, none⟩) hblt]
                          exact hc i hlt
                        have hE := fun w => spec_l5attr (att0 ats i) w (HA.out.texts i hlt)
                        have hilt : (i : Int) < ats.length := by omega
                        have hno : (attB (att0 ats i) && ordB ats i) = false → attsB ats = false := fun h => all_no (f := fun i => attB (att0 ats i) && ordB ats i) hlt h
                        have hmo := fun h => upto_more (f := fun i => attB (att0 ats i) && ordB ats i) hup.out h
                        have HNO : Hid (∀ h, _) := hno
                        have HMO : Hid (∀ h, _) := hmo
                        subst ha
                        clear hno hmo
                        by_cases hz : 0 < i
                        · obtain ⟨j, rfl⟩ : ∃ j, i = j + 1 := ⟨i - 1, by omega⟩
                          have hp : ∀ W, Below wr.heap.size wr W → W.cell? ⟨b, off + j * 4, none⟩ = some (.string (att0 ats j).pre) ∧ W.cell? ⟨b, off + j * 4 + 1, none⟩ = some (.string (att0 ats j).loc) ∧ W.cell? ⟨b, off + j * 4 + 2, none⟩ = some (.string (att0 ats j).uri) ∧ W.cell? ⟨b, off + j * 4 + 3, none⟩ = some (.string (att0 ats j).val) := fun W h => by
                            rw [h.cell (p := ⟨b, off + j * 4, none⟩) hblt, h.cell (p := ⟨b, off + j * 4 + 1, none⟩) hblt, h.cell (p := ⟨b, off + j * 4 + 2, none⟩) hblt, h.cell (p := ⟨b, off + j * 4 + 3, none⟩) hblt]
                            exact hc j (by omega)
                          have hG := fun w => spec_l5less (att0 ats j) (att0 ats (j + 1)) w
                          have hord : ordB ats (j + 1) = lessB (att0 ats j) (att0 ats (j + 1)) := by unfold ordB; rw [decide_eq_false (by omega), Bool.false_or]; rfl
                          have HOR : Hid _ := hord
                          have hsub : IntKind.i64.wrap (((j + 1 : Nat) : Int) - 1) = (j : Int) := by rw [IntKind.wrap_i64]; omega
                          have hjlt : (j : Int) < ats.length := by omega
                          have hj0 : (0 : Int) < ((j + 1 : Nat) : Int) := by omega
                          clear hc hord
                          cases hq1 : attB (att0 ats (j + 1))
                          · have HFF : Hid (attsB ats = false) := HNO.out (by rw [hq1]; rfl)
                            rw [hq1] at hE
                            generalize att0 ats (j + 1) = y at hl hE hG
                            generalize att0 ats j = y' at hp hG
                            go_wp2_with fail
                            refine quiets.wp_region_below (by kernel_rfl) (by kernel_rfl) ?_
                            repeat (go_big_quiet_step ((first | (intro hq; rfl) | (intro hq; simp [go_sem, hx _ hq]; rfl) | (intro hq; simp [go_sem, (hl _ hq).1, (hl _ hq).2.1, (hl _ hq).2.2.1, (hl _ hq).2.2.2]; rfl) | (intro hq; simp [go_sem, (hp _ hq).1, (hp _ hq).2.1, (hp _ hq).2.2.1, (hp _ hq).2.2.2]; rfl) | (intro hq; exact quiets.below_call (hE _) hq) | (intro hq; exact quiets.below_call (hG _) hq))))
                            refine wpQuiet_nil ?_
                            intro w6 hb6
                            have HB6 : Hid _ := hbw.out.trans (hb6.mono hbw.out.size)
                            have HX6 : Hid _ := (hb6.block _ (pairs.lt_heap hxw.out)).trans hxw.out
                            clear hb6 hl hx hE hp hG b0 b1 b2 b3 b4 b5 b6 b7
                            obtain ⟨b0, b1, b2, b3, b4, b5, b6, b7⟩ := box8 HX6.out
                            go_wp2
                            go_ret
                            exact ⟨ret_bool (HF.out.trans (by rw [HFF.out]; rfl)).symm, HB6.out⟩
                          · cases hq2 : lessB (att0 ats j) (att0 ats (j + 1))
                            · have HFF : Hid (attsB ats = false) := HNO.out (by rw [hq1, HOR.out, hq2]; rfl)
                              rw [hq1] at hE
                              rw [hq2] at hG
                              generalize att0 ats (j + 1) = y at hl hE hG
                              generalize att0 ats j = y' at hp hG
                              go_wp2_with fail
                              refine quiets.wp_region_below (by kernel_rfl) (by kernel_rfl) ?_
                              repeat (go_big_quiet_step ((first | (intro hq; rfl) | (intro hq; simp [go_sem, hx _ hq]; rfl) | (intro hq; simp [go_sem, (hl _ hq).1, (hl _ hq).2.1, (hl _ hq).2.2.1, (hl _ hq).2.2.2]; rfl) | (intro hq; simp [go_sem, (hp _ hq).1, (hp _ hq).2.1, (hp _ hq).2.2.1, (hp _ hq).2.2.2]; rfl) | (intro hq; exact quiets.below_call (hE _) hq) | (intro hq; exact quiets.below_call (hG _) hq))))
                              refine wpQuiet_nil ?_
                              intro w6 hb6
                              have HB6 : Hid _ := hbw.out.trans (hb6.mono hbw.out.size)
                              have HX6 : Hid _ := (hb6.block _ (pairs.lt_heap hxw.out)).trans hxw.out
                              clear hb6 hl hx hE hp hG b0 b1 b2 b3 b4 b5 b6 b7
                              obtain ⟨b0, b1, b2, b3, b4, b5, b6, b7⟩ := box8 HX6.out
                              go_wp2
                              go_ret
                              exact ⟨ret_bool (HF.out.trans (by rw [HFF.out]; rfl)).symm, HB6.out⟩
                            · have HUP : Hid _ := HMO.out (by rw [hq1, HOR.out, hq2]; rfl)
                              rw [hq1] at hE
                              rw [hq2] at hG
                              generalize att0 ats (j + 1) = y at hl hE hG
                              generalize att0 ats j = y' at hp hG
                              go_wp2_with fail
                              refine quiets.wp_region_below (by kernel_rfl) (by kernel_rfl) ?_
                              repeat (go_big_quiet_step ((first | (intro hq; rfl) | (intro hq; simp [go_sem, hx _ hq]; rfl) | (intro hq; simp [go_sem, (hl _ hq).1, (hl _ hq).2.1, (hl _ hq).2.2.1, (hl _ hq).2.2.2]; rfl) | (intro hq; simp [go_sem, (hp _ hq).1, (hp _ hq).2.1, (hp _ hq).2.2.1, (hp _ hq).2.2.2]; rfl) | (intro hq; exact quiets.below_call (hE _) hq) | (intro hq; exact quiets.below_call (hG _) hq))))
                              refine wpQuiet_nil ?_
                              intro w6 hb6
                              have HB6 : Hid _ := hbw.out.trans (hb6.mono hbw.out.size)
                              have HX6 : Hid _ := (hb6.block _ (pairs.lt_heap hxw.out)).trans hxw.out
                              clear hb6 hl hx hE hp hG b0 b1 b2 b3 b4 b5 b6 b7
                              obtain ⟨b0, b1, b2, b3, b4, b5, b6, b7⟩ := box8 HX6.out
                              go_wp2
                              go_roundw
                              case rel => exact ⟨j + 1 + 1, by omega, by go_num, HUP.out, HB6, HX6⟩
                              case measure => simp [intOf]; omega
                        · obtain rfl : i = 0 := by omega
                          simp only [Nat.zero_mul, Nat.add_zero] at hl
                          have hz0 : ((0 : Nat) : Int) = 0 := rfl
                          clear hc
                          cases hq1 : attB (att0 ats 0)
                          · have HFF : Hid (attsB ats = false) := HNO.out (by rw [hq1]; rfl)
                            rw [hq1] at hE
                            generalize att0 ats 0 = y at hl hE
                            go_wp2_with fail
                            refine quiets.wp_region_below (by kernel_rfl) (by kernel_rfl) ?_
                            repeat (go_big_quiet_step ((first | (intro hq; rfl) | (intro hq; simp [go_sem, hx _ hq]; rfl) | (intro hq; simp [go_sem, (hl _ hq).1, (hl _ hq).2.1, (hl _ hq).2.2.1, (hl _ hq).2.2.2]; rfl) | (intro hq; exact quiets.below_call (hE _) hq))))
                            refine wpQuiet_nil ?_
                            intro w6 hb6
                            have HB6 : Hid _ := hbw.out.trans (hb6.mono hbw.out.size)
                            have HX6 : Hid _ := (hb6.block _ (pairs.lt_heap hxw.out)).trans hxw.out
                            clear hb6 hl hx hE b0 b1 b2 b3 b4 b5 b6 b7
                            obtain ⟨b0, b1, b2, b3, b4, b5, b6, b7⟩ := box8 HX6.out
                            go_wp2
                            go_ret
                            exact ⟨ret_bool (HF.out.trans (by rw [HFF.out]; rfl)).symm, HB6.out⟩
                          · have HUP : Hid _ := HMO.out (by rw [hq1]; rfl)
                            rw [hq1] at hE
                            generalize att0 ats 0 = y at hl hE
                            go_wp2_with fail
                            refine quiets.wp_region_below (by kernel_rfl) (by kernel_rfl) ?_
                            repeat (go_big_quiet_step ((first | (intro hq; rfl) | (intro hq; simp [go_sem, hx _ hq]; rfl) | (intro hq; simp [go_sem, (hl _ hq).1, (hl _ hq).2.1, (hl _ hq).2.2.1, (hl _ hq).2.2.2]; rfl) | (intro hq; exact quiets.below_call (hE _) hq))))
                            refine wpQuiet_nil ?_
                            intro w6 hb6
                            have HB6 : Hid _ := hbw.out.trans (hb6.mono hbw.out.size)
                            have HX6 : Hid _ := (hb6.block _ (pairs.lt_heap hxw.out)).trans hxw.out
                            clear hb6 hl hx hE b0 b1 b2 b3 b4 b5 b6 b7
                            obtain ⟨b0, b1, b2, b3, b4, b5, b6, b7⟩ := box8 HX6.out
                            go_wp2
                            go_roundw
                            case rel => exact ⟨0 + 1, by omega, by go_num, HUP.out, HB6, HX6⟩
                            case measure => simp [intOf]; omega
                      · have HFF : Hid (attsB ats = true) := all_yes fun j hj => hup.out j (by omega)
                        go_wp2
                        go_ret
                        exact ⟨ret_bool (HF.out.trans (by rw [HFF.out]; rfl)).symm, hbw.out⟩
          · rw [h3, h4] at HF
            go_wp2
            go_ret
            exact ⟨ret_bool HF.out.symm, HB.out⟩
        · rw [h3] at HF
          go_wp2_with fail
          refine (HTU.out _).mono ?_
          rintro e wq ⟨rfl, hw1⟩
          have hw2 := hw1.symm
          clear hw1
          subst hw2
          cases ub
          · go_wp2
            go_ret
            exact ⟨ret_bool HF.out.symm, HB.out⟩
          · cases h5 : decide ((u.size : Int) ≤ 40)
            · rw [h5] at HF
              have h5' := of_decide_eq_false h5
              go_wp2
              go_ret
              exact ⟨ret_bool HF.out.symm, HB.out⟩
            · rw [h5] at HF
              have h5' := of_decide_eq_true h5
              go_wp2_with fail
              refine (HDS.out _ (HD.out.below (Nat.le_refl _) HB.out)).mono ?_
              rintro e wb ⟨rfl, hb⟩
              have HBn : Hid _ := HB.out.trans (hb.mono HB.out.size)
              have HXn : Hid _ := (hb.block _ (pairs.lt_heap HX.out)).trans HX.out
              clear HB HX hb b0 b1 b2 b3 b4 b5 b6 b7
              have HB : Hid _ := HBn
              have HX : Hid _ := HXn
              clear HBn HXn
              obtain ⟨b0, b1, b2, b3, b4, b5, b6, b7⟩ := box8 HX.out
              cases db
              · go_wp2
                go_ret
                exact ⟨ret_bool HF.out.symm, HB.out⟩
              · cases h6 : decide ((ats.length : Int) ≤ 5)
                · rw [h6] at HF
                  have h6' := of_decide_eq_false h6
                  go_wp2
                  go_ret
                  exact ⟨ret_bool HF.out.symm, HB.out⟩
                · rw [h6] at HF
                  have h6' := of_decide_eq_true h6
                  go_wp2_with fail
                  go_loopw [3] (fun t wr => ∃ i : Nat, i ≤ ats.length ∧ t = .int .i64 i ∧ Hid (∀ j, j < i → (attB (att0 ats j) && ordB ats j) = true) ∧ Hid (Below w.heap.size w wr) ∧ Hid (wr.heap[w.heap.size]? = some (.cells #[.int .i64 1, .string p, .string l, .string u, .slice da ds.length dc, .slice aa ats.length ac, .slice ka ks.length kc, .string x] 38 (0, 0)))) (fun t _ => ats.length - (intOf t).toNat)
                  case atStart => exact ⟨0, Nat.zero_le _, rfl, (fun j hj => by omega), HB, HX⟩
                  case round =>
                    clear HB HX b0 b1 b2 b3 b4 b5 b6 b7
                    obtain ⟨i, hi, rfl, hup, hbw, hxw⟩ := hrel
                    obtain ⟨b0, b1, b2, b3, b4, b5, b6, b7⟩ := box8 hxw.out
                    by_cases hlt : i < ats.length
                    · obtain ⟨b, off, ha, hblt, hc⟩ := (HA.out.below (Nat.le_refl _) hbw.out).row (by omega)
                      have hx : ∀ W, Below wr.heap.size wr W → W.cell? ⟨w.heap.size, 5, none⟩ = some (.slice aa ats.length ac) := fun W h => (box8 ((h.block _ (pairs.lt_heap hxw.out)).trans hxw.out)).2.2.2.2.2.1
                      have hl : ∀ W, Below wr.heap.size wr W → W.cell? ⟨b, off + i * 4, none⟩ = some (.string (att0 ats i).pre) ∧ W.cell? ⟨b, off + i * 4 + 1, none⟩ = some (.string (att0 ats i).loc) ∧ W.cell? ⟨b, off + i * 4 + 2, none⟩ = some (.string (att0 ats i).uri) ∧ W.cell? ⟨b, off + i * 4 + 3, none⟩ = some (.string (att0 ats i).val) := fun W h => by
                        rw [h.cell (p := ⟨b, off + i * 4, none⟩) hblt, h.cell (p := ⟨b, off + i * 4 + 1, none⟩) hblt, h.cell (p := ⟨b, off + i * 4 + 2, none⟩) hblt, h.cell (p := ⟨b, off + i * 4 + 3, none⟩) hblt]
                        exact hc i hlt
                      have hE := fun w => spec_l5attr (att0 ats i) w (HA.out.texts i hlt)
                      have hilt : (i : Int) < ats.length := by omega
                      have hno : (attB (att0 ats i) && ordB ats i) = false → attsB ats = false := fun h => all_no (f := fun i => attB (att0 ats i) && ordB ats i) hlt h
                      have hmo := fun h => upto_more (f := fun i => attB (att0 ats i) && ordB ats i) hup.out h
                      have HNO : Hid (∀ h, _) := hno
                      have HMO : Hid (∀ h, _) := hmo
                      subst ha
                      clear hno hmo
                      by_cases hz : 0 < i
                      · obtain ⟨j, rfl⟩ : ∃ j, i = j + 1 := ⟨i - 1, by omega⟩
                        have hp : ∀ W, Below wr.heap.size wr W → W.cell? ⟨b, off + j * 4, none⟩ = some (.string (att0 ats j).pre) ∧ W.cell? ⟨b, off + j * 4 + 1, none⟩ = some (.string (att0 ats j).loc) ∧ W.cell? ⟨b, off + j * 4 + 2, none⟩ = some (.string (att0 ats j).uri) ∧ W.cell? ⟨b, off + j * 4 + 3, none⟩ = some (.string (att0 ats j).val) := fun W h => by
                          rw [h.cell (p := ⟨b, off + j * 4, none⟩) hblt, h.cell (p := ⟨b, off + j * 4 + 1, none⟩) hblt, h.cell (p := ⟨b, off + j * 4 + 2, none⟩) hblt, h.cell (p := ⟨b, off + j * 4 + 3, none⟩) hblt]
                          exact hc j (by omega)
                        have hG := fun w => spec_l5less (att0 ats j) (att0 ats (j + 1)) w
                        have hord : ordB ats (j + 1) = lessB (att0 ats j) (att0 ats (j + 1)) := by unfold ordB; rw [decide_eq_false (by omega), Bool.false_or]; rfl
                        have HOR : Hid _ := hord
                        have hsub : IntKind.i64.wrap (((j + 1 : Nat) : Int) - 1) = (j : Int) := by rw [IntKind.wrap_i64]; omega
                        have hjlt : (j : Int) < ats.length := by omega
                        have hj0 : (0 : Int) < ((j + 1 : Nat) : Int) := by omega
                        clear hc hord
                        cases hq1 : attB (att0 ats (j + 1))
                        · have HFF : Hid (attsB ats = false) := HNO.out (by rw [hq1]; rfl)
                          rw [hq1] at hE
                          generalize att0 ats (j + 1) = y at hl hE hG
                          generalize att0 ats j = y' at hp hG
                          go_wp2_with fail
                          refine quiets.wp_region_below (by kernel_rfl) (by kernel_rfl) ?_
                          repeat (go_big_quiet_step ((first | (intro hq; rfl) | (intro hq; simp [go_sem, hx _ hq]; rfl) | (intro hq; simp [go_sem, (hl _ hq).1, (hl _ hq).2.1, (hl _ hq).2.2.1, (hl _ hq).2.2.2]; rfl) | (intro hq; simp [go_sem, (hp _ hq).1, (hp _ hq).2.1, (hp _ hq).2.2.1, (hp _ hq).2.2.2]; rfl) | (intro hq; exact quiets.below_call (hE _) hq) | (intro hq; exact quiets.below_call (hG _) hq))))
                          refine wpQuiet_nil ?_
                          intro w6 hb6
                          have HB6 : Hid _ := hbw.out.trans (hb6.mono hbw.out.size)
                          have HX6 : Hid _ := (hb6.block _ (pairs.lt_heap hxw.out)).trans hxw.out
                          clear hb6 hl hx hE hp hG b0 b1 b2 b3 b4 b5 b6 b7
                          obtain ⟨b0, b1, b2, b3, b4, b5, b6, b7⟩ := box8 HX6.out
                          go_wp2
                          go_ret
                          exact ⟨ret_bool (HF.out.trans (by rw [HFF.out]; rfl)).symm, HB6.out⟩
                        · cases hq2 : lessB (att0 ats j) (att0 ats (j + 1))
                          · have HFF : Hid (attsB ats = false) := HNO.out (by rw [hq1, HOR.out, hq2]; rfl)
                            rw [hq1] at hE
                            rw [hq2] at hG
                            generalize att0 ats (j + 1) = y at hl hE hG
                            generalize att0 ats j = y' at hp hG
                            go_wp2_with fail
                            refine quiets.wp_region_below (by kernel_rfl) (by kernel_rfl) ?_
                            repeat (go_big_quiet_step ((first | (intro hq; rfl) | (intro hq; simp [go_sem, hx _ hq]; rfl) | (intro hq; simp [go_sem, (hl _ hq).1, (hl _ hq).2.1, (hl _ hq).2.2.1, (hl _ hq).2.2.2]; rfl) | (intro hq; simp [go_sem, (hp _ hq).1, (hp _ hq).2.1, (hp _ hq).2.2.1, (hp _ hq).2.2.2]; rfl) | (intro hq; exact quiets.below_call (hE _) hq) | (intro hq; exact quiets.below_call (hG _) hq))))
                            refine wpQuiet_nil ?_
                            intro w6 hb6
                            have HB6 : Hid _ := hbw.out.trans (hb6.mono hbw.out.size)
                            have HX6 : Hid _ := (hb6.block _ (pairs.lt_heap hxw.out)).trans hxw.out
                            clear hb6 hl hx hE hp hG b0 b1 b2 b3 b4 b5 b6 b7
                            obtain ⟨b0, b1, b2, b3, b4, b5, b6, b7⟩ := box8 HX6.out
                            go_wp2
                            go_ret
                            exact ⟨ret_bool (HF.out.trans (by rw [HFF.out]; rfl)).symm, HB6.out⟩
                          · have HUP : Hid _ := HMO.out (by rw [hq1, HOR.out, hq2]; rfl)
                            rw [hq1] at hE
                            rw [hq2] at hG
                            generalize att0 ats (j + 1) = y at hl hE hG
                            generalize att0 ats j = y' at hp hG
                            go_wp2_with fail
                            refine quiets.wp_region_below (by kernel_rfl) (by kernel_rfl) ?_
                            repeat (go_big_quiet_step ((first | (intro hq; rfl) | (intro hq; simp [go_sem, hx _ hq]; rfl) | (intro hq; simp [go_sem, (hl _ hq).1, (hl _ hq).2.1, (hl _ hq).2.2.1, (hl _ hq).2.2.2]; rfl) | (intro hq; simp [go_sem, (hp _ hq).1, (hp _ hq).2.1, (hp _ hq).2.2.1, (hp _ hq).2.2.2]; rfl) | (intro hq; exact quiets.below_call (hE _) hq) | (intro hq; exact quiets.below_call (hG _) hq))))
                            refine wpQuiet_nil ?_
                            intro w6 hb6
                            have HB6 : Hid _ := hbw.out.trans (hb6.mono hbw.out.size)
                            have HX6 : Hid _ := (hb6.block _ (pairs.lt_heap hxw.out)).trans hxw.out
                            clear hb6 hl hx hE hp hG b0 b1 b2 b3 b4 b5 b6 b7
                            obtain ⟨b0, b1, b2, b3, b4, b5, b6, b7⟩ := box8 HX6.out
                            go_wp2
                            go_roundw
                            case rel => exact ⟨j + 1 + 1, by omega, by go_num, HUP.out, HB6, HX6⟩
                            case measure => simp [intOf]; omega
                      · obtain rfl : i = 0 := by omega
                        simp only [Nat.zero_mul, Nat.add_zero] at hl
                        have hz0 : ((0 : Nat) : Int) = 0 := rfl
                        clear hc
                        cases hq1 : attB (att0 ats 0)
                        · have HFF : Hid (attsB ats = false) := HNO.out (by rw [hq1]; rfl)
                          rw [hq1] at hE
                          generalize att0 ats 0 = y at hl hE
                          go_wp2_with fail
                          refine quiets.wp_region_below (by kernel_rfl) (by kernel_rfl) ?_
                          repeat (go_big_quiet_step ((first | (intro hq; rfl) | (intro hq; simp [go_sem, hx _ hq]; rfl) | (intro hq; simp [go_sem, (hl _ hq).1, (hl _ hq).2.1, (hl _ hq).2.2.1, (hl _ hq).2.2.2]; rfl) | (intro hq; exact quiets.below_call (hE _) hq))))
                          refine wpQuiet_nil ?_
                          intro w6 hb6
                          have HB6 : Hid _ := hbw.out.trans (hb6.mono hbw.out.size)
                          have HX6 : Hid _ := (hb6.block _ (pairs.lt_heap hxw.out)).trans hxw.out
                          clear hb6 hl hx hE b0 b1 b2 b3 b4 b5 b6 b7
                          obtain ⟨b0, b1, b2, b3, b4, b5, b6, b7⟩ := box8 HX6.out
                          go_wp2
                          go_ret
                          exact ⟨ret_bool (HF.out.trans (by rw [HFF.out]; rfl)).symm, HB6.out⟩
                        · have HUP : Hid _ := HMO.out (by rw [hq1]; rfl)
                          rw [hq1] at hE
                          generalize att0 ats 0 = y at hl hE
                          go_wp2_with fail
                          refine quiets.wp_region_below (by kernel_rfl) (by kernel_rfl) ?_
                          repeat (go_big_quiet_step ((first | (intro hq; rfl) | (intro hq; simp [go_sem, hx _ hq]; rfl) | (intro hq; simp [go_sem, (hl _ hq).1, (hl _ hq).2.1, (hl _ hq).2.2.1, (hl _ hq).2.2.2]; rfl) | (intro hq; exact quiets.below_call (hE _) hq))))
                          refine wpQuiet_nil ?_
                          intro w6 hb6
                          have HB6 : Hid _ := hbw.out.trans (hb6.mono hbw.out.size)
                          have HX6 : Hid _ := (hb6.block _ (pairs.lt_heap hxw.out)).trans hxw.out
                          clear hb6 hl hx hE b0 b1 b2 b3 b4 b5 b6 b7
                          obtain ⟨b0, b1, b2, b3, b4, b5, b6, b7⟩ := box8 HX6.out
                          go_wp2
                          go_roundw
                          case rel => exact ⟨0 + 1, by omega, by go_num, HUP.out, HB6, HX6⟩
                          case measure => simp [intOf]; omega
                    · have HFF : Hid (attsB ats = true) := all_yes fun j hj => hup.out j (by omega)
                      go_wp2
                      go_ret
                      exact ⟨ret_bool (HF.out.trans (by rw [HFF.out]; rfl)).symm, hbw.out⟩
end Go.Proofs.YtmiiilamjbhheaaGreatDoor.trees
