/-
  What the specification's IdsOf answers.
-/
import Derived.Test.YtdpbiaomhndpcaaDoorImplIds
namespace Go.Proofs.YtdpbiaomhndpcaaDoor.ids
open Go.ChangeShapes Go.WideShapes Go.ChangeAt Go.RowKit
open trees (Tree Att Hdr vals tsize ksize nsz nszs kid att0 NodeIn NodesAt AttsAt OwnA RowA Rng Out)
open heads (Df dfR Hv Ha hcells HeadIn DfsAt box3)
set_option linter.unusedVariables false
set_option maxRecDepth 100000 in
set_option maxHeartbeats 8000000 in
theorem spec_ids_of (n B : Nat) (v : Hv) (p : Ha) (ih : ∀ t h w, tsize t < n → nsz t ≤ 1048576 → HeadIn w v p → NodeIn w B t h → IdsOk 22 t h v p w) (t : Tree) (h : Hdr) (w : World) (ht : tsize t ≤ n) (hz : nsz t ≤ 1048576) (hh : HeadIn w v p) (hn : NodeIn w B t h) : IdsOk 22 t h v p w := by
  have HIH : Hid _ := ih
  have HH : Hid (HeadIn w v p) := hh
  have HA : Hid (AttsAt w h.aa t.ats) := hn.atts
  have HN : Hid (NodesAt w B h.ka t.kids) := trees.kids_at hn
  have HZ : Hid (nsz t ≤ 1048576) := hz
  have HZK : Hid (nszs t.kids ≤ nsz t ∧ t.ats.length ≤ nsz t ∧ t.pre.size ≤ nsz t ∧ t.loc.size ≤ nsz t) := nsz_kids t
  have HZA : Hid (∀ i, i < t.ats.length → (att0 t.ats i).size ≤ nsz t) := fun i hi => nsz_att hi
  have HZT : Hid (ksize t.kids < n) := by cases t; rw [tsize] at ht; show _ < _; simp only [Tree.kids]; omega
  have HIS : Hid (idsT v.defs t = pick v.defs t.kind t.pre t.loc t.ats ++ idsTs v.defs t.kids) := by cases t; exact idsT.eq_1 ..
  have HLN : Hid ((idsT v.defs t).length ≤ nsz t) := ids_len v.defs t
  have HZN : Hid (t.pre.size ≤ 1048576 ∧ t.loc.size ≤ 1048576) := by have := HZK.out; have := HZ.out; exact ⟨by omega, by omega⟩
  clear ih hh hn hz ht
  unfold IdsOk
  obtain ⟨I, hI⟩ : ∃ I, idsT v.defs t = I := ⟨_, rfl⟩
  rw [hI] at HIS HLN ⊢
  clear hI
  obtain ⟨kd, pr, lo, ur, tx, ds, ats, ks⟩ := t
  obtain ⟨da, dc, aa, ac, ka, kc⟩ := h
  obtain ⟨nm, E, D⟩ := v
  obtain ⟨ea, ec, fa, fc⟩ := p
  unfold vals hcells at *
  simp only [Tree.kind, Tree.pre, Tree.loc, Tree.uri, Tree.text, Tree.ds, Tree.ats, Tree.kids] at *
  have hal : ats.length ≤ 1048576 := by have := HZK.out; have := HZ.out; omega
  have hkl : ks.length ≤ 1048576 := by have := HZK.out; have := HZ.out; have := trees.nszs_eq ks; omega
  have HB2 : Hid (Below w.heap.size w ((w.alloc (.cells #[.int .i64 kd, .string pr, .string lo, .string ur, .slice da ds.length dc, .slice aa ats.length ac, .slice ka ks.length kc, .string tx] 38)).alloc (.cells #[.string nm, .slice ea E.length ec, .slice fa D.length fc] 43))) := ((Below.refl _ _).alloc (Nat.le_refl _) _).alloc (by simp) _
  have HX1 : Hid (((w.alloc (.cells #[.int .i64 kd, .string pr, .string lo, .string ur, .slice da ds.length dc, .slice aa ats.length ac, .slice ka ks.length kc, .string tx] 38)).alloc (.cells #[.string nm, .slice ea E.length ec, .slice fa D.length fc] 43)).heap[w.heap.size]? = _) := (Below.heap_alloc _ _ _ (by simp)).trans (heap_alloc_new w (.cells #[.int .i64 kd, .string pr, .string lo, .string ur, .slice da ds.length dc, .slice aa ats.length ac, .slice ka ks.length kc, .string tx] 38))
  have hx2 := heap_alloc_new (w.alloc (.cells #[.int .i64 kd, .string pr, .string lo, .string ur, .slice da ds.length dc, .slice aa ats.length ac, .slice ka ks.length kc, .string tx] 38)) (.cells #[.string nm, .slice ea E.length ec, .slice fa D.length fc] 43)
  rw [World.size_alloc] at hx2
  have HX2 : Hid _ := hx2
  clear hx2
  go_enter Tryd.func22, Tryd.ntmps22
  obtain ⟨W2, hW2⟩ : ∃ W2, ((w.alloc (.cells #[.int .i64 kd, .string pr, .string lo, .string ur, .slice da ds.length dc, .slice aa ats.length ac, .slice ka ks.length kc, .string tx] 38)).alloc (.cells #[.string nm, .slice ea E.length ec, .slice fa D.length fc] 43)) = W2 := ⟨_, rfl⟩
  rw [hW2] at HB2 HX1 HX2
  obtain ⟨a0, a1, a2, a3, a4, a5, a6, a7⟩ := box8 (heads.box_below HX1.out ((Below.refl W2.heap.size W2).alloc (Nat.le_refl _) (.cells #[] 63)))
  go_wp2_with fail
  clear hW2 a0 a1 a2 a3 a4 a5 a6 a7
  have HR0 : Hid (RowA (W2.alloc (.cells #[] 63)) W2.heap.size W2.heap.size 0 0 []) := trees.new_rowA W2 W2.heap.size rfl
  have HA0 : Hid (Below W2.heap.size W2 (W2.alloc (.cells #[] 63))) := (Below.refl _ _).alloc (Nat.le_refl _) _
  obtain ⟨W3, hW3⟩ : ∃ W3, W2.alloc (.cells #[] 63) = W3 := ⟨_, rfl⟩
  rw [hW3] at HR0 HA0 ⊢
  clear hW3
  have HP0 : Hid (pick D kd pr lo (ats.take 0) = []) := rfl
  go_loopw [5, 6] (fun q t wr => ∃ (k g m c : Nat) (L : List Att), k ≤ ats.length ∧ m ≤ k ∧ t = .int .i64 k ∧ q = .slice (some ⟨g, 0, none⟩) m c ∧ Hid (pick D kd pr lo (ats.take k) = L) ∧ Hid (RowA wr W2.heap.size g m c L) ∧ Hid (Below W2.heap.size W2 wr)) (fun _ t _ => ats.length - (intOf t).toNat)
  case atStart => exact ⟨0, _, 0, 0, [], Nat.zero_le _, Nat.le_refl _, rfl, rfl, HP0, HR0, HA0⟩
  case round =>
    obtain ⟨k, g, m, c, L, hk, hm, rfl, rfl, hP, hR, hbw⟩ := hrel
    have HBW : Hid (Below w.heap.size w wr) := HB2.out.trans (hbw.out.mono HB2.out.size)
    by_cases hlt : k < ats.length
    · obtain ⟨b, off, ha, hblt, hc⟩ := (HA.out.below (Nat.le_refl _) HBW.out).row (by omega)
      obtain ⟨hc0, hc1, hc2, hc3⟩ := hc k hlt
      obtain ⟨x, hx⟩ : ∃ x, att0 ats k = x := ⟨_, rfl⟩
      have HXZ : Hid (x.pre.size ≤ 1048576 ∧ x.loc.size ≤ 1048576) := by
        have := HZA.out k hlt
        rw [hx] at this
        have h2 := HZ.out
        unfold Att.size at this
        exact ⟨by omega, by omega⟩
      rw [hx] at hc0 hc1 hc2 hc3
      obtain ⟨r, hr⟩ : ∃ r, idB D pr lo x = r := ⟨_, rfl⟩
      have HST : Hid (pick D kd pr lo (ats.take (k + 1)) = L ++ (bif (kd == 1 && r) then [x] else [])) := by
        have := pick_step (D := D) (k := kd) (p := pr) (l := lo) (ats := ats) (i := k) (x := x) (b := kd == 1 && r) hlt hx (by rw [hr])
        show _ = _
        rw [this, hP.out]
      unfold idB at hr
      obtain ⟨j1, hj1⟩ : ∃ j, names.joinR pr lo = j := ⟨_, rfl⟩
      obtain ⟨j2, hj2⟩ : ∃ j, names.joinR x.pre x.loc = j := ⟨_, rfl⟩
      rw [hj1, hj2] at hr
      obtain ⟨d, ok, hd⟩ : ∃ d ok, dfR D j1 j2 = (d, ok) := ⟨_, _, rfl⟩
      rw [hd] at hr
      have H1 : Hid (∀ W, _) := fun W => join_spec pr lo j1 hj1 HZN.out.1 HZN.out.2 W
      have H2 : Hid (∀ W, _) := fun W => join_spec x.pre x.loc j2 hj2 HXZ.out.1 HXZ.out.2 W
      have H3 : Hid (∀ W, DfsAt W fa D → _) := fun W h => heads.spec_def fa D fc j1 j2 d ok hd W h
      have HDD : Hid (DfsAt w fa D) := HH.out.defs
      obtain ⟨a0, a1, a2, a3, a4, a5, a6, a7⟩ := box8 (heads.box_below HX1.out hbw.out)
      have HX3 : Hid ((wr.alloc (.cells #[.string x.pre, .string x.loc, .string x.uri, .string x.val] 63)).heap[wr.heap.size]? = _) := heap_alloc_new wr _
      have HA4 : Hid (Below wr.heap.size wr (wr.alloc (.cells #[.string x.pre, .string x.loc, .string x.uri, .string x.val] 63))) := (Below.refl _ _).alloc (Nat.le_refl _) _
      clear hc hx hj1 hj2 hd
      subst ha
      go_wp2_with fail
      obtain ⟨W4, hW4⟩ : ∃ W4, wr.alloc (.cells #[.string x.pre, .string x.loc, .string x.uri, .string x.val] 63) = W4 := ⟨_, rfl⟩
      rw [hW4] at HX3 HA4 ⊢
      have HR4 : Hid (RowA W4 W2.heap.size g m c L) := hR.out.below HA4.out
      have HB4 : Hid (Below W2.heap.size W2 W4) := hbw.out.trans (HA4.out.mono hbw.out.size)
      have HK4 : Hid (Below w.heap.size w W4) := HB2.out.trans (HB4.out.mono HB2.out.size)
      have hl : ∀ W, Below W4.heap.size W4 W → (W.cell? ⟨w.heap.size, 1, none⟩ = some (.string pr) ∧ W.cell? ⟨w.heap.size, 2, none⟩ = some (.string lo)) ∧ (W.cell? ⟨wr.heap.size, 0, none⟩ = some (.string x.pre) ∧ W.cell? ⟨wr.heap.size, 1, none⟩ = some (.string x.loc)) ∧ W.cell? ⟨w.heap.size + 1, 2, none⟩ = some (.slice fa D.length fc) := fun W h => by
        obtain ⟨-, e1, e2, -⟩ := box8 (heads.box_below (heads.box_below HX1.out HB4.out) h)
        obtain ⟨f1, f2, -⟩ := box4 (heads.box_below HX3.out h)
        obtain ⟨⟨-, -, g2⟩, -⟩ := box3 (heads.box_below (heads.box_below HX2.out HB4.out) h)
        exact ⟨⟨e1, e2⟩, ⟨f1, f2⟩, g2⟩
      clear hW4 a0 a1 a2 a3 a4 a5 a6 a7 hc0 hc1 hc2 hc3
      apply quiets.wp_region_calm_at 16 (hm := by kernel_rfl) (hB := by kernel_rfl) (hwalk := ?walk) (htail := ?tail)
      case walk =>
        intro C hC0 hC1
        simp only [List.take_succ_cons, List.take_zero]
        iterate 6 (go_big_quiet_step ((first | (intro hq; rfl) | (intro hq; simp [go_sem, (hl _ (hC0 _ hq)).1.1]; rfl) | (intro hq; simp [go_sem, (hl _ (hC0 _ hq)).1.2]; rfl) | (intro hq; simp [go_sem, (hl _ (hC0 _ hq)).2.1.1]; rfl) | (intro hq; simp [go_sem, (hl _ (hC0 _ hq)).2.1.2]; rfl) | (intro hq; simp [go_sem, (hl _ (hC0 _ hq)).2.2]; rfl))))
        go_big_quiet_step ((intro hq; exact quiets.calm_call hC1 hq (H1.out _)))
        iterate 4 (go_big_quiet_step ((first | (intro hq; rfl) | (intro hq; simp [go_sem, (hl _ (hC0 _ hq)).1.1]; rfl) | (intro hq; simp [go_sem, (hl _ (hC0 _ hq)).1.2]; rfl) | (intro hq; simp [go_sem, (hl _ (hC0 _ hq)).2.1.1]; rfl) | (intro hq; simp [go_sem, (hl _ (hC0 _ hq)).2.1.2]; rfl) | (intro hq; simp [go_sem, (hl _ (hC0 _ hq)).2.2]; rfl))))
        go_big_quiet_step ((intro hq; exact quiets.calm_call hC1 hq (H2.out _)))
        go_big_quiet_step ((intro hq; exact quiets.calm_call hC1 hq (H3.out _ (HDD.out.below (Nat.le_refl _) (HK4.out.trans ((hC0 _ hq).mono HK4.out.size))))))
        repeat (go_big_quiet_step ((first | (intro hq; rfl) | (intro hq; simp [go_sem, (hl _ (hC0 _ hq)).1.1]; rfl) | (intro hq; simp [go_sem, (hl _ (hC0 _ hq)).1.2]; rfl) | (intro hq; simp [go_sem, (hl _ (hC0 _ hq)).2.1.1]; rfl) | (intro hq; simp [go_sem, (hl _ (hC0 _ hq)).2.1.2]; rfl) | (intro hq; simp [go_sem, (hl _ (hC0 _ hq)).2.2]; rfl))))
        exact wpQuiet_nil rfl
      case tail =>
        clear hl
        intro w4 hb4
        simp only [List.drop_succ_cons, List.drop_zero]
        refine quiets.tail_cons fun w5 hb5 => ?_
        go_wp2_with fail
        have HD5 : Hid (Below W4.heap.size W4 w5) := hb4.trans (hb5.mono hb4.size)
        refine ⟨HD5.out.alloc HD5.out.size _, quiets.tail_cons fun w6 hb6 => ?_⟩
        have HX6 : Hid (w6.heap[w5.heap.size]? = _) := heads.box_kept hb6
        have HD6 : Hid (Below W4.heap.size W4 w6) := HD5.out.trans ((heads.box_under hb6).mono HD5.out.size)
        obtain ⟨⟨o0, o1, o2, o3, o4⟩, q0, q1, q2, q3, q4⟩ := heads.box5 HX6.out
        clear hb4 hb5 hb6
        go_wp2_with fail
        have HX7 : Hid (_ = some (Obj.cells #[.string d.el, .string d.at_, .bool d.id, .bool d.has, .string d.val] 86 (0, 0))) := blk5 HX6.out (.string d.el) (.string d.at_) (.bool d.id) (.bool d.has) (.string d.val)
        have HD7 : Hid (Below W4.heap.size W4 _) := below5 (b := w5.heap.size) HD6.out HD5.out.size (.string d.el) (.string d.at_) (.bool d.id) (.bool d.has) (.string d.val)
        refine ⟨HD7.out, quiets.tail_cons fun w8 hb8 => ?_⟩
        have HX8 : Hid _ := heads.box_below HX7.out hb8
        have HD8 : Hid (Below W4.heap.size W4 w8) := HD7.out.trans (hb8.mono HD7.out.size)
        clear o0 o1 o2 o3 o4 q0 q1 q2 q3 q4 hb8
        go_wp2_with fail
        refine ⟨HD8.out, quiets.tail_nil fun w9 hb9 => ?_⟩
        have HX9 : Hid _ := heads.box_below HX8.out hb9
        have HD9 : Hid (Below W4.heap.size W4 w9) := HD8.out.trans (hb9.mono HD8.out.size)
        have HR9 : Hid (RowA w9 W2.heap.size g m c L) := HR4.out.below HD9.out
        have HB9 : Hid (Below W2.heap.size W2 w9) := HB4.out.trans (HD9.out.mono HB4.out.size)
        have HX9a : Hid (w9.heap[wr.heap.size]? = _) := heads.box_below HX3.out HD9.out
        obtain ⟨⟨-, -, o2, -, -⟩, -⟩ := heads.box5 HX9.out
        obtain ⟨a0, a1, a2, a3, a4, a5, a6, a7⟩ := box8 (heads.box_below HX1.out HB9.out)
        obtain ⟨f0, f1, f2, f3⟩ := box4 HX9a.out
        clear hb9
        have stay : (kd == 1 && r) = false → Hid (pick D kd pr lo (ats.take (k + 1)) = L) := fun e => by
          have := HST.out
          rw [e] at this
          exact this.trans (List.append_nil L)
        have more : (kd == 1 && r) = true → Hid (pick D kd pr lo (ats.take (k + 1)) = L ++ [x]) := fun e => by
          have := HST.out
          rw [e] at this
          exact this
        have HSTAY : Hid _ := stay
        have HMORE : Hid _ := more
        clear stay more
        cases ok
        · have hrf : false = r := hr
          subst hrf
          have HS : Hid _ := HSTAY.out (by cases (kd == 1) <;> rfl)
          go_wp2
          go_roundw
          case rel => exact ⟨k + 1, g, m, c, L, by omega, by omega, by go_num, rfl, HS.out, HR9.out, HB9.out⟩
          case measure => simp [intOf]; omega
        · have hrf : d.id = r := hr
          rw [hrf] at o2
          cases r
          · have HS : Hid _ := HSTAY.out (by cases (kd == 1) <;> rfl)
            go_wp2
            go_roundw
            case rel => exact ⟨k + 1, g, m, c, L, by omega, by omega, by go_num, rfl, HS.out, HR9.out, HB9.out⟩
            case measure => simp [intOf]; omega
          · by_cases hk1 : kd = 1
            · subst hk1
              have HS : Hid _ := HMORE.out rfl
              have hB9 := HB9.out.size
              go_wp2_with (at_builtin; refine trees.add_att W2.heap.size g m c L x _ HR9.out hB9 (by omega) (by rfl) _ _ (by rfl) (by rfl) _ (by rfl) (by simp) ?_; rintro g' c' w6 hR6 hb6 hs6)
              have HR6 : Hid _ := hR6
              have HB6 : Hid (Below W2.heap.size W2 w6) := HB9.out.trans hb6
              clear hR6 hb6 hs6
              go_wp2
              go_roundw
              case rel => exact ⟨k + 1, g', m + 1, c', L ++ [x], by omega, by omega, by go_num, rfl, HS.out, HR6.out, HB6.out⟩
              case measure => simp [intOf]; omega
            · have HS : Hid _ := HSTAY.out (by rw [show (kd == 1) = false by simpa using hk1]; rfl)
              go_wp2
              go_roundw
              case rel => exact ⟨k + 1, g, m, c, L, by omega, by omega, by go_num, rfl, HS.out, HR9.out, HB9.out⟩
              case measure => simp [intOf]; omega
    · obtain rfl : k = ats.length := by omega
      have HPL : Hid (pick D kd pr lo ats = L) := by have := hP.out; rw [List.take_length] at this; exact this
      obtain ⟨a0, a1, a2, a3, a4, a5, a6, a7⟩ := box8 (heads.box_below HX1.out hbw.out)
      go_wp2_with fail
      clear a0 a1 a2 a3 a4 a5 a6 a7
      have HI0 : Hid (m = L.length) := hR.out.len.symm
      go_loopw [5, 10] (fun q t wx => ∃ (j g2 m2 c2 : Nat) (M : List Att), j ≤ ks.length ∧ m2 ≤ 1048576 ∧ t = .int .i64 j ∧ q = .slice (some ⟨g2, 0, none⟩) m2 c2 ∧ Hid (L ++ idsTs D (ks.take j) = M) ∧ Hid (RowA wx W2.heap.size g2 m2 c2 M) ∧ Hid (Below W2.heap.size W2 wx)) (fun _ t _ => ks.length - (intOf t).toNat)
      case atStart => exact ⟨0, g, m, c, L, Nat.zero_le _, by omega, rfl, rfl, by show _ = _; rw [List.take_zero, idsTs, List.append_nil], hR.out, hbw.out⟩
      case round =>
        obtain ⟨j, g2, m2, c2, M, hj, hm2, rfl, rfl, hM, hR2, hbx⟩ := hrel
        have HBX : Hid (Below w.heap.size w wr) := HB2.out.trans (hbx.out.mono HB2.out.size)
        obtain ⟨a0, a1, a2, a3, a4, a5, a6, a7⟩ := box8 (heads.box_below HX1.out hbx.out)
        by_cases hlt2 : j < ks.length
        · obtain ⟨b, off, ha, hblt, hc⟩ := HN.out.row (by omega)
          obtain ⟨hd, hnode, hc0, hc1, hc2, hc3, hc4, hc5, hc6, hc7⟩ := hc j hlt2
          have hks := trees.ksize_kid ks j hlt2
          have hkz := trees.nsz_kid ks j hlt2
          have hnode2 := fun W (hb : Below wr.heap.size wr W) => hnode.below (HBX.out.trans (hb.mono HBX.out.size))
          obtain ⟨y, hy⟩ : ∃ y, trees.kid ks j = y := ⟨_, rfl⟩
          have HTK : Hid (ks.take (j + 1) = ks.take j ++ [y]) := by show _ = _; rw [← hy]; exact trees.kid_take hlt2
          rw [hy] at hc0 hc1 hc2 hc3 hc4 hc5 hc6 hc7 hks hkz hnode2
          have HYZ : Hid (nsz y ≤ 1048576) := by have := HZK.out; have := HZ.out; show _ ≤ _; omega
          have HCALL : Hid (∀ W, Below W2.heap.size W2 W → Below wr.heap.size wr W → IdsOk 22 y hd ⟨nm, E, D⟩ ⟨ea, ec, fa, fc⟩ W) := fun W _ hb => HIH.out y hd _ (by have := HZT.out; omega) HYZ.out (HH.out.below (HBX.out.trans (hb.mono HBX.out.size))) (hnode2 W hb)
          have HHL : Hid (M.length + (idsT D y).length ≤ 1048576) := by
            have e1 := HLN.out
            have e2 := HIS.out
            rw [e2, HPL.out] at e1
            have e3 : ks = ks.take (j + 1) ++ ks.drop (j + 1) := (List.take_append_drop _ _).symm
            have e4 : (idsTs D ks).length = (idsTs D (ks.take j)).length + (idsT D y).length + (idsTs D (ks.drop (j + 1))).length := by
              conv => lhs; rw [e3, idsTs_append, HTK.out, idsTs_append, idsTs, idsTs]
              simp
              omega
            have e5 : M.length = L.length + (idsTs D (ks.take j)).length := by rw [← hM.out, List.length_append]
            rw [List.length_append] at e1
            have := HZ.out
            show _ ≤ _
            omega
          unfold IdsOk vals hcells at HCALL
          simp only at HCALL
          subst ha
          have hl : ∀ W, Below W2.heap.size W2 W → W.cell? ⟨w.heap.size, 6, none⟩ = some (.slice (some ⟨b, off, none⟩) ks.length kc) ∧ (W.cell? ⟨w.heap.size + 1, 0, none⟩ = some (.string nm) ∧ W.cell? ⟨w.heap.size + 1, 1, none⟩ = some (.slice ea E.length ec) ∧ W.cell? ⟨w.heap.size + 1, 2, none⟩ = some (.slice fa D.length fc)) := fun W h => by
            obtain ⟨-, -, -, -, -, -, e6, -⟩ := box8 (heads.box_below HX1.out h)
            obtain ⟨⟨g0, g1, g2⟩, -⟩ := box3 (heads.box_below HX2.out h)
            exact ⟨e6, g0, g1, g2⟩
          have hr8 : ∀ W, Below W2.heap.size W2 W → W.cell? ⟨b, off + j * 8, none⟩ = some (.int .i64 y.kind) ∧ W.cell? ⟨b, off + j * 8 + 1, none⟩ = some (.string y.pre) ∧ W.cell? ⟨b, off + j * 8 + 2, none⟩ = some (.string y.loc) ∧ W.cell? ⟨b, off + j * 8 + 3, none⟩ = some (.string y.uri) ∧ W.cell? ⟨b, off + j * 8 + 4, none⟩ = some (.slice hd.da y.ds.length hd.dc) ∧ W.cell? ⟨b, off + j * 8 + 5, none⟩ = some (.slice hd.aa y.ats.length hd.ac) ∧ W.cell? ⟨b, off + j * 8 + 6, none⟩ = some (.slice hd.ka y.kids.length hd.kc) ∧ W.cell? ⟨b, off + j * 8 + 7, none⟩ = some (.string y.text) := fun W h => by
            have hk' := (h.block b (Nat.lt_of_lt_of_le hblt HB2.out.size)).trans (HB2.out.block b hblt)
            rw [trees.cell_keep hk', trees.cell_keep hk', trees.cell_keep hk', trees.cell_keep hk', trees.cell_keep hk', trees.cell_keep hk', trees.cell_keep hk', trees.cell_keep hk']
            exact ⟨hc0, hc1, hc2, hc3, hc4, hc5, hc6, hc7⟩
          go_wp2_with fail
          clear hc hnode hnode2 hks hkz hy hc0 hc1 hc2 hc3 hc4 hc5 hc6 hc7 a0 a1 a2 a3 a4 a5 a6 a7
          apply quiets.wp_region_calm_in W2 hbx.out 7 (hm := by kernel_rfl) (hB := by kernel_rfl) (hwalk := ?walk) (htail := ?tail)
          case walk =>
            intro C hC0 hC1
            simp only [List.take_succ_cons, List.take_zero]
            repeat (go_big_quiet_step ((first | (intro hq; rfl) | (intro hq; simp [go_sem, (hl _ (hC0 _ hq)).1]; rfl) | (intro hq; simp [go_sem, (hl _ (hC0 _ hq)).2.1, (hl _ (hC0 _ hq)).2.2.1, (hl _ (hC0 _ hq)).2.2.2]; rfl) | (intro hq; simp [go_sem, (hr8 _ (hC0 _ hq)).1, (hr8 _ (hC0 _ hq)).2.1, (hr8 _ (hC0 _ hq)).2.2.1, (hr8 _ (hC0 _ hq)).2.2.2.1, (hr8 _ (hC0 _ hq)).2.2.2.2.1, (hr8 _ (hC0 _ hq)).2.2.2.2.2.1, (hr8 _ (hC0 _ hq)).2.2.2.2.2.2.1, (hr8 _ (hC0 _ hq)).2.2.2.2.2.2.2]; rfl))))
            exact wpQuiet_nil rfl
          case tail =>
            clear hl hr8
            intro w3 hb3
            simp only [List.drop_succ_cons, List.drop_zero]
            refine quiets.tail_cons fun w4 hb4 => ?_
            have HB34 : Hid (Below wr.heap.size wr w4) := hb3.trans (hb4.mono hb3.size)
            clear hb3 hb4
            go_wp2_with fail
            refine Calls.mono (HCALL.out _ (hbx.out.trans (HB34.out.mono hbx.out.size)) HB34.out) ?_
            rintro e w5 ⟨⟨g3, c3, rfl, ho⟩, hb5⟩
            go_wp2_with fail
            have HD5 : Hid (Below wr.heap.size wr w5) := HB34.out.trans (hb5.mono HB34.out.size)
            refine ⟨hbx.out.trans (HD5.out.mono hbx.out.size), quiets.tail_cons fun w6 hb6 => ?_⟩
            have HD6 : Hid (Below wr.heap.size wr w6) := HD5.out.trans (hb6.mono HD5.out.size)
            have HAT : Hid (AttsAt w6 (some ⟨g3, 0, none⟩) (idsT D y)) := (ho.at (ids_fit HYZ.out)).below (Nat.le_refl _) hb6
            have HR6 : Hid (RowA w6 W2.heap.size g2 m2 c2 M) := hR2.out.below HD6.out
            have HB6 : Hid (Below W2.heap.size W2 w6) := hbx.out.trans (HD6.out.mono hbx.out.size)
            have hB6 := HB6.out.size
            obtain ⟨Y, hY⟩ : ∃ Y, idsT D y = Y := ⟨_, rfl⟩
            have HMN : Hid (L ++ idsTs D (ks.take (j + 1)) = M ++ Y) := by
              show _ = _
              rw [HTK.out, idsTs_append, idsTs, idsTs, List.append_nil, hY, ← List.append_assoc, hM.out]
            have hml : m2 + Y.length ≤ 1048576 := by have := HHL.out; rw [hY] at this; have := hR2.out.len; omega
            rw [hY] at HAT
            rw [hY]
            clear ho hb5 hb6 hY
            go_wp2_with (at_builtin; refine trees.app_atts W2.heap.size g2 m2 c2 M Y _ Y.length _ HR6.out HAT.out rfl (by omega) hB6 (by rfl) _ _ (by rfl) (by rfl) (by rfl) ?_; rintro g7 c7 w7 hR7 hb7 hs7)
            have HR7 : Hid _ := hR7
            have HB7 : Hid (Below W2.heap.size W2 w7) := HB6.out.trans hb7
            clear hR7 hb7 hs7
            go_wp2_with fail
            refine ⟨HB7.out, quiets.tail_cons fun w8 hb8 => ?_⟩
            have HR8 : Hid _ := HR7.out.below hb8
            have HB8 : Hid (Below W2.heap.size W2 w8) := HB7.out.trans (hb8.mono HB7.out.size)
            clear hb8
            go_wp2_with fail
            refine ⟨HB8.out, quiets.tail_nil fun w9 hb9 => ?_⟩
            have HR9 : Hid _ := HR8.out.below hb9
            have HB9 : Hid (Below W2.heap.size W2 w9) := HB8.out.trans (hb9.mono HB8.out.size)
            clear hb9
            go_wp2
            go_roundw
            case rel => exact ⟨j + 1, g7, m2 + Y.length, c7, M ++ Y, by omega, hml, by go_num, rfl, HMN.out, HR9.out, HB9.out⟩
            case measure => simp [intOf]; omega
        · obtain rfl : j = ks.length := by omega
          have HIM : Hid (I = M) := by
            have := hM.out
            rw [List.take_length, ← HPL.out, ← HIS.out] at this
            exact this
          have HLM : Hid (m2 = M.length) := hR2.out.len.symm
          go_wp2
          go_ret
          have hIM := HIM.out
          subst hIM
          refine ⟨⟨g2, c2, by rw [← HLM.out]; rfl, fun h0 => ?_⟩, HBX.out⟩
          obtain ⟨g', ha', hg', hm'⟩ := (hR2.out.owned (w := w) HB2.out.size) h0
          exact ⟨g', ha', hg', hm'⟩
theorem spec_ids (B : Nat) (v : Hv) (p : Ha) : ∀ n, ∀ (t : Tree) (h : Hdr) (w : World), tsize t < n → nsz t ≤ 1048576 → HeadIn w v p → NodeIn w B t h → IdsOk 22 t h v p w
  | 0, t, h, w, ht, _, _, _ => by omega
  | n + 1, t, h, w, ht, hz, hh, hn => spec_ids_of n B v p (fun t h w a b d e => spec_ids B v p n t h w a b d e) t h w (by omega) hz hh hn
set_option maxRecDepth 100000 in
set_option maxHeartbeats 4000000 in
theorem spec_idsOf (v : Hv) (p : Ha) (t : Tree) (h : Hdr) (w : World) (hz : nsz t ≤ 1048576) (hh : HeadIn w v p) (hn : NodeIn w 0 t h) : IdsOk 6 t h v p w := by
  have H1 : Hid (∀ W, HeadIn W v p → NodeIn W 0 t h → _) := fun W h1 h2 => spec_ids 0 v p _ t h W (Nat.lt_succ_self _) hz h1 h2
  have HH : Hid (∀ o o', HeadIn ((w.alloc o).alloc o') v p) := fun o o' => hh.below (((Below.refl _ _).alloc (Nat.le_refl _) o).alloc (by simp) o')
  have HN : Hid (∀ o o', NodeIn ((w.alloc o).alloc o') 0 t h) := fun o o' => hn.below (((Below.refl _ _).alloc (Nat.le_refl _) o).alloc (by simp) o')
  have HB : Hid (∀ o o', Below w.heap.size w ((w.alloc o).alloc o')) := fun o o' => ((Below.refl _ _).alloc (Nat.le_refl _) o).alloc (by simp) o'
  clear hh hn
  unfold IdsOk at *
  obtain ⟨I, hI⟩ : ∃ I, idsT v.defs t = I := ⟨_, rfl⟩
  rw [hI] at H1 ⊢
  clear hI
  obtain ⟨kd, pr, lo, ur, tx, ds, ats, ks⟩ := t
  obtain ⟨da, dc, aa, ac, ka, kc⟩ := h
  obtain ⟨nm, E, D⟩ := v
  obtain ⟨ea, ec, fa, fc⟩ := p
  unfold vals hcells at *
  simp only [Tree.kind, Tree.pre, Tree.loc, Tree.uri, Tree.text, Tree.ds, Tree.ats, Tree.kids] at *
  go_enter Tryd.func6, Tryd.ntmps6
  go_wp2_with fail
  refine Calls.mono (H1.out _ (HH.out _ _) (HN.out _ _)) ?_
  rintro e w1 ⟨⟨g, c, rfl, ho⟩, hb⟩
  have HB1 : Hid (Below w.heap.size w w1) := (HB.out _ _).trans (hb.mono (HB.out _ _).size)
  have HO : Hid (OwnA w1 (some ⟨g, 0, none⟩) I (Rng w w1)) := trees.OwnA.sub ho (fun b hb' => ⟨Nat.le_trans (HB.out _ _).size hb'.1, hb'.2⟩)
  clear hb ho
  go_wp2
  go_ret
  exact ⟨⟨g, c, rfl, HO.out⟩, HB1.out⟩
end Go.Proofs.YtdpbiaomhndpcaaDoor.ids
