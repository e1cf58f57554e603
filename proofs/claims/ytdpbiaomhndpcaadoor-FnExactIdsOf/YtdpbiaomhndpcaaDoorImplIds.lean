/-
  What the program's IdsOf answers.
-/
import Derived.Test.YtdpbiaomhndpcaaDoorIdsP
import Derived.Test.YtdpbiaomhndpcaaDoorImplDef
import Derived.Test.YtdpbiaomhndpcaaDoorImplSplit
import Derived.Test.YtdpbiaomhndpcaaDoorHeadFns
import Derived.Test.YtdpbiaomhndpcaaDoorRowsAtt
import Derived.Test.YtdpbiaomhndpcaaDoorCopyP
import Derived.Test.YtdpbiaomhndpcaaDoorCalmTail
namespace Go.Proofs.YtdpbiaomhndpcaaDoor.ids
open Go.ChangeShapes Go.WideShapes Go.ChangeAt Go.RowKit
open trees (Tree Att Hdr vals tsize ksize nsz nszs kid att0 NodeIn NodesAt AttsAt OwnA RowA Rng Out)
open heads (Df dfR Hv Ha hcells HeadIn DfsAt box3)
set_option linter.unusedVariables false
theorem join_impl (p l j : ByteArray) (h : names.joinR p l = j) (hp : p.size ≤ 1048576) (hl : l.size ≤ 1048576) (w : World) (hT : names.Tabs w) : Calls Tryd.prog 50 #[.string p, .string l] w fun e w' => e = .returned (.string j) ∧ Below w.heap.size w w' := by subst h; exact names.impl_join p l w hp hl hT
theorem join_spec (p l j : ByteArray) (h : names.joinR p l = j) (hp : p.size ≤ 1048576) (hl : l.size ≤ 1048576) (w : World) : Calls Tryd.prog 44 #[.string p, .string l] w fun e w' => e = .returned (.string j) ∧ Below w.heap.size w w' := by subst h; exact names.spec_join p l w hp hl
/-- Three boxes of a call's arguments. -/
theorem box8 {w : World} {b : Nat} {t : TypeId} {c0 c1 c2 c3 c4 c5 c6 c7 : Value} (h : w.heap[b]? = some (.cells #[c0, c1, c2, c3, c4, c5, c6, c7] t (0, 0))) :
    w.cell? ⟨b, 0, none⟩ = some c0 ∧ w.cell? ⟨b, 1, none⟩ = some c1 ∧ w.cell? ⟨b, 2, none⟩ = some c2 ∧ w.cell? ⟨b, 3, none⟩ = some c3 ∧ w.cell? ⟨b, 4, none⟩ = some c4 ∧ w.cell? ⟨b, 5, none⟩ = some c5 ∧ w.cell? ⟨b, 6, none⟩ = some c6 ∧ w.cell? ⟨b, 7, none⟩ = some c7 := by
  simp [World.cell?, h]
theorem box4 {w : World} {b : Nat} {t : TypeId} {c0 c1 c2 c3 : Value} (h : w.heap[b]? = some (.cells #[c0, c1, c2, c3] t (0, 0))) :
    w.cell? ⟨b, 0, none⟩ = some c0 ∧ w.cell? ⟨b, 1, none⟩ = some c1 ∧ w.cell? ⟨b, 2, none⟩ = some c2 ∧ w.cell? ⟨b, 3, none⟩ = some c3 := by
  simp [World.cell?, h]
/-- A box of five cells, written anew. -/
theorem blk5 {w : World} {b : Nat} {t : TypeId} {c0 c1 c2 c3 c4 : Value} (h : w.heap[b]? = some (.cells #[c0, c1, c2, c3, c4] t (0, 0))) (u0 u1 u2 u3 u4 : Value) : (((((w.setCell ⟨b, 0, none⟩ u0).setCell ⟨b, 1, none⟩ u1).setCell ⟨b, 2, none⟩ u2).setCell ⟨b, 3, none⟩ u3).setCell ⟨b, 4, none⟩ u4).heap[b]? = some (.cells #[u0, u1, u2, u3, u4] t (0, 0)) := by
  rw [pairs.block_set _ (pairs.block_set _ (pairs.block_set _ (pairs.block_set _ (pairs.block_set _ h))))]
  rfl
theorem below5 {w W : World} {b B : Nat} (h : Below B w W) (hb : B ≤ b) (u0 u1 u2 u3 u4 : Value) : Below B w (((((W.setCell ⟨b, 0, none⟩ u0).setCell ⟨b, 1, none⟩ u1).setCell ⟨b, 2, none⟩ u2).setCell ⟨b, 3, none⟩ u3).setCell ⟨b, 4, none⟩ u4) :=
  pairs.below_set (pairs.below_set (pairs.below_set (pairs.below_set (pairs.below_set h hb) hb) hb) hb) hb
set_option maxRecDepth 100000 in
set_option maxHeartbeats 4000000 in
theorem impl_isId (t : Tree) (h : Hdr) (x : Att) (v : Hv) (p : Ha) (b : Bool) (hb : idB v.defs t.pre t.loc x = b) (w : World) (hT : names.Tabs w) (hz : t.pre.size ≤ 1048576 ∧ t.loc.size ≤ 1048576 ∧ x.pre.size ≤ 1048576 ∧ x.loc.size ≤ 1048576) (hh : HeadIn w v p) :
    Calls Tryd.prog 28 #[.agg (vals t h), .agg #[.string x.pre, .string x.loc, .string x.uri, .string x.val], .agg (hcells v p)] w fun e w' => e = .returned (.bool b) ∧ Below w.heap.size w w' := by
  obtain ⟨hz1, hz2, hz3, hz4⟩ := hz
  obtain ⟨kd, pr, lo, ur, tx, ds, ats, ks⟩ := t
  obtain ⟨da, dc, aa, ac, ka, kc⟩ := h
  obtain ⟨x1, x2, x3, x4⟩ := x
  obtain ⟨n, E, D⟩ := v
  obtain ⟨ea, ec, fa, fc⟩ := p
  unfold vals hcells
  unfold idB at hb
  simp only [Tree.kind, Tree.pre, Tree.loc, Tree.uri, Tree.text, Tree.ds, Tree.ats, Tree.kids] at *
  obtain ⟨j1, hj1⟩ : ∃ j, names.joinR pr lo = j := ⟨_, rfl⟩
  obtain ⟨j2, hj2⟩ : ∃ j, names.joinR x1 x2 = j := ⟨_, rfl⟩
  rw [hj1, hj2] at hb
  obtain ⟨d, ok, hd⟩ : ∃ d ok, dfR D j1 j2 = (d, ok) := ⟨_, _, rfl⟩
  rw [hd] at hb
  have HD : Hid (DfsAt w fa D) := hh.defs
  have HT : Hid (names.Tabs w) := hT
  have H1 : Hid (∀ W, names.Tabs W → _) := fun W h => join_impl pr lo j1 hj1 hz1 hz2 W h
  have H2 : Hid (∀ W, names.Tabs W → _) := fun W h => join_impl x1 x2 j2 hj2 hz3 hz4 W h
  have H3 : Hid (∀ W, DfsAt W fa D → _) := fun W h => heads.impl_def fa D fc j1 j2 d ok hd W h
  clear hh hT hj1 hj2 hd hz1 hz2 hz3 hz4
  have HK : Hid (heads.K3 w _ 38 63 43 _ _ _) := heads.K3.new w 38 63 43 #[.int .i64 kd, .string pr, .string lo, .string ur, .slice da ds.length dc, .slice aa ats.length ac, .slice ka ks.length kc, .string tx] #[.string x1, .string x2, .string x3, .string x4] #[.string n, .slice ea E.length ec, .slice fa D.length fc]
  go_enter Tryd.func28, Tryd.ntmps28
  go_wp2_with fail
  obtain ⟨W3, hW3⟩ : ∃ W3, (((w.alloc (.cells #[.int .i64 kd, .string pr, .string lo, .string ur, .slice da ds.length dc, .slice aa ats.length ac, .slice ka ks.length kc, .string tx] 38)).alloc (.cells #[.string x1, .string x2, .string x3, .string x4] 63)).alloc (.cells #[.string n, .slice ea E.length ec, .slice fa D.length fc] 43)) = W3 := ⟨_, rfl⟩
  rw [hW3] at HK ⊢
  clear hW3
  have hl : ∀ W, Below W3.heap.size W3 W → (W.cell? ⟨w.heap.size, 1, none⟩ = some (.string pr) ∧ W.cell? ⟨w.heap.size, 2, none⟩ = some (.string lo)) ∧ (W.cell? ⟨w.heap.size + 1, 0, none⟩ = some (.string x1) ∧ W.cell? ⟨w.heap.size + 1, 1, none⟩ = some (.string x2)) ∧ W.cell? ⟨w.heap.size + 1 + 1, 2, none⟩ = some (.slice fa D.length fc) := fun W h => by
    have hk := HK.out.below h
    obtain ⟨-, a1, a2, -⟩ := box8 hk.par
    obtain ⟨b1, b2, -⟩ := box4 hk.res
    obtain ⟨⟨-, -, c2⟩, -⟩ := box3 hk.out
    exact ⟨⟨a1, a2⟩, ⟨b1, b2⟩, c2⟩
  apply quiets.wp_region_calm_at 16 (hm := by kernel_rfl) (hB := by kernel_rfl) (hwalk := ?walk) (htail := ?tail)
  case walk =>
    intro C hC0 hC1
    simp only [List.take_succ_cons, List.take_zero]
    iterate 6 (go_big_quiet_step ((first | (intro hq; rfl) | (intro hq; simp [go_sem, (hl _ (hC0 _ hq)).1.1]; rfl) | (intro hq; simp [go_sem, (hl _ (hC0 _ hq)).1.2]; rfl) | (intro hq; simp [go_sem, (hl _ (hC0 _ hq)).2.1.1]; rfl) | (intro hq; simp [go_sem, (hl _ (hC0 _ hq)).2.1.2]; rfl) | (intro hq; simp [go_sem, (hl _ (hC0 _ hq)).2.2]; rfl))))
    go_big_quiet_step ((intro hq; exact quiets.calm_call hC1 hq (H1.out _ (HT.out.below (HK.out.bel.trans ((hC0 _ hq).mono HK.out.bel.size))))))
    iterate 4 (go_big_quiet_step ((first | (intro hq; rfl) | (intro hq; simp [go_sem, (hl _ (hC0 _ hq)).1.1]; rfl) | (intro hq; simp [go_sem, (hl _ (hC0 _ hq)).1.2]; rfl) | (intro hq; simp [go_sem, (hl _ (hC0 _ hq)).2.1.1]; rfl) | (intro hq; simp [go_sem, (hl _ (hC0 _ hq)).2.1.2]; rfl) | (intro hq; simp [go_sem, (hl _ (hC0 _ hq)).2.2]; rfl))))
    go_big_quiet_step ((intro hq; exact quiets.calm_call hC1 hq (H2.out _ (HT.out.below (HK.out.bel.trans ((hC0 _ hq).mono HK.out.bel.size))))))
    go_big_quiet_step ((intro hq; exact quiets.calm_call hC1 hq (H3.out _ (HD.out.below (Nat.le_refl _) (HK.out.bel.trans ((hC0 _ hq).mono HK.out.bel.size))))))
    repeat (go_big_quiet_step ((first | (intro hq; rfl) | (intro hq; simp [go_sem, (hl _ (hC0 _ hq)).1.1]; rfl) | (intro hq; simp [go_sem, (hl _ (hC0 _ hq)).1.2]; rfl) | (intro hq; simp [go_sem, (hl _ (hC0 _ hq)).2.1.1]; rfl) | (intro hq; simp [go_sem, (hl _ (hC0 _ hq)).2.1.2]; rfl) | (intro hq; simp [go_sem, (hl _ (hC0 _ hq)).2.2]; rfl))))
    exact wpQuiet_nil rfl
  case tail =>
    intro w4 hb4
    simp only [List.drop_succ_cons, List.drop_zero]
    refine quiets.tail_cons fun w5 hb5 => ?_
    go_wp2_with fail
    have HBD : Hid (Below w.heap.size w w5) := (HK.out.bel.trans (hb4.mono HK.out.bel.size)).trans (hb5.mono (HK.out.bel.trans (hb4.mono HK.out.bel.size)).size)
    have HD5 : Hid (Below W3.heap.size W3 w5) := hb4.trans (hb5.mono hb4.size)
    refine ⟨HD5.out.alloc HD5.out.size _, quiets.tail_cons fun w6 hb6 => ?_⟩
    have HX6 : Hid (w6.heap[w5.heap.size]? = _) := heads.box_kept hb6
    have HD6 : Hid (Below W3.heap.size W3 w6) := HD5.out.trans ((heads.box_under hb6).mono HD5.out.size)
    obtain ⟨⟨o0, o1, o2, o3, o4⟩, q0, q1, q2, q3, q4⟩ := heads.box5 HX6.out
    clear hb4 hb5 hb6
    go_wp2_with fail
    have HX7 : Hid (_ = some (Obj.cells #[.string d.el, .string d.at_, .bool d.id, .bool d.has, .string d.val] 86 (0, 0))) := blk5 HX6.out (.string d.el) (.string d.at_) (.bool d.id) (.bool d.has) (.string d.val)
    have HD7 : Hid (Below W3.heap.size W3 _) := below5 (b := w5.heap.size) HD6.out HD5.out.size (.string d.el) (.string d.at_) (.bool d.id) (.bool d.has) (.string d.val)
    refine ⟨HD7.out, quiets.tail_cons fun w8 hb8 => ?_⟩
    have HX8 : Hid _ := heads.box_below HX7.out hb8
    have HD8 : Hid (Below W3.heap.size W3 w8) := HD7.out.trans (hb8.mono HD7.out.size)
    clear o0 o1 o2 o3 o4 q0 q1 q2 q3 q4 hb8
    go_wp2_with fail
    refine ⟨HD8.out, quiets.tail_nil fun w9 hb9 => ?_⟩
    have HX9 : Hid _ := heads.box_below HX8.out hb9
    have HD9 : Hid (Below W3.heap.size W3 w9) := HD8.out.trans (hb9.mono HD8.out.size)
    have HB9 : Hid (Below w.heap.size w w9) := HK.out.bel.trans (HD9.out.mono HK.out.bel.size)
    obtain ⟨⟨o0, o1, o2, o3, o4⟩, q0, q1, q2, q3, q4⟩ := heads.box5 HX9.out
    clear hb9 q0 q1 q2 q3 q4
    cases ok
    · subst hb
      go_wp2
      go_ret
      exact ⟨rfl, HB9.out⟩
    · have hb' : d.id = b := hb
      rw [hb'] at o2
      go_wp2
      go_ret
      exact ⟨rfl, HB9.out⟩
/-- What a function that tells the Ids of a node answers. -/
def IdsOk (f : FuncId) (t : Tree) (h : Hdr) (v : Hv) (p : Ha) (w : World) : Prop :=
  Calls Tryd.prog f #[.agg (vals t h), .agg (hcells v p)] w fun e w' => (∃ g c, e = .returned (.slice (some ⟨g, 0, none⟩) (idsT v.defs t).length c) ∧ OwnA w' (some ⟨g, 0, none⟩) (idsT v.defs t) (Rng w w')) ∧ Below w.heap.size w w'
theorem pick_step {D : List Df} {k : Int} {p l : ByteArray} {ats : List Att} {i : Nat} {x : Att} {b : Bool} (hi : i < ats.length) (hx : att0 ats i = x) (hb : (k == 1 && idB D p l x) = b) : pick D k p l (ats.take (i + 1)) = pick D k p l (ats.take i) ++ (bif b then [x] else []) := by
  rw [att_take hi, pick_append, hx, pick, pick, hb, List.append_nil]
theorem nsz_kids (t : Tree) : nszs t.kids ≤ nsz t ∧ t.ats.length ≤ nsz t ∧ t.pre.size ≤ nsz t ∧ t.loc.size ≤ nsz t := by
  cases t; rw [nsz]; simp only [Tree.kids, Tree.ats, Tree.pre, Tree.loc]; unfold trees.smallA; omega
theorem nsz_att {t : Tree} {i : Nat} (hi : i < t.ats.length) : (att0 t.ats i).size ≤ nsz t := by
  have h1 := asize_at t.ats t.ats.length i hi
  cases t; rw [nsz]; simp only [Tree.ats] at h1 ⊢; unfold trees.smallA; omega
set_option maxRecDepth 100000 in
set_option maxHeartbeats 8000000 in
theorem impl_ids_of (n B : Nat) (v : Hv) (p : Ha) (ih : ∀ t h w, tsize t < n → nsz t ≤ 1048576 → names.Tabs w → HeadIn w v p → NodeIn w B t h → IdsOk 9 t h v p w) (t : Tree) (h : Hdr) (w : World) (ht : tsize t ≤ n) (hz : nsz t ≤ 1048576) (hT : names.Tabs w) (hh : HeadIn w v p) (hn : NodeIn w B t h) : IdsOk 9 t h v p w := by
  have HIH : Hid _ := ih
  have HT : Hid (names.Tabs w) := hT
  have HH : Hid (HeadIn w v p) := hh
  have HA : Hid (AttsAt w h.aa t.ats) := hn.atts
  have HN : Hid (NodesAt w B h.ka t.kids) := trees.kids_at hn
  have HZ : Hid (nsz t ≤ 1048576) := hz
  have HZK : Hid (nszs t.kids ≤ nsz t ∧ t.ats.length ≤ nsz t ∧ t.pre.size ≤ nsz t ∧ t.loc.size ≤ nsz t) := nsz_kids t
  have HZA : Hid (∀ i, i < t.ats.length → (att0 t.ats i).size ≤ nsz t) := fun i hi => nsz_att hi
  have HZT : Hid (ksize t.kids < n) := by cases t; rw [tsize] at ht; show _ < _; simp only [Tree.kids]; omega
  have HIS : Hid (idsT v.defs t = pick v.defs t.kind t.pre t.loc t.ats ++ idsTs v.defs t.kids) := by cases t; exact idsT.eq_1 ..
  have HLN : Hid ((idsT v.defs t).length ≤ nsz t) := ids_len v.defs t
  have HID : Hid (∀ x b W, idB v.defs t.pre t.loc x = b → names.Tabs W → x.pre.size ≤ 1048576 ∧ x.loc.size ≤ 1048576 → HeadIn W v p → _) := fun x b W hb h1 h2 h3 => impl_isId t h x v p b hb W h1 ⟨by have := HZK.out; have := HZ.out; omega, by have := HZK.out; have := HZ.out; omega, h2.1, h2.2⟩ h3
  clear ih hT hh hn hz ht
  unfold IdsOk
  obtain ⟨I, hI⟩ : ∃ I, idsT v.defs t = I := ⟨_, rfl⟩
  rw [hI] at HIS HLN ⊢
  clear hI
  obtain ⟨kd, pr, lo, ur, tx, ds, ats, ks⟩ := t
  obtain ⟨da, dc, aa, ac, ka, kc⟩ := h
  obtain ⟨nm, E, D⟩ := v
  obtain ⟨ea, ec, fa, fc⟩ := p
  unfold vals hcells at *
  simp only [Tree.kind, Tree.pre, Tree.loc, Tree.uri, Tree.text, Tree.ds, Tree.ats, Tree.kids] at *
  have hal : ats.length ≤ 1048576 := by have := HZK.out; have := HZ.out; omega
  have hkl : ks.length ≤ 1048576 := by have := HZK.out; have := HZ.out; have := trees.nszs_eq ks; omega
  have HB2 : Hid (Below w.heap.size w ((w.alloc (.cells #[.int .i64 kd, .string pr, .string lo, .string ur, .slice da ds.length dc, .slice aa ats.length ac, .slice ka ks.length kc, .string tx] 38)).alloc (.cells #[.string nm, .slice ea E.length ec, .slice fa D.length fc] 43))) := ((Below.refl _ _).alloc (Nat.le_refl _) _).alloc (by simp) _
  have HX1 : Hid (((w.alloc (.cells #[.int .i64 kd, .string pr, .string lo, .string ur, .slice da ds.length dc, .slice aa ats.length ac, .slice ka ks.length kc, .string tx] 38)).alloc (.cells #[.string nm, .slice ea E.length ec, .slice fa D.length fc] 43)).heap[w.heap.size]? = _) := (Below.heap_alloc _ _ _ (by simp)).trans (heap_alloc_new w (.cells #[.int .i64 kd, .string pr, .string lo, .string ur, .slice da ds.length dc, .slice aa ats.length ac, .slice ka ks.length kc, .string tx] 38))
  have hx2 := heap_alloc_new (w.alloc (.cells #[.int .i64 kd, .string pr, .string lo, .string ur, .slice da ds.length dc, .slice aa ats.length ac, .slice ka ks.length kc, .string tx] 38)) (.cells #[.string nm, .slice ea E.length ec, .slice fa D.length fc] 43)
  rw [World.size_alloc] at hx2
  have HX2 : Hid _ := hx2
  clear hx2
  go_enter Tryd.func9, Tryd.ntmps9
  obtain ⟨W2, hW2⟩ : ∃ W2, ((w.alloc (.cells #[.int .i64 kd, .string pr, .string lo, .string ur, .slice da ds.length dc, .slice aa ats.length ac, .slice ka ks.length kc, .string tx] 38)).alloc (.cells #[.string nm, .slice ea E.length ec, .slice fa D.length fc] 43)) = W2 := ⟨_, rfl⟩
  rw [hW2] at HB2 HX1 HX2
  obtain ⟨a0, a1, a2, a3, a4, a5, a6, a7⟩ := box8 (heads.box_below HX1.out ((Below.refl W2.heap.size W2).alloc (Nat.le_refl _) (.cells #[] 63)))
  go_wp2_with fail
  clear hW2 a0 a1 a2 a3 a4 a5 a6 a7
  have HR0 : Hid (RowA (W2.alloc (.cells #[] 63)) W2.heap.size W2.heap.size 0 0 []) := trees.new_rowA W2 W2.heap.size rfl
  have HA0 : Hid (Below W2.heap.size W2 (W2.alloc (.cells #[] 63))) := (Below.refl _ _).alloc (Nat.le_refl _) _
  obtain ⟨W3, hW3⟩ : ∃ W3, W2.alloc (.cells #[] 63) = W3 := ⟨_, rfl⟩
  rw [hW3] at HR0 HA0 ⊢
  clear hW3
  have HP0 : Hid (pick D kd pr lo (ats.take 0) = []) := rfl
  go_loopw [5, 14] (fun q t wr => ∃ (k g m c : Nat) (L : List Att), k ≤ ats.length ∧ m ≤ k ∧ t = .int .i64 k ∧ q = .slice (some ⟨g, 0, none⟩) m c ∧ Hid (pick D kd pr lo (ats.take k) = L) ∧ Hid (RowA wr W2.heap.size g m c L) ∧ Hid (Below W2.heap.size W2 wr)) (fun _ t _ => ats.length - (intOf t).toNat)
  case atStart => exact ⟨0, _, 0, 0, [], Nat.zero_le _, Nat.le_refl _, rfl, rfl, HP0, HR0, HA0⟩
  case round =>
    obtain ⟨k, g, m, c, L, hk, hm, rfl, rfl, hP, hR, hbw⟩ := hrel
    have HBW : Hid (Below w.heap.size w wr) := HB2.out.trans (hbw.out.mono HB2.out.size)
    by_cases hlt : k < ats.length
    · obtain ⟨b, off, ha, hblt, hc⟩ := (HA.out.below (Nat.le_refl _) HBW.out).row (by omega)
      obtain ⟨hc0, hc1, hc2, hc3⟩ := hc k hlt
      obtain ⟨x, hx⟩ : ∃ x, att0 ats k = x := ⟨_, rfl⟩
      have HXZ : Hid (x.pre.size ≤ 1048576 ∧ x.loc.size ≤ 1048576) := by
        have := HZA.out k hlt
        rw [hx] at this
        have h2 := HZ.out
        unfold Att.size at this
        exact ⟨by omega, by omega⟩
      rw [hx] at hc0 hc1 hc2 hc3
      obtain ⟨r, hr⟩ : ∃ r, idB D pr lo x = r := ⟨_, rfl⟩
      have HST : Hid (pick D kd pr lo (ats.take (k + 1)) = L ++ (bif (kd == 1 && r) then [x] else [])) := by
        have := pick_step (D := D) (k := kd) (p := pr) (l := lo) (ats := ats) (i := k) (x := x) (b := kd == 1 && r) hlt hx (by rw [hr])
        show _ = _
        rw [this, hP.out]
      have HXO : ∀ o, (wr.alloc o).heap[w.heap.size]? = _ := fun o => heads.box_below (heads.box_below HX1.out hbw.out) ((Below.refl _ _).alloc (Nat.le_refl _) o)
      have HHO : ∀ o, (wr.alloc o).heap[w.heap.size + 1]? = _ := fun o => heads.box_below (heads.box_below HX2.out hbw.out) ((Below.refl _ _).alloc (Nat.le_refl _) o)
      obtain ⟨a0, a1, a2, a3, a4, a5, a6, a7⟩ := box8 (HXO (.cells #[.string x.pre, .string x.loc, .string x.uri, .string x.val] 63))
      obtain ⟨⟨b0, b1, b2⟩, -⟩ := box3 (HHO (.cells #[.string x.pre, .string x.loc, .string x.uri, .string x.val] 63))
      have HRA : Hid (∀ o, RowA (wr.alloc o) W2.heap.size g m c L) := fun o => hR.out.below ((Below.refl _ _).alloc (Nat.le_refl _) o)
      have HBA : Hid (∀ o, Below W2.heap.size W2 (wr.alloc o)) := fun o => hbw.out.alloc hbw.out.size o
      have H5 : Hid (∀ W, names.Tabs W → HeadIn W ⟨nm, E, D⟩ ⟨ea, ec, fa, fc⟩ → _) := fun W h1 h2 => HID.out x r W hr h1 HXZ.out h2
      clear HXO HHO hc hx hr
      subst ha
      by_cases hk1 : kd = 1
      · subst hk1
        have HST1 : Hid (pick D 1 pr lo (ats.take (k + 1)) = L ++ (bif r then [x] else [])) := by
          have := HST.out
          rw [show ((1 : Int) == 1 && r) = r by cases r <;> rfl] at this
          exact this
        have HT1 : Hid (∀ o, names.Tabs (wr.alloc o)) := fun o => HT.out.below (HBW.out.alloc HBW.out.size o)
        have HH1 : Hid (∀ o, HeadIn (wr.alloc o) ⟨nm, E, D⟩ ⟨ea, ec, fa, fc⟩) := fun o => HH.out.below (HBW.out.alloc HBW.out.size o)
        clear HST
        go_wp2_with fail
        refine Calls.mono (H5.out _ (HT1.out _) (HH1.out _)) ?_
        rintro e w4 ⟨rfl, hb4⟩
        have HR4 : Hid (RowA w4 W2.heap.size g m c L) := (HRA.out _).below hb4
        have HB4 : Hid (Below W2.heap.size W2 w4) := (HBA.out _).trans (hb4.mono (HBA.out _).size)
        have HX4 : Hid (w4.heap[wr.heap.size]? = _) := heads.box_kept hb4
        clear hb4 a0 a1 a2 a3 a4 a5 a6 a7 b0 b1 b2 hc0 hc1 hc2 hc3
        cases r
        · have HST2 : Hid (pick D 1 pr lo (ats.take (k + 1)) = L) := HST1.out.trans (List.append_nil L)
          go_wp2
          go_roundw
          case rel => exact ⟨k + 1, g, m, c, L, by omega, by omega, by go_num, rfl, HST2.out, HR4.out, HB4.out⟩
          case measure => simp [intOf]; omega
        · obtain ⟨a0, a1, a2, a3⟩ := box4 HX4.out
          have hB4 := HB4.out.size
          go_wp2_with (at_builtin; refine trees.add_att W2.heap.size g m c L x _ HR4.out hB4 (by omega) (by rfl) _ _ (by rfl) (by rfl) _ (by rfl) (by simp) ?_; rintro g' c' w6 hR6 hb6 hs6)
          have HR6 : Hid _ := hR6
          have HB6 : Hid (Below W2.heap.size W2 w6) := HB4.out.trans hb6
          clear hR6 hb6 hs6
          go_wp2
          go_roundw
          case rel => exact ⟨k + 1, g', m + 1, c', L ++ [x], by omega, by omega, by go_num, rfl, HST1.out, HR6.out, HB6.out⟩
          case measure => simp [intOf]; omega
      · have HST' : Hid (pick D kd pr lo (ats.take (k + 1)) = L) := by
          have := HST.out
          rw [show (kd == 1) = false by simpa using hk1] at this
          exact this.trans (List.append_nil L)
        go_wp2
        go_roundw
        case rel => exact ⟨k + 1, g, m, c, L, by omega, by omega, by go_num, rfl, HST'.out, HRA.out _, HBA.out _⟩
        case measure => simp [intOf]; omega
    · obtain rfl : k = ats.length := by omega
      have HPL : Hid (pick D kd pr lo ats = L) := by have := hP.out; rw [List.take_length] at this; exact this
      obtain ⟨a0, a1, a2, a3, a4, a5, a6, a7⟩ := box8 (heads.box_below HX1.out hbw.out)
      go_wp2_with fail
      clear a0 a1 a2 a3 a4 a5 a6 a7
      have HI0 : Hid (m = L.length) := hR.out.len.symm
      go_loopw [5, 35] (fun q t wx => ∃ (j g2 m2 c2 : Nat) (M : List Att), j ≤ ks.length ∧ m2 ≤ 1048576 ∧ t = .int .i64 j ∧ q = .slice (some ⟨g2, 0, none⟩) m2 c2 ∧ Hid (L ++ idsTs D (ks.take j) = M) ∧ Hid (RowA wx W2.heap.size g2 m2 c2 M) ∧ Hid (Below W2.heap.size W2 wx)) (fun _ t _ => ks.length - (intOf t).toNat)
      case atStart => exact ⟨0, g, m, c, L, Nat.zero_le _, by omega, rfl, rfl, by show _ = _; rw [List.take_zero, idsTs, List.append_nil], hR.out, hbw.out⟩
      case round =>
        obtain ⟨j, g2, m2, c2, M, hj, hm2, rfl, rfl, hM, hR2, hbx⟩ := hrel
        have HBX : Hid (Below w.heap.size w wr) := HB2.out.trans (hbx.out.mono HB2.out.size)
        by_cases hlt2 : j < ks.length
        · obtain ⟨b, off, ha, hblt, hc⟩ := (HN.out.below HBX.out).row (by omega)
          obtain ⟨hd, hnode, hc0, hc1, hc2, hc3, hc4, hc5, hc6, hc7⟩ := hc j hlt2
          have hks := trees.ksize_kid ks j hlt2
          have hkz := trees.nsz_kid ks j hlt2
          have hnode2 := fun o => hnode.below ((Below.refl wr.heap.size wr).alloc (Nat.le_refl _) o)
          obtain ⟨y, hy⟩ : ∃ y, trees.kid ks j = y := ⟨_, rfl⟩
          have HTK : Hid (ks.take (j + 1) = ks.take j ++ [y]) := by show _ = _; rw [← hy]; exact trees.kid_take hlt2
          rw [hy] at hc0 hc1 hc2 hc3 hc4 hc5 hc6 hc7 hks hkz hnode2
          have HYZ : Hid (nsz y ≤ 1048576) := by have := HZK.out; have := HZ.out; show _ ≤ _; omega
          have HCALL : Hid (∀ o, IdsOk 9 y hd ⟨nm, E, D⟩ ⟨ea, ec, fa, fc⟩ (wr.alloc o)) := fun o => HIH.out y hd _ (by have := HZT.out; omega) HYZ.out (HT.out.below (HBX.out.alloc HBX.out.size o)) (HH.out.below (HBX.out.alloc HBX.out.size o)) (hnode2 o)
          have HHO : Hid (∀ o, (wr.alloc o).heap[w.heap.size + 1]? = _) := fun o => heads.box_below (heads.box_below HX2.out hbx.out) ((Below.refl _ _).alloc (Nat.le_refl _) o)
          have HHL : Hid (M.length + (idsT D y).length ≤ 1048576) := by
            have e1 := HLN.out
            have e2 := HIS.out
            rw [e2, HPL.out] at e1
            have e3 : ks = ks.take (j + 1) ++ ks.drop (j + 1) := (List.take_append_drop _ _).symm
            have e4 : (idsTs D ks).length = (idsTs D (ks.take j)).length + (idsT D y).length + (idsTs D (ks.drop (j + 1))).length := by
              conv => lhs; rw [e3, idsTs_append, HTK.out, idsTs_append, idsTs, idsTs]
              simp
              omega
            have e5 : M.length = L.length + (idsTs D (ks.take j)).length := by rw [← hM.out, List.length_append]
            rw [List.length_append] at e1
            have := HZ.out
            show _ ≤ _
            omega
          unfold IdsOk vals hcells at HCALL
          simp only at HCALL
          obtain ⟨z1, z2, z3, z4, z5, z6, z7, z8⟩ : (y.kind = y.kind ∧ y.pre = y.pre ∧ y.loc = y.loc ∧ y.uri = y.uri ∧ y.text = y.text ∧ y.ds = y.ds ∧ y.ats = y.ats ∧ y.kids = y.kids) := ⟨rfl, rfl, rfl, rfl, rfl, rfl, rfl, rfl⟩
          clear z1 z2 z3 z4 z5 z6 z7 z8
          obtain ⟨⟨b0, b1, b2⟩, -⟩ := box3 (HHO.out (.cells #[.int .i64 y.kind, .string y.pre, .string y.loc, .string y.uri, .slice hd.da y.ds.length hd.dc, .slice hd.aa y.ats.length hd.ac, .slice hd.ka y.kids.length hd.kc, .string y.text] 38))
          subst ha
          clear hc hnode hnode2 hks hkz hy
          go_wp2_with fail
          refine Calls.mono (HCALL.out _) ?_
          rintro e w5 ⟨⟨g3, c3, rfl, ho⟩, hb5⟩
          have HAT : Hid (AttsAt w5 (some ⟨g3, 0, none⟩) (idsT D y)) := ho.at (ids_fit HYZ.out)
          have HR5 : Hid (RowA w5 W2.heap.size g2 m2 c2 M) := (hR2.out.below ((Below.refl _ _).alloc (Nat.le_refl _) _)).below hb5
          have HB5 : Hid (Below W2.heap.size W2 w5) := (hbx.out.alloc hbx.out.size _).trans (hb5.mono (hbx.out.alloc hbx.out.size _).size)
          have hB5 := HB5.out.size
          obtain ⟨Y, hY⟩ : ∃ Y, idsT D y = Y := ⟨_, rfl⟩
          have HMN : Hid (L ++ idsTs D (ks.take (j + 1)) = M ++ Y) := by
            show _ = _
            rw [HTK.out, idsTs_append, idsTs, idsTs, List.append_nil, hY, ← List.append_assoc, hM.out]
          have hml : m2 + Y.length ≤ 1048576 := by have := HHL.out; rw [hY] at this; have := hR2.out.len; omega
          rw [hY] at HAT
          rw [hY]
          clear ho hb5 hY b0 b1 b2 hc0 hc1 hc2 hc3 hc4 hc5 hc6 hc7
          go_wp2_with (at_builtin; refine trees.app_atts W2.heap.size g2 m2 c2 M Y _ Y.length _ HR5.out HAT.out rfl (by omega) hB5 (by rfl) _ _ (by rfl) (by rfl) (by rfl) ?_; rintro g6 c6 w6 hR6 hb6 hs6)
          have HR6 : Hid _ := hR6
          have HB6 : Hid (Below W2.heap.size W2 w6) := HB5.out.trans hb6
          clear hR6 hb6 hs6
          go_wp2
          go_roundw
          case rel => exact ⟨j + 1, g6, m2 + Y.length, c6, M ++ Y, by omega, hml, by go_num, rfl, HMN.out, HR6.out, HB6.out⟩
          case measure => simp [intOf]; omega
        · obtain rfl : j = ks.length := by omega
          have HIM : Hid (I = M) := by
            have := hM.out
            rw [List.take_length, ← HPL.out, ← HIS.out] at this
            exact this
          have HLM : Hid (m2 = M.length) := hR2.out.len.symm
          go_wp2
          go_ret
          have hIM := HIM.out
          subst hIM
          refine ⟨⟨g2, c2, by rw [← HLM.out]; rfl, fun h0 => ?_⟩, HBX.out⟩
          obtain ⟨g', ha', hg', hm'⟩ := (hR2.out.owned (w := w) HB2.out.size) h0
          exact ⟨g', ha', hg', hm'⟩
theorem impl_ids (B : Nat) (v : Hv) (p : Ha) : ∀ n, ∀ (t : Tree) (h : Hdr) (w : World), tsize t < n → nsz t ≤ 1048576 → names.Tabs w → HeadIn w v p → NodeIn w B t h → IdsOk 9 t h v p w
  | 0, t, h, w, ht, _, _, _, _ => by omega
  | n + 1, t, h, w, ht, hz, hT, hh, hn => impl_ids_of n B v p (fun t h w a b c d e => impl_ids B v p n t h w a b c d e) t h w (by omega) hz hT hh hn
end Go.Proofs.YtdpbiaomhndpcaaDoor.ids
