/-
  What the specification writes of a node.
  (Texts of ours laid as one: SpecWrite, SpecWriteAll, OutBuf, Sink, ImplWrite, ImplWriteN, ImplWriteT, ImplWriteA.)
-/
import Derived.Test.YtmiiilamjbhheaaGreatDoorWriteP
import Derived.Test.YtmiiilamjbhheaaGreatDoorEsc
import Derived.Test.YtmiiilamjbhheaaGreatDoorQuiet
import Derived.Test.YtmiiilamjbhheaaGreatDoorSpecNodeOk
import Derived.Deep.QuietTactic
import Derived.BigQuiet
import Derived.Test.YtmiiilamjbhheaaGreatDoorBuilders
import Derived.Lib.UnsafeStr
import Derived.Shelf.RegionOpen
import Derived.Test.YtmiiilamjbhheaaGreatDoorImplEsc
import Derived.Test.YtmiiilamjbhheaaGreatDoorImplNodeOk
import Derived.Test.YtmiiilamjbhheaaGreatDoorImplSplit
import Derived.Deep.RegionWith
namespace Go.Proofs.YtmiiilamjbhheaaGreatDoor.trees
open Go.ChangeShapes Go.WideShapes Go.ChangeAt Go.RowKit
open pairs (Pair at0 PairsAt)
open names (joinR ret_str)
open escs (escS)
set_option linter.unusedVariables false
theorem lt_none (p : ByteArray) : (p.toList == (⟨#[]⟩ : ByteArray).toList) = p.toList.isEmpty := by
  rw [ByteArray.toList_eq (⟨#[]⟩ : ByteArray)]
  cases p.toList <;> rfl
def WrOk (t : Tree) (h : Hdr) (w : World) : Prop :=
  Calls Tryz.prog 30 #[.agg (vals t h)] w fun e w' => e = .returned (.string (writeT t)) ∧ Below w.heap.size w w'
theorem nodeW_text {k : Int} {p l x s : ByteArray} {ds : List Pair} {ats : List Att} {n : Nat} (h : (k == 2) = true) : nodeW k p l x ds ats n s = escS false x := by unfold nodeW; rw [h]; rfl
theorem nodeW_note {k : Int} {p l x s : ByteArray} {ds : List Pair} {ats : List Att} {n : Nat} (h2 : (k == 2) = false) (h : (k == 3) = true) : nodeW k p l x ds ats n s = noteW x := by unfold nodeW; rw [h2, h]; rfl
theorem nodeW_told {k : Int} {p l x s : ByteArray} {ds : List Pair} {ats : List Att} {n : Nat} (h2 : (k == 2) = false) (h3 : (k == 3) = false) (h : (k == 4) = true) : nodeW k p l x ds ats n s = toldW l x := by unfold nodeW; rw [h2, h3, h]; rfl
theorem nodeW_whole {k : Int} {p l x s : ByteArray} {ds : List Pair} {ats : List Att} {n : Nat} (h2 : (k == 2) = false) (h3 : (k == 3) = false) (h4 : (k == 4) = false) (h : (k == 0) = true) : nodeW k p l x ds ats n s = s := by unfold nodeW; rw [h2, h3, h4, h]; rfl
theorem nodeW_el {k : Int} {p l x s : ByteArray} {ds : List Pair} {ats : List Att} {n : Nat} (h2 : (k == 2) = false) (h3 : (k == 3) = false) (h4 : (k == 4) = false) (h : (k == 0) = false) : nodeW k p l x ds ats n s = elW p l ds ats n s := by unfold nodeW; rw [h2, h3, h4, h]; rfl
theorem toldW_none {l x : ByteArray} (h : (x.toList == (⟨#[]⟩ : ByteArray).toList) = true) : toldW l x = ⟨#[60, 63]⟩ ++ l ++ ⟨#[63, 62]⟩ := by
  rw [lt_none] at h
  unfold toldW
  by_cases e : x.size = 0
  · rw [if_pos e]
  · rw [names.isEmpty_no e] at h; cases h
theorem toldW_some {l x : ByteArray} (h : (x.toList == (⟨#[]⟩ : ByteArray).toList) = false) : toldW l x = ⟨#[60, 63]⟩ ++ l ++ ⟨#[32]⟩ ++ x ++ ⟨#[63, 62]⟩ := by
  rw [lt_none] at h
  unfold toldW
  by_cases e : x.size = 0
  · rw [names.isEmpty_of e] at h; cases h
  · rw [if_neg e]
theorem xmlns_none {p : ByteArray} (h : (p.toList == (⟨#[]⟩ : ByteArray).toList) = true) : xmlnsW p = ⟨#[120, 109, 108, 110, 115]⟩ := by
  rw [lt_none] at h
  unfold xmlnsW
  by_cases e : p.size = 0
  · rw [if_pos e]
  · rw [names.isEmpty_no e] at h; cases h
theorem xmlns_some {p : ByteArray} (h : (p.toList == (⟨#[]⟩ : ByteArray).toList) = false) : xmlnsW p = ⟨#[120, 109, 108, 110, 115, 58]⟩ ++ p := by
  rw [lt_none] at h
  unfold xmlnsW
  by_cases e : p.size = 0
  · rw [names.isEmpty_of e] at h; cases h
  · rw [if_neg e]
set_option maxRecDepth 100000 in
set_option maxHeartbeats 8000000 in
theorem wr_of (n B : Nat) (ih : ∀ (t : Tree) (h : Hdr) (w : World), tsize t < n → nsz t ≤ 1048576 → NodeIn w B t h → WrOk t h w)
    (t : Tree) (h : Hdr) (w : World) (ht : tsize t ≤ n) (hz : nsz t ≤ 1048576) (hn : NodeIn w B t h) : WrOk t h w := by
  have hkt := tsize_kid t
  obtain ⟨k, p, l, u, x, ds, ats, ks⟩ := t
  obtain ⟨da, dc, aa, ac, ka, kc⟩ := h
  have HK : Hid (NodesAt w B ka ks) := kids_at hn
  have HD : Hid (PairsAt w da ds) := hn.decls
  have HA : Hid (AttsAt w aa ats) := hn.atts
  have hnz : nsz (.mk k p l u x ds ats ks) = p.size + l.size + u.size + (ds.length + pairs.sizeTo ds ds.length) + smallA ats + nszs ks + x.size := by rw [nsz]
  have hps : p.size ≤ 1048576 := by omega
  have hls : l.size ≤ 1048576 := by omega
  have hxs : x.size ≤ 1048576 := by omega
  have HZD : Hid (ds.length + pairs.sizeTo ds ds.length ≤ 1048576) := by show _ ≤ _; omega
  have HZA : Hid (smallA ats ≤ 1048576) := by show _ ≤ _; omega
  have HZK : Hid (nszs ks ≤ 1048576) := by show _ ≤ _; omega
  have hdl : ds.length ≤ 1048576 := by omega
  have hal : ats.length ≤ 1048576 := by unfold smallA at hnz; omega
  have hkl : ks.length ≤ 1048576 := by have := nszs_eq ks; omega
  have HW : Hid (writeT (.mk k p l u x ds ats ks) = nodeW k p l x ds ats ks.length (writeTo ks ks.length)) := by show _ = _; rw [writeT, writeL_eq]
  have HKT : Hid (∀ i, i < ks.length → tsize (kid ks i) < n) := fun i hi => Nat.lt_of_lt_of_le (hkt i hi) ht
  have HIH : Hid _ := ih
  unfold WrOk
  rw [HW.out]
  simp only [vals, Tree.kind, Tree.pre, Tree.loc, Tree.uri, Tree.text, Tree.ds, Tree.ats, Tree.kids]
  clear ih hn ht hz hnz hkt HW
  cases h2 : (k == 2)
  rotate_left
  · rw [nodeW_text h2]
    go_enter Tryz.func30, Tryz.ntmps30
    go_wp2_with (go_at_call 42; refine (escs.spec_escText x _ hxs).mono ?_; rintro e w1 ⟨rfl, rfl⟩)
    go_ret
    exact ⟨rfl, (Below.refl _ _).alloc (Nat.le_refl _) _⟩
  cases h3 : (k == 3)
  rotate_left
  · rw [nodeW_note h2 h3]
    go_enter Tryz.func30, Tryz.ntmps30
    go_wp2
    go_ret
    exact ⟨rfl, (Below.refl _ _).alloc (Nat.le_refl _) _⟩
  cases h4 : (k == 4)
  rotate_left
  · rw [nodeW_told h2 h3 h4]
    cases he : (x.toList == (⟨#[]⟩ : ByteArray).toList)
    · have HF : Hid _ := toldW_some (l := l) he
      rw [lt_none] at he
      go_enter Tryz.func30, Tryz.ntmps30
      go_wp2
      go_ret
      exact ⟨ret_str HF.out.symm, (Below.refl _ _).alloc (Nat.le_refl _) _⟩
    · have HF : Hid _ := toldW_none (l := l) he
      rw [lt_none] at he
      go_enter Tryz.func30, Tryz.ntmps30
      go_wp2
      go_ret
      exact ⟨ret_str HF.out.symm, (Below.refl _ _).alloc (Nat.le_refl _) _⟩
  go_enter Tryz.func30, Tryz.ntmps30
  go_wp2_with fail
  go_loopw [3, 4] (fun q t wr => ∃ (i : Nat) (s : ByteArray), i ≤ ks.length ∧ t = .int .i64 i ∧ q = .string s ∧ s.size ≤ 12582912 ∧ Hid (s = writeTo ks i) ∧ Hid (Below (w.alloc (.cells #[.int .i64 k, .string p, .string l, .string u, .slice da ds.length dc, .slice aa ats.length ac, .slice ka ks.length kc, .string x] 38)).heap.size (w.alloc (.cells #[.int .i64 k, .string p, .string l, .string u, .slice da ds.length dc, .slice aa ats.length ac, .slice ka ks.length kc, .string x] 38)) wr)) (fun _ t _ => ks.length - (intOf t).toNat)
  case atStart => exact ⟨0, ⟨#[]⟩, Nat.zero_le _, rfl, rfl, Nat.zero_le _, rfl, Below.refl _ _⟩
  case round =>
    obtain ⟨i, s, hi, rfl, rfl, hss, hse, hbw⟩ := hrel
    obtain ⟨b0, b1, b2, b3, b4, b5, b6, b7⟩ := box8 (box_kept hbw.out)
    have HBW : Hid _ := box_under hbw.out
    by_cases hlt : i < ks.length
    · obtain ⟨b, off, ha, hblt, hc⟩ := (HK.out.below HBW.out).row (by omega)
      obtain ⟨h', hnode, hc0, hc1, hc2, hc3, hc4, hc5, hc6, hc7⟩ := hc i hlt
      have hkz := nsz_kid ks i hlt
      have hzk := HZK.out
      have hE := HIH.out (kid ks i) h' wr (HKT.out i hlt) (by omega) hnode
      have hwl := write_len (kid ks i)
      have hwt := writeTo_len ks (i + 1) (by omega)
      have hst : writeTo ks (i + 1) = writeTo ks i ++ writeT (kid ks i) := rfl
      have hws : (writeT (kid ks i)).size ≤ 12582924 := by omega
      unfold WrOk at hE
      unfold vals at hE
      generalize writeT (kid ks i) = y1 at hE hst hws
      generalize kid ks i = y at hc0 hc1 hc2 hc3 hc4 hc5 hc6 hc7 hE
      have HE : Hid _ := hE
      have HST : Hid _ := hst
      have HWT : Hid _ := hwt
      subst ha
      clear hc hE hnode hst hwl hwt hkz hzk
      go_wp2_with fail
      refine Calls.mono HE.out ?_
      rintro e w2 ⟨rfl, hb3⟩
      have HB2 : Hid _ := hbw.out.trans (hb3.mono hbw.out.size)
      clear hb3 HE
      go_wp2
      go_roundw
      case rel =>
        have e : s ++ y1 = writeTo ks (i + 1) := by rw [HST.out, hse.out]
        exact ⟨i + 1, s ++ y1, by omega, by go_num, rfl, by rw [e]; have h1 := HWT.out; have h2 := HZK.out; omega, e, HB2.out⟩
      case measure => simp [intOf]; omega
    · obtain rfl : i = ks.length := by omega
      cases h0 : (k == 0)
      rotate_left
      · have HF : Hid _ := nodeW_whole (p := p) (l := l) (x := x) (s := writeTo ks ks.length) (ds := ds) (ats := ats) (n := ks.length) h2 h3 h4 h0
        go_wp2
        go_ret
        exact ⟨ret_str (by rw [HF.out, hse.out]), HBW.out⟩
      have HEL : Hid _ := nodeW_el (p := p) (l := l) (x := x) (s := writeTo ks ks.length) (ds := ds) (ats := ats) (n := ks.length) h2 h3 h4 h0
      have HSE : Hid _ := hse.out
      clear hse hlt hi
      obtain ⟨j, hj⟩ : ∃ j, joinR p l = j := ⟨_, rfl⟩
      have hjs : j.size ≤ 2097153 := by rw [← hj]; have := join_len p l; omega
      have HJ : Hid _ := hj
      have hJ := names.spec_join p l wr hps hls
      rw [hj] at hJ
      have HC : Hid _ := hJ
      clear hJ hj
      go_wp2_with fail
      refine Calls.mono HC.out ?_
      rintro e w1 ⟨rfl, hb1⟩
      have HB1 : Hid _ := hbw.out.trans (hb1.mono hbw.out.size)
      clear hb1 HC b0 b1 b2 b3 b4 b5 b6 b7
      obtain ⟨b0, b1, b2, b3, b4, b5, b6, b7⟩ := box8 (box_kept HB1.out)
      go_wp2_with fail
      obtain ⟨o, ho⟩ : ∃ o, (⟨#[60]⟩ : ByteArray) ++ j = o := ⟨_, rfl⟩
      have hos : o.size ≤ 2097154 := by rw [← ho, ByteArray.size_append]; show 1 + _ ≤ _; omega
      have HO : Hid _ := ho
      rw [ho]
      clear ho
      go_loopw [6, 7] (fun q t wr => ∃ (i : Nat) (s : ByteArray), i ≤ ds.length ∧ t = .int .i64 i ∧ q = .string s ∧ s.size ≤ 30000000 ∧ Hid (s = declW o ds i) ∧ Hid (Below (w.alloc (.cells #[.int .i64 k, .string p, .string l, .string u, .slice da ds.length dc, .slice aa ats.length ac, .slice ka ks.length kc, .string x] 38)).heap.size (w.alloc (.cells #[.int .i64 k, .string p, .string l, .string u, .slice da ds.length dc, .slice aa ats.length ac, .slice ka ks.length kc, .string x] 38)) wr)) (fun _ t _ => ds.length - (intOf t).toNat)
      case atStart => exact ⟨0, o, Nat.zero_le _, rfl, rfl, by omega, rfl, HB1.out⟩
      case round =>
        clear b0 b1 b2 b3 b4 b5 b6 b7 hbw HBW
        obtain ⟨i, d, hi, rfl, rfl, hds, hde, hbw⟩ := hrel
        obtain ⟨b0, b1, b2, b3, b4, b5, b6, b7⟩ := box8 (box_kept hbw.out)
        have HBW : Hid _ := box_under hbw.out
        by_cases hlt : i < ds.length
        · obtain ⟨b, off, ha, hblt, hc⟩ := (HD.out.below (Nat.le_refl _) HBW.out).row (by omega)
          obtain ⟨hc0, hc1⟩ := hc i hlt
          have hzz := pairs.sizeTo_one ds hlt
          have hzd := HZD.out
          have hst : declW o ds (i + 1) = valW (declW o ds i) (xmlnsW (at0 ds i).1) (at0 ds i).2 := rfl
          have hdl2 := decl_len o ds (i + 1)
          have hle := sizeTo_le ds (show i + 1 ≤ ds.length by omega)
          have hnx : (declW o ds (i + 1)).size ≤ 30000000 := by omega
          have hy1 : (at0 ds i).1.size ≤ 1048576 := by omega
          have hy2 : (at0 ds i).2.size ≤ 1048576 := by omega
          have hes := esc_len true (at0 ds i).2
          generalize at0 ds i = y at hc0 hc1 hst hy1 hy2 hes
          obtain ⟨y1, y2⟩ := y
          dsimp only at hc0 hc1 hst hy1 hy2 hes
          rw [hst] at hnx
          have HST : Hid _ := hst
          have HNX : Hid _ := hnx
          have HE : Hid (∀ w, _) := fun w => escs.spec_escAttr y2 w hy2
          have HB2 : Hid (∀ o, Below (w.alloc (.cells #[.int .i64 k, .string p, .string l, .string u, .slice da ds.length dc, .slice aa ats.length ac, .slice ka ks.length kc, .string x] 38)).heap.size (w.alloc (.cells #[.int .i64 k, .string p, .string l, .string u, .slice da ds.length dc, .slice aa ats.length ac, .slice ka ks.length kc, .string x] 38)) (wr.alloc o)) := fun o => hbw.out.trans (((Below.refl _ wr).alloc (Nat.le_refl _) o).mono hbw.out.size)
          subst ha
          clear hc hst hdl2 hle hnx hzz hzd
          cases he : (y1.toList == (⟨#[]⟩ : ByteArray).toList)
          · have HX : Hid _ := xmlns_some he
            rw [lt_none] at he
            go_wp2_with (go_at_call 44; refine (HE.out _).mono ?_; rintro e w2 ⟨rfl, rfl⟩)
            go_roundw
            case rel =>
              refine ⟨i + 1, _, by omega, by go_num, rfl, ?_, ?_, HB2.out _⟩
              · have := HNX.out
                rw [← hde.out, HX.out] at this
                exact this
              · show _ = _
                rw [HST.out, ← hde.out, HX.out]
                rfl
            case measure => simp [intOf]; omega
          · have HX : Hid _ := xmlns_none he
            rw [lt_none] at he
            go_wp2_with (go_at_call 44; refine (HE.out _).mono ?_; rintro e w2 ⟨rfl, rfl⟩)
            go_roundw
            case rel =>
              refine ⟨i + 1, _, by omega, by go_num, rfl, ?_, ?_, HB2.out _⟩
              · have := HNX.out
                rw [← hde.out, HX.out] at this
                exact this
              · show _ = _
                rw [HST.out, ← hde.out, HX.out]
                rfl
            case measure => simp [intOf]; omega
        · obtain rfl : i = ds.length := by omega
          clear hlt hi
          go_wp2_with fail
          have hd2 := hde.out
          have HDE : Hid _ := hde.out
          go_loopw [6, 10] (fun q t wr => ∃ (i : Nat) (s : ByteArray), i ≤ ats.length ∧ t = .int .i64 i ∧ q = .string s ∧ s.size ≤ 60000000 ∧ Hid (s = attW d ats i) ∧ Hid (Below (w.alloc (.cells #[.int .i64 k, .string p, .string l, .string u, .slice da ds.length dc, .slice aa ats.length ac, .slice ka ks.length kc, .string x] 38)).heap.size (w.alloc (.cells #[.int .i64 k, .string p, .string l, .string u, .slice da ds.length dc, .slice aa ats.length ac, .slice ka ks.length kc, .string x] 38)) wr)) (fun _ t _ => ats.length - (intOf t).toNat)
          case atStart => exact ⟨0, d, Nat.zero_le _, rfl, rfl, by omega, rfl, hbw.out⟩
          case round =>
            clear b0 b1 b2 b3 b4 b5 b6 b7 hbw HBW hd2 hde
            obtain ⟨i, a, hi, rfl, rfl, has, hae, hbw⟩ := hrel
            obtain ⟨b0, b1, b2, b3, b4, b5, b6, b7⟩ := box8 (box_kept hbw.out)
            have HBW : Hid _ := box_under hbw.out
            by_cases hlt : i < ats.length
            · obtain ⟨b, off, ha, hblt, hc⟩ := (HA.out.below (Nat.le_refl _) HBW.out).row (by omega)
              obtain ⟨hc0, hc1, hc2, hc3⟩ := hc i hlt
              have hzz := asizeTo_one ats hlt
              have hza := HZA.out
              have hst : attW d ats (i + 1) = valW (attW d ats i) (joinR (att0 ats i).pre (att0 ats i).loc) (att0 ats i).val := rfl
              have hdl2 := att_len d ats (i + 1)
              have hle := asizeTo_le ats (show i + 1 ≤ ats.length by omega)
              have hnx : (attW d ats (i + 1)).size ≤ 60000000 := by unfold smallA at hza; omega
              have hys : (att0 ats i).size ≤ 1048576 := by unfold smallA at hza; omega
              unfold Att.size at hys
              generalize att0 ats i = y at hc0 hc1 hc2 hc3 hst hys
              obtain ⟨y1, y2, y3, y4⟩ := y
              dsimp only at hc0 hc1 hc2 hc3 hst hys
              rw [hst] at hnx
              have hes := esc_len true y4
              have hjl := join_len y1 y2
              have HE : Hid (∀ w, _) := fun w => escs.spec_escAttr y4 w (by omega)
              have hJ := fun w => names.spec_join y1 y2 w (by omega) (by omega)
              obtain ⟨j2, hj2⟩ : ∃ j, joinR y1 y2 = j := ⟨_, rfl⟩
              rw [hj2] at hJ hjl hst hnx
              have HJ2 : Hid (∀ w, _) := hJ
              have HST : Hid _ := hst
              have HNX : Hid _ := hnx
              obtain ⟨v, hv⟩ : ∃ v, escS true y4 = v := ⟨_, rfl⟩
              have hvs : v.size ≤ 6291456 := by rw [← hv]; omega
              have hj2s : j2.size ≤ 2097153 := by omega
              have HE2 : Hid (∀ w, Calls Tryz.prog 44 #[.string y4] w fun e w' => e = .returned (.string v) ∧ Below w.heap.size w w') := fun w => (HE.out w).mono fun e w' h => ⟨by rw [← hv]; exact h.1, by rw [h.2]; exact Below.refl _ _⟩
              have HV : Hid _ := hv
              have HB2 : Hid (∀ o, Below (w.alloc (.cells #[.int .i64 k, .string p, .string l, .string u, .slice da ds.length dc, .slice aa ats.length ac, .slice ka ks.length kc, .string x] 38)).heap.size (w.alloc (.cells #[.int .i64 k, .string p, .string l, .string u, .slice da ds.length dc, .slice aa ats.length ac, .slice ka ks.length kc, .string x] 38)) (wr.alloc o)) := fun o => hbw.out.trans (((Below.refl _ wr).alloc (Nat.le_refl _) o).mono hbw.out.size)
              subst ha
              clear hc hst hdl2 hle hnx hzz hza HE hJ hjl hes hv hj2 hys
              have HX0 : Hid _ := heap_alloc_new wr (.cells #[.string y1, .string y2, .string y3, .string y4] 80)
              have HB3 : Hid _ := HB2.out (.cells #[.string y1, .string y2, .string y3, .string y4] 80)
              go_wp2_with fail
              obtain ⟨W4, hW4⟩ : ∃ W4, wr.alloc (.cells #[.string y1, .string y2, .string y3, .string y4] 80) = W4 := ⟨_, rfl⟩
              rw [hW4] at HX0 HB3 ⊢
              clear hW4 HB2
              have hl : ∀ W, Below W4.heap.size W4 W → W.cell? ⟨wr.heap.size, 0, none⟩ = some (.string y1) ∧ W.cell? ⟨wr.heap.size, 1, none⟩ = some (.string y2) ∧ W.cell? ⟨wr.heap.size, 3, none⟩ = some (.string y4) := fun W h => by
                have := (h.block _ (pairs.lt_heap HX0.out)).trans HX0.out
                simp [World.cell?, this]
              refine quiets.wp_region_below (by kernel_rfl) (by kernel_rfl) ?_
              repeat (go_big_quiet_step ((first | (intro hq; rfl) | (intro hq; simp [go_sem, hl _ hq]; rfl) | (intro hq; exact quiets.below_call (HJ2.out _) hq) | (intro hq; exact quiets.below_call (HE2.out _) hq))))
              refine wpQuiet_nil ?_
              intro w6 hb6
              have HB6 : Hid _ := HB3.out.trans (hb6.mono HB3.out.size)
              clear hb6 hl
              go_wp2
              go_roundw
              case rel =>
                refine ⟨i + 1, _, by omega, by go_num, rfl, ?_, ?_, HB6.out⟩
                · have := HNX.out
                  rw [← hae.out] at this
                  unfold valW at this
                  rw [HV.out] at this
                  exact this
                · show _ = _
                  rw [HST.out, ← hae.out]
                  unfold valW
                  rw [HV.out]
              case measure => simp [intOf]; omega
            · obtain rfl : i = ats.length := by omega
              clear hlt hi
              have HF : Hid (openW p l ds ats = a) := by
                show _ = _
                unfold openW
                rw [HJ.out, HO.out, ← HDE.out, ← hae.out]
              by_cases hk0 : ks.length = 0
              · have HR : Hid (nodeW k p l x ds ats ks.length (writeTo ks ks.length) = a ++ ⟨#[47, 62]⟩) := by show _ = _; rw [HEL.out]; unfold elW; rw [if_pos hk0, HF.out]
                have hk1 : ((ks.length : Int) == 0) = true := by rw [hk0]; rfl
                clear hk0
                go_wp2
                go_ret
                exact ⟨ret_str HR.out.symm, HBW.out⟩
              · have HR : Hid (nodeW k p l x ds ats ks.length (writeTo ks ks.length) = a ++ ⟨#[62]⟩ ++ s ++ ⟨#[60, 47]⟩ ++ j ++ ⟨#[62]⟩) := by show _ = _; rw [HEL.out]; unfold elW; rw [if_neg hk0, HF.out, HJ.out, ← HSE.out]
                have hk1 : ((ks.length : Int) == 0) = false := by rw [beq_eq_false_iff_ne]; omega
                clear hk0
                go_wp2
                go_ret
                exact ⟨ret_str HR.out.symm, HBW.out⟩
theorem spec_wr (B : Nat) : ∀ n, ∀ (t : Tree) (h : Hdr) (w : World), tsize t < n → nsz t ≤ 1048576 → NodeIn w B t h → WrOk t h w
  | 0, t, h, w, ht, _, _ => by omega
  | n + 1, t, h, w, ht, hz, hn => wr_of n B (fun t h w ht hz hn => spec_wr B n t h w ht hz hn) t h w (by omega) hz hn
end Go.Proofs.YtmiiilamjbhheaaGreatDoor.trees
namespace Go.Proofs.YtmiiilamjbhheaaGreatDoor.trees
open Go.ChangeShapes Go.WideShapes Go.ChangeAt Go.RowKit
open pairs (Pair at0 PairsAt)
open names (ret_str)
set_option linter.unusedVariables false
theorem wrR_yes {t : Tree} (h : nodeOkB t = true) : wrR t = writeT t := by unfold wrR; rw [h]; rfl
theorem wrR_no {t : Tree} (h : nodeOkB t = false) : wrR t = ⟨#[]⟩ := by unfold wrR; rw [h]; rfl
def WnOk (t : Tree) (h : Hdr) (w : World) : Prop :=
  Calls Tryz.prog 18 #[.agg (vals t h)] w fun e w' => e = .returned (.string (wrR t)) ∧ Below w.heap.size w w'
set_option maxRecDepth 100000 in
set_option maxHeartbeats 2000000 in
theorem spec_write_node (t : Tree) (h : Hdr) (B : Nat) (w : World) (hz : nsz t ≤ 1048576) (hn : NodeIn w B t h) : WnOk t h w := by
  have hO := fun w' (hb : Below w.heap.size w w') => spec_node_ok t h B w' hz (hn.below hb)
  have hW := fun w' (hb : Below w.heap.size w w') => spec_wr B (tsize t + 1) t h w' (by omega) hz (hn.below hb)
  have hyes := @wrR_yes t
  have hno := @wrR_no t
  unfold WnOk
  unfold NodeOkOk at hO
  unfold WrOk at hW
  obtain ⟨s, hs⟩ : ∃ s, wrR t = s := ⟨_, rfl⟩
  obtain ⟨r, hr⟩ : ∃ r, writeT t = r := ⟨_, rfl⟩
  obtain ⟨c, hc⟩ : ∃ c, nodeOkB t = c := ⟨_, rfl⟩
  rw [hs]
  rw [hs, hr, hc] at hyes
  rw [hs, hc] at hno
  rw [hc] at hO
  rw [hr] at hW
  obtain ⟨k, p, l, u, x, ds, ats, ks⟩ := t
  obtain ⟨da, dc, aa, ac, ka, kc⟩ := h
  unfold vals at hO hW ⊢
  simp only [Tree.kind, Tree.pre, Tree.loc, Tree.uri, Tree.text, Tree.ds, Tree.ats, Tree.kids] at hO hW ⊢
  have HO : Hid (∀ w', Below w.heap.size w w' → _) := hO
  have HW : Hid (∀ w', Below w.heap.size w w' → _) := hW
  clear hO hW hn hz hs hr hc
  cases c
  · have HF : Hid _ := hno rfl
    clear hyes hno
    go_enter Tryz.func18, Tryz.ntmps18
    go_wp2_with fail
    refine Calls.mono (HO.out _ ((Below.refl _ _).alloc (Nat.le_refl _) _)) ?_
    rintro e w1 ⟨rfl, hb⟩
    have HB : Hid (Below w.heap.size w w1) := box_under hb
    clear hb
    go_wp2
    go_ret
    exact ⟨ret_str HF.out.symm, HB.out⟩
  · have HF : Hid _ := hyes rfl
    clear hyes hno
    go_enter Tryz.func18, Tryz.ntmps18
    go_wp2_with fail
    refine Calls.mono (HO.out _ ((Below.refl _ _).alloc (Nat.le_refl _) _)) ?_
    rintro e w1 ⟨rfl, hb⟩
    have HB : Hid (Below w.heap.size w w1) := box_under hb
    have HX : Hid _ := box_kept hb
    clear hb
    obtain ⟨b0, b1, b2, b3, b4, b5, b6, b7⟩ := box8 HX.out
    go_wp2_with fail
    refine Calls.mono (HW.out _ HB.out) ?_
    rintro e w2 ⟨rfl, hb⟩
    have HB2 : Hid (Below w.heap.size w w2) := HB.out.trans (hb.mono HB.out.size)
    clear hb
    go_wp2
    go_ret
    exact ⟨ret_str HF.out.symm, HB2.out⟩
set_option maxRecDepth 100000 in
set_option maxHeartbeats 2000000 in
theorem spec_write_all (L : List Tree) (a : Option Addr) (cap B : Nat) (w : World) (hz : nszs L ≤ 1048576) (hL : NodesAt w B a L) :
    Calls Tryz.prog 7 #[.slice a L.length cap] w fun e w' => e = .returned (.string (wrTo L L.length)) ∧ Below w.heap.size w w' := by
  have HL : Hid _ := hL
  have HZ : Hid _ := hz
  have hkl : L.length ≤ 1048576 := by have := nszs_eq L; omega
  clear hL hz
  go_enter Tryz.func7, Tryz.ntmps7
  go_wp2
  go_loopw [3, 4] (fun q t wr => ∃ (i : Nat) (s : ByteArray), i ≤ L.length ∧ t = .int .i64 i ∧ q = .string s ∧ s.size ≤ 30000000 ∧ Hid (s = wrTo L i) ∧ Hid (Below w.heap.size w wr)) (fun _ t _ => L.length - (intOf t).toNat)
  case atStart => exact ⟨0, ⟨#[]⟩, Nat.zero_le _, rfl, rfl, Nat.zero_le _, rfl, Below.refl _ _⟩
  case round =>
    obtain ⟨i, s, hi, rfl, rfl, hss, hse, hbw⟩ := hrel
    by_cases hlt : i < L.length
    · obtain ⟨b, off, ha, hblt, hc⟩ := (HL.out.below hbw.out).row (by omega)
      obtain ⟨h', hnode, hc0, hc1, hc2, hc3, hc4, hc5, hc6, hc7⟩ := hc i hlt
      have hzz := HZ.out
      have hkz := nsz_kid L i hlt
      have hE := spec_write_node (kid L i) h' B wr (by omega) hnode
      have hwl := wrR_len (kid L i)
      have hst : wrTo L (i + 1) = wrTo L i ++ wrR (kid L i) := rfl
      have hwt := wrTo_len L (i + 1)
      have hnt := nszTo_le L (show i + 1 ≤ L.length by omega)
      have hne := nszs_eq L
      have hws : (wrR (kid L i)).size ≤ 13000000 := by omega
      have hnx : (wrTo L (i + 1)).size ≤ 30000000 := by omega
      unfold WnOk at hE
      unfold vals at hE
      generalize wrR (kid L i) = y1 at hE hst hws
      generalize kid L i = y at hc0 hc1 hc2 hc3 hc4 hc5 hc6 hc7 hE
      have HE : Hid _ := hE
      have HST : Hid _ := hst
      have HNX : Hid _ := hnx
      subst ha
      clear hc hE hnode hst hwl hkz hzz hwt hnt hne hnx
      go_wp2_with fail
      refine Calls.mono HE.out ?_
      rintro e w2 ⟨rfl, hb3⟩
      have HB2 : Hid _ := hbw.out.trans (hb3.mono hbw.out.size)
      clear hb3 HE
      go_wp2
      go_roundw
      case rel =>
        have e : s ++ y1 = wrTo L (i + 1) := by rw [HST.out, hse.out]
        exact ⟨i + 1, s ++ y1, by omega, by go_num, rfl, by rw [e]; exact HNX.out, e, HB2.out⟩
      case measure => simp [intOf]; omega
    · obtain rfl : i = L.length := by omega
      go_wp2
      go_ret
      exact ⟨ret_str hse.out, hbw.out⟩
end Go.Proofs.YtmiiilamjbhheaaGreatDoor.trees
namespace Go.Proofs.YtmiiilamjbhheaaGreatDoor.outs
open Go.RowKit Go.Shelf
set_option linter.unusedVariables false
abbrev TT : TypeId := 50
abbrev Bytes (o : ByteArray) : List Value := Lib.byteCells o.data.toList
/-- Block b is such a struct, made since B, whose builder holds o. -/
def IsO (w : World) (B b : Nat) (o : ByteArray) : Prop := Lib.IsBuilderF TT 5 B b (Bytes o) w
theorem IsO.lt {w : World} {B b : Nat} {o : ByteArray} (h : IsO w B b o) : b < w.heap.size := h.elim (fun x => x.lt) (fun x => x.lt)
theorem IsO.below {w w' : World} {B b : Nat} {o : ByteArray} (h : IsO w B b o) (hb : Below w.heap.size w w') : IsO w' B b o := h.elim (fun x => .inl (builders.at_below x hb)) (fun x => .inr (builders.at_below x hb))
theorem made (w : World) (B : Nat) (hB : B ≤ w.heap.size) : IsO (w.alloc (.cells #[.pointer none, .slice none 0 0] TT)) B w.heap.size ⟨#[]⟩ :=
  .inl ⟨hB, .slice none 0 0, heap_alloc_new w _, ⟨by decide, .inl ⟨rfl, rfl⟩⟩, by simp [Value.ownBlock]⟩
set_option maxHeartbeats 1000000 in
set_option maxRecDepth 100000 in
theorem check_fresh (b : Nat) (w : World) (h0 : w.cell? ⟨b, 0, none⟩ = some (.pointer none)) (hsh : w.shape? b = some (TT, 2)) (hfz : w.frozen? ⟨b, 0, none⟩ = false) :
    Calls Tryz.prog 53 #[.pointer (some ⟨b, 0, none⟩)] w fun e w' => e = .returned (.tuple #[]) ∧ w' = w.setCell ⟨b, 0, none⟩ (.pointer (some ⟨b, 0, none⟩)) := by
  obtain ⟨j, hj, hjs⟩ := Option.map_eq_some_iff.1 builders.extraWS.sizeBuilder
  have h1 : (convert 45 111 (.pointer (some ⟨b, 0, none⟩))).run Tryz.prog w = .ok (.pointer (some ⟨b, 0, none⟩)) w := Lib.run_to_unsafe w ⟨b, 0, none⟩ (by kernel_rfl) (by kernel_rfl) hj (by rw [hjs]; decide) hsh (Nat.zero_lt_succ 1)
  have h2 : (convert 111 45 (.pointer (some ⟨b, 0, none⟩))).run Tryz.prog w = .ok (.pointer (some ⟨b, 0, none⟩)) w := Lib.run_from_unsafe w ⟨b, 0, none⟩ (by kernel_rfl) (by kernel_rfl) hj hsh (by kernel_rfl)
  have h3 : (callFunc 63 #[.pointer (some ⟨b, 0, none⟩)]).run Tryz.prog w = .ok (.value (.pointer (some ⟨b, 0, none⟩))) w := by
    show (callFunc (builders.laysWS_ren.f 276) _).run _ _ = _
    rw [run_callFunc_extern builders.laysWS.f276 (by kernel_rfl) (by kernel_rfl) (by kernel_rfl) (e := Extern.AbiNoEscape.same) (by kernel_rfl), Lib.run_noEscape]
    rfl
  go_enter Tryz.func53, Tryz.ntmps53
  go_wp2
  all_goals go_end0
  all_goals exact ⟨rfl, rfl⟩
theorem check (B b : Nat) (bs : List Value) (w : World) (h : Lib.IsBuilderF TT 5 B b bs w) :
    Calls Tryz.prog 53 #[.pointer (some ⟨b, 0, none⟩)] w fun e w' => e = .returned (.tuple #[]) ∧ (Lib.BuilderAtF TT 5 B b (.pointer (some ⟨b, 0, none⟩)) bs w' ∧ Below B w w' ∧ Lib.OthersKept 5 (some b) w w') := by
  rcases h with h | h
  · refine (check_fresh b w h.cell0 h.shape h.frozen0).mono ?_
    rintro e w' ⟨rfl, rfl⟩
    exact ⟨rfl, h.used _, (Below.refl B w).setCell (p := ⟨b, 0, none⟩) h.1 _, (Lib.OthersKept.refl _ _ w).setCell ⟨b, 0, none⟩ rfl _⟩
  · refine (Any.Builder_copyCheck_used { builders.laysWS with } builders.extraWS.toX72 b w h.cell0).mono ?_
    rintro e w' ⟨rfl, rfl⟩
    exact ⟨rfl, h, Below.refl B _, Lib.OthersKept.refl _ _ _⟩
set_option maxHeartbeats 2000000 in
set_option maxRecDepth 100000 in
theorem write_str (B b : Nat) (o s : ByteArray) (w : World) (h : IsO w B b o) (hlen : o.size + s.size ≤ 140737488355328) (hBw : B ≤ w.heap.size) :
    Calls Tryz.prog 33 #[.pointer (some ⟨b, 0, none⟩), .string s] w fun e w' => e = .returned (.tuple #[.int .i64 s.size, .nilIface]) ∧ IsO w' B b (o ++ s) ∧ Below B w w' ∧ Lib.OthersKept 5 (some b) w w' := by
  obtain ⟨i0, hi, hz0, hz1, hz2⟩ := info_parts builders.extraWS.infoByte
  have hbl : (Bytes o).length = o.size := by rw [builders.cells_len, builders.size_list]
  have HK : Hid _ := check B b (Bytes o) w h
  have HL : Hid (o.size + s.size ≤ 140737488355328) := hlen
  clear h hlen
  go_enter Tryz.func33, Tryz.ntmps33
  go_wp2_with fail
  refine Calls.mono HK.out ?_
  rintro e w1 ⟨rfl, h1, hb1, hk1⟩
  obtain ⟨hB, v, hbk, hown, hne⟩ := h1
  have c1 : w1.cell? ⟨b, 1, none⟩ = some v := by rw [Lib.cell_of_heap hbk]; rfl
  go_wp2_with (at_builtin; refine Lib.wpList_append_own_stringF _ rfl _ _ _ _ rfl B 5 i0 (by kernel_rfl) (by kernel_rfl) hi hz0 hz1 hz2 _ _ _ rfl hown s rfl ?c3 ?c4 ?c5 ?_)
  case c3 => have := HL.out; rw [hbl]; unfold maxLen; omega
  case c4 => have := HL.out; rw [hbl]; omega
  case c5 => have := hb1.size; omega
  intro v' w2 hown' hgrow _
  have hlt : b < w1.heap.size := (Array.getElem?_eq_some_iff.1 hbk).1
  have hb2 : w2.heap[b]? = some (.cells #[.pointer (some ⟨b, 0, none⟩), v] TT (0, 0)) := by
    rw [hgrow.block b hlt (fun e => hne e.symm)]
    exact hbk
  have d1 : w2.cell? ⟨b, 1, none⟩ = some v := by rw [Lib.cell_of_heap hb2]; rfl
  have f1 : w2.frozen? ⟨b, 1, none⟩ = false := Lib.frozen_of_heap hb2 1
  obtain ⟨ao, n', cap, rfl⟩ : ∃ ao n' cap, v' = .slice ao n' cap := by
    rcases hown'.2 with ⟨hv, _⟩ | ⟨g, cap, cur, fz, hv, _⟩
    · exact ⟨_, _, _, hv⟩
    · exact ⟨_, _, _, hv⟩
  go_wp2
  go_ret2
  have e1 : Bytes o ++ Lib.strCells s = Bytes (o ++ s) := by show _ = Lib.byteCells _; rw [builders.data_append, builders.cells_append]; rfl
  refine ⟨rfl, .inr ?_, (hb1.grown hgrow (by have := hb1.size; omega) (fun k hk => (hown.lt k hk).1)).setCell (p := ⟨b, 1, none⟩) hB _, (hk1.grown hgrow (Lib.ownsRowF_kind hown)).setCell ⟨b, 1, none⟩ rfl _⟩
  rw [← e1]
  exact Lib.BuilderAtF.put (T := TT) (e := 5) hB hb2 (bs' := Bytes o ++ Lib.strCells s) (by rw [List.length_append, Lib.strCells_length, hbl]; exact hown') (by decide)
set_option maxHeartbeats 2000000 in
set_option maxRecDepth 100000 in
theorem str_some (B b : Nat) (l : List UInt8) (w : World) (h : Lib.IsBuilderF TT 5 B b (Lib.byteCells l) w) (h0 : l ≠ []) :
    Calls Tryz.prog 21 #[.pointer (some ⟨b, 0, none⟩)] w fun e w' => e = .returned (.string ⟨l.toArray⟩) ∧ Below B w w' := by
  obtain ⟨p, hp, hAt⟩ : ∃ p, (p = .pointer none ∨ p = .pointer (some ⟨b, 0, none⟩)) ∧ Lib.BuilderAtF TT 5 B b p (Lib.byteCells l) w := h.elim (fun h => ⟨_, .inl rfl, h⟩) (fun h => ⟨_, .inr rfl, h⟩)
  obtain ⟨hB, v, hbk, hown, hne⟩ := hAt
  have hl0 : l.length ≠ 0 := by simpa using h0
  rw [Lib.byteCells_length] at hown
  obtain ⟨g, cap, cur, fz, rfl, hbg, hg, hfz, hnc, hcm, hcs, htake⟩ : ∃ g cap cur fz, v = .slice (some ⟨g, 0, none⟩) l.length cap ∧ B ≤ g ∧ w.heap[g]? = some (.cells cur 5 fz) ∧ fz.2 ≤ l.length * 1 ∧ l.length ≤ cap ∧ cap ≤ maxLen ∧ cur.size = cap * 1 ∧ cur.toList.take (l.length * 1) = Lib.byteCells l := by
    rcases hown.2 with ⟨_, hz⟩ | ⟨g, cap, cur, fz, hv, r⟩
    · exact absurd hz hl0
    · exact ⟨g, cap, cur, fz, hv, r⟩
  have c1 : w.drew.cell? ⟨b, 1, none⟩ = some (.slice (some ⟨g, 0, none⟩) l.length cap) := by
    have : w.drew.heap[b]? = some (.cells #[p, .slice (some ⟨g, 0, none⟩) l.length cap] TT (0, 0)) := hbk
    rw [Lib.cell_of_heap this]; rfl
  have hSD : (Builtin.unsafeSliceData_ #[46] 71 #[.slice (some ⟨g, 0, none⟩) l.length cap]).run Tryz.prog w.drew = .ok (.pointer (some ⟨g, 0, none⟩)) w.drew :=
    Lib.run_unsafeSliceData_row _ _ _ _ _ _ (by omega)
  have hUS : (Builtin.unsafeString_ #[71, 3] 9 #[.pointer (some ⟨g, 0, none⟩), .int .i64 l.length]).run Tryz.prog w.drew = .ok (.string ⟨l.toArray⟩) (w.drew.freeze ⟨g, 0, none⟩ l.length) := by
    refine Lib.run_unsafeString_row w.drew _ _ _ 5 (by kernel_rfl) builders.extraST.cellsByte g cur.size (by have hg' : w.drew.heap[g]? = some (.cells cur 5 fz) := hg; simp [World.shape?, hg']) l h0 (by omega) (by unfold maxLen at hcm; omega) ?_
    intro j x hx
    exact hown.cells (g := g) rfl j (.int .u8 x.toNat) (by simp [Lib.byteCells, hx])
  have mixed : Tryz.prog.follows Departure.mixedOrders = true := by kernel_rfl
  go_enter Tryz.func21, Tryz.ntmps21
  go_wp2
  go_region_o
  all_goals (go_wp2; go_ret; exact ⟨rfl, Lib.below_freeze (Below.drew (Below.refl B w)) (p := ⟨g, 0, none⟩) hbg _⟩)
set_option maxHeartbeats 2000000 in
set_option maxRecDepth 100000 in
theorem str_none (B b : Nat) (w : World) (h : Lib.IsBuilderF TT 5 B b [] w) (hBw : B ≤ w.heap.size) :
    Calls Tryz.prog 21 #[.pointer (some ⟨b, 0, none⟩)] w fun e w' => e = .returned (.string ⟨#[]⟩) ∧ Below B w w' := by
  obtain ⟨p, hp, hAt⟩ : ∃ p, (p = .pointer none ∨ p = .pointer (some ⟨b, 0, none⟩)) ∧ Lib.BuilderAtF TT 5 B b p [] w := h.elim (fun h => ⟨_, .inl rfl, h⟩) (fun h => ⟨_, .inr rfl, h⟩)
  have mixed : Tryz.prog.follows Departure.mixedOrders = true := by kernel_rfl
  have hUS : ∀ (W : World) (q : Option Addr), (Builtin.unsafeString_ #[71, 3] 9 #[.pointer q, .int .i64 0]).run Tryz.prog W = .ok (.string .empty) W := fun W q => Lib.run_unsafeString_none W _ _ _ q
  obtain ⟨hB, v, hbk, hown, hne⟩ := hAt
  have hlt : b < w.heap.size := (Array.getElem?_eq_some_iff.1 hbk).1
  rcases hown.2 with ⟨rfl, _⟩ | ⟨g, cap, cur, fz, rfl, hbg, hg, _, _, _, _, _⟩
  · have c1 : w.drew.cell? ⟨b, 1, none⟩ = some (.slice none 0 0) := by
      have : w.drew.heap[b]? = some (.cells #[p, .slice none 0 0] TT (0, 0)) := hbk
      rw [Lib.cell_of_heap this]; rfl
    have hSD : (Builtin.unsafeSliceData_ #[46] 71 #[.slice none 0 0]).run Tryz.prog w.drew = .ok (.pointer none) w.drew := rfl
    go_enter Tryz.func21, Tryz.ntmps21
    go_wp2
    go_region_o
    all_goals (go_wp2; go_ret; exact ⟨rfl, Below.drew (Below.refl B w)⟩)
  · by_cases hc0 : cap = 0
    · subst hc0
      have c1 : w.drew.cell? ⟨b, 1, none⟩ = some (.slice (some ⟨g, 0, none⟩) 0 0) := by
        have : w.drew.heap[b]? = some (.cells #[p, .slice (some ⟨g, 0, none⟩) 0 0] TT (0, 0)) := hbk
        rw [Lib.cell_of_heap this]; rfl
      have hSD : (Builtin.unsafeSliceData_ #[46] 71 #[.slice (some ⟨g, 0, none⟩) 0 0]).run Tryz.prog w.drew = .ok (.pointer (some ⟨w.drew.heap.size, 0, none⟩)) (w.drew.alloc (.view ⟨g, 0, none⟩ 5)) :=
        Lib.run_unsafeSliceData_zero w.drew _ _ 5 (by kernel_rfl) ⟨g, 0, none⟩ 0 (5, cur.size) (by have hg' : w.drew.heap[g]? = some (.cells cur 5 _) := hg; simp [World.shape?, hg'])
      have c2 : (w.drew.alloc (.view ⟨g, 0, none⟩ 5)).cell? ⟨b, 1, none⟩ = some (.slice (some ⟨g, 0, none⟩) 0 0) := by
        have : (w.drew.alloc (.view ⟨g, 0, none⟩ 5)).heap[b]? = _ := (Lib.alloc_old w.drew _ b hlt).trans hbk
        rw [Lib.cell_of_heap this]; rfl
      have c3 : (w.alloc (.view ⟨g, 0, none⟩ 5)).drew.cell? ⟨b, 1, none⟩ = some (.slice (some ⟨g, 0, none⟩) 0 0) := c2
      have c0 : w.cell? ⟨b, 1, none⟩ = some (.slice (some ⟨g, 0, none⟩) 0 0) := c1
      go_enter Tryz.func21, Tryz.ntmps21
      go_wp2
      go_region_o
      all_goals (go_wp2; go_ret; exact ⟨rfl, (Below.drew (Below.refl B w)).alloc hBw _⟩)
    · have c1 : w.drew.cell? ⟨b, 1, none⟩ = some (.slice (some ⟨g, 0, none⟩) 0 cap) := by
        have : w.drew.heap[b]? = some (.cells #[p, .slice (some ⟨g, 0, none⟩) 0 cap] TT (0, 0)) := hbk
        rw [Lib.cell_of_heap this]; rfl
      have hSD : (Builtin.unsafeSliceData_ #[46] 71 #[.slice (some ⟨g, 0, none⟩) 0 cap]).run Tryz.prog w.drew = .ok (.pointer (some ⟨g, 0, none⟩)) w.drew :=
        Lib.run_unsafeSliceData_row _ _ _ _ _ _ hc0
      clear hc0
      go_enter Tryz.func21, Tryz.ntmps21
      go_wp2
      go_region_o
      all_goals (go_wp2; go_ret; exact ⟨rfl, Below.drew (Below.refl B w)⟩)
theorem to_str (B b : Nat) (o : ByteArray) (w : World) (h : IsO w B b o) (hBw : B ≤ w.heap.size) :
    Calls Tryz.prog 21 #[.pointer (some ⟨b, 0, none⟩)] w fun e w' => e = .returned (.string o) ∧ Below B w w' := by
  obtain ⟨⟨l⟩⟩ := o
  cases l with
  | nil => exact str_none B b w h hBw
  | cons x r => exact str_some B b (x :: r) w h (by simp)
end Go.Proofs.YtmiiilamjbhheaaGreatDoor.outs
namespace Go.Proofs.YtmiiilamjbhheaaGreatDoor.sinks
open Go.ChangeShapes Go.WideShapes Go.ChangeAt Go.RowKit
open trees (valW xmlnsW declW attW catTo)
set_option linter.unusedVariables false
/-- All but block b stands as it stood (the rows of bytes apart). -/
abbrev Kp (b : Nat) (w w' : World) : Prop := Lib.OthersKept 5 (some b) w w'
theorem kp_below {b : Nat} {w w' : World} (h : Below w.heap.size w w') : Kp b w w' := fun k o hk _ _ => (h.block k (Array.getElem?_eq_some_iff.1 hk).1).trans hk
theorem Kp.box {b q : Nat} {w w' : World} {C : Array Value} {t : TypeId} (h : Kp b w w') (hq : w.heap[q]? = some (.cells C t (0, 0))) (hb : q ≠ b) (ht : t ≠ 5) : w'.heap[q]? = some (.cells C t (0, 0)) :=
  h q _ hq (fun e => hb (Option.some.inj e)) (fun c fz e => by injection e with _ e2 _; exact ht e2)
/-- What a function of pieces does, called with rv ahead of them: R says what it has taken. -/
structure Sink (w0 : World) (b : Nat) (F : FuncId) (rv : Value) (R : World → ByteArray → Prop) : Prop where
  bel : ∀ {w o}, R w o → Below w0.heap.size w0 w
  lt : ∀ {w o}, R w o → b < w.heap.size
  below : ∀ {w w' o}, R w o → Below w.heap.size w w' → R w' o
  put : ∀ (w : World) (o : ByteArray) (g : Nat) (L : List ByteArray), R w o → g ≠ b → w.heap[g]? = some (.cells (L.map Value.string).toArray 9 (0, 0)) → L.length ≤ 5 → (catTo o L).size ≤ 1000000000 →
    Calls Tryz.prog F #[rv, .slice (some ⟨g, 0, none⟩) L.length L.length] w fun e w' => e = .returned (.tuple #[]) ∧ R w' (catTo o L) ∧ Kp b w w'
section
variable {w0 w : World} {b : Nat} {F : FuncId} {rv : Value} {R : World → ByteArray → Prop} {o : ByteArray}
theorem Sink.puts (S : Sink w0 b F rv R) (hR : R w o) (L : List ByteArray) (hL : L.length ≤ 5) (hz : (catTo o L).size ≤ 1000000000) :
    Calls Tryz.prog F #[rv, .slice (some ⟨w.heap.size, 0, none⟩) L.length L.length] (w.alloc (.cells (L.map Value.string).toArray 9)) fun e w' => e = .returned (.tuple #[]) ∧ R w' (catTo o L) ∧ Kp b w w' := by
  have hb : Below w.heap.size w (w.alloc (.cells (L.map Value.string).toArray 9)) := (Below.refl _ _).alloc (Nat.le_refl _) _
  refine (S.put _ o w.heap.size L (S.below hR hb) (fun e => by have := S.lt hR; omega) (heap_alloc_new w _) hL hz).mono ?_
  rintro e w' ⟨h1, h2, h3⟩
  exact ⟨h1, h2, (kp_below hb).trans h3⟩
theorem Sink.put1 (S : Sink w0 b F rv R) (hR : R w o) (x : ByteArray) (hz : (o ++ x).size ≤ 1000000000) :
    Calls Tryz.prog F #[rv, .slice (some ⟨w.heap.size, 0, none⟩) 1 1] (w.alloc (.cells #[.string x] 9)) fun e w' => e = .returned (.tuple #[]) ∧ R w' (o ++ x) ∧ Kp b w w' := S.puts hR [x] (by simp) hz
theorem Sink.put2 (S : Sink w0 b F rv R) (hR : R w o) (x y : ByteArray) (hz : (o ++ x ++ y).size ≤ 1000000000) :
    Calls Tryz.prog F #[rv, .slice (some ⟨w.heap.size, 0, none⟩) 2 2] (w.alloc (.cells #[.string x, .string y] 9)) fun e w' => e = .returned (.tuple #[]) ∧ R w' (o ++ x ++ y) ∧ Kp b w w' := S.puts hR [x, y] (by simp) hz
theorem Sink.put3 (S : Sink w0 b F rv R) (hR : R w o) (x y z : ByteArray) (hz : (o ++ x ++ y ++ z).size ≤ 1000000000) :
    Calls Tryz.prog F #[rv, .slice (some ⟨w.heap.size, 0, none⟩) 3 3] (w.alloc (.cells #[.string x, .string y, .string z] 9)) fun e w' => e = .returned (.tuple #[]) ∧ R w' (o ++ x ++ y ++ z) ∧ Kp b w w' := S.puts hR [x, y, z] (by simp) hz
theorem Sink.put5 (S : Sink w0 b F rv R) (hR : R w o) (x y z u v : ByteArray) (hz : (o ++ x ++ y ++ z ++ u ++ v).size ≤ 1000000000) :
    Calls Tryz.prog F #[rv, .slice (some ⟨w.heap.size, 0, none⟩) 5 5] (w.alloc (.cells #[.string x, .string y, .string z, .string u, .string v] 9)) fun e w' => e = .returned (.tuple #[]) ∧ R w' (o ++ x ++ y ++ z ++ u ++ v) ∧ Kp b w w' := S.puts hR [x, y, z, u, v] (by simp) hz
end
/-! ### The builder of a writtenText -/
def RB (w0 : World) (b : Nat) (w : World) (o : ByteArray) : Prop := outs.IsO w w0.heap.size b o ∧ Below w0.heap.size w0 w
theorem at_piece {w : World} {g : Nat} {L : List ByteArray} (h : w.heap[g]? = some (.cells (L.map Value.string).toArray 9 (0, 0))) {i : Nat} (hi : i < L.length) : w.cell? ⟨g, i, none⟩ = some (.string (L.getD i ⟨#[]⟩)) := by
  simp [World.cell?, h, hi]
theorem take_piece {L : List ByteArray} {i : Nat} (hi : i < L.length) : L.take (i + 1) = L.take i ++ [L.getD i ⟨#[]⟩] := by
  rw [List.take_succ_eq_append_getElem hi]
  simp [hi]
theorem cat_take_le (o : ByteArray) (L : List ByteArray) (i : Nat) : (catTo o (L.take i)).size ≤ (catTo o L).size := by
  have h : catTo o L = catTo (catTo o (L.take i)) (L.drop i) := by rw [← trees.catTo_append, List.take_append_drop]
  rw [h]
  exact trees.catTo_size _ _
set_option maxRecDepth 100000 in
set_option maxHeartbeats 2000000 in
theorem put_any (w0 : World) (b : Nat) (w : World) (o : ByteArray) (g : Nat) (L : List ByteArray) (hR : RB w0 b w o) (hgb : g ≠ b) (hg : w.heap[g]? = some (.cells (L.map Value.string).toArray 9 (0, 0))) (hL : L.length ≤ 5) (hz : (catTo o L).size ≤ 1000000000) :
    Calls Tryz.prog 20 #[.pointer (some ⟨b, 0, none⟩), .slice (some ⟨g, 0, none⟩) L.length L.length] w fun e w' => e = .returned (.tuple #[]) ∧ RB w0 b w' (catTo o L) ∧ Kp b w w' := by
  have HR : Hid _ := hR
  have HG : Hid _ := hg
  have HZ : Hid _ := hz
  clear hR hg hz
  go_enter Tryz.func20, Tryz.ntmps20
  go_wp2
  go_loopw [8] (fun t wr => ∃ i : Nat, i ≤ L.length ∧ t = .int .i64 i ∧ Hid (RB w0 b wr (catTo o (L.take i))) ∧ Hid (Kp b w wr)) (fun t _ => L.length - (intOf t).toNat)
  case atStart => exact ⟨0, Nat.zero_le _, rfl, HR.out, Lib.OthersKept.refl _ _ _⟩
  case round =>
    obtain ⟨i, hi, rfl, hR, hK⟩ := hrel
    by_cases hlt : i < L.length
    · have hc := at_piece (hK.out.box HG.out hgb (by decide)) hlt
      have hcs := cat_take_le o L (i + 1)
      rw [take_piece hlt, trees.catTo_append] at hcs
      have HT : Hid (L.take (i + 1) = L.take i ++ [L.getD i ⟨#[]⟩]) := take_piece hlt
      obtain ⟨x, hx⟩ : ∃ x, L.getD i ⟨#[]⟩ = x := ⟨_, rfl⟩
      rw [hx] at hc hcs HT
      clear hx
      have hsz : (catTo o (L.take i)).size + x.size ≤ 140737488355328 := by
        have h1 : catTo (catTo o (L.take i)) [x] = catTo o (L.take i) ++ x := rfl
        rw [h1, ByteArray.size_append] at hcs
        have := HZ.out
        omega
      have HW : Hid _ := outs.write_str w0.heap.size b (catTo o (L.take i)) x wr hR.out.1 hsz hR.out.2.size
      clear hsz hcs
      go_wp2_with fail
      refine Calls.mono HW.out ?_
      rintro e w2 ⟨rfl, h1, h2, h3⟩
      have HR2 : Hid (RB w0 b w2 (catTo o (L.take (i + 1)))) := by
        refine ⟨?_, hR.out.2.trans h2⟩
        rw [HT.out, trees.catTo_append]
        exact h1
      have HK2 : Hid (Kp b w w2) := hK.out.trans h3
      clear h1 h2 h3
      go_wp2
      go_roundw
      case rel => exact ⟨i + 1, by omega, by go_num, HR2.out, HK2.out⟩
      case measure => simp [intOf]; omega
    · obtain rfl : i = L.length := by omega
      have HF : Hid (RB w0 b wr (catTo o L)) := by have := hR.out; rw [List.take_length] at this; exact this
      go_wp2
      go_end0
      exact ⟨rfl, HF.out, hK.out⟩
theorem sink_text (w0 : World) (b : Nat) : Sink w0 b 20 (.pointer (some ⟨b, 0, none⟩)) (RB w0 b) :=
  ⟨fun h => h.2, fun h => h.1.lt, fun h hb => ⟨h.1.below hb, h.2.trans (hb.mono h.2.size)⟩, fun w o g L hR hgb hg hL hz => put_any w0 b w o g L hR hgb hg hL hz⟩
end Go.Proofs.YtmiiilamjbhheaaGreatDoor.sinks
namespace Go.Proofs.YtmiiilamjbhheaaGreatDoor.sinks
open Go.ChangeShapes Go.WideShapes Go.ChangeAt Go.RowKit
open pairs (Pair at0 PairsAt)
open trees (Att Tree Hdr vals tsize ksize nsz nszs nszTo kid att0 NodeIn NodesAt AttsAt NTabs smallA asizeTo valW xmlnsW declW attW openW elW noteW toldW nodeW writeT writeL writeTo catTo box_kept box_under cells1 cells2 cells4 cells6 lt_none)
open names (joinR)
open escs (escS)
set_option linter.unusedVariables false
theorem impl_declName (p : ByteArray) (w : World) (hp : p.size ≤ 1048576) : Calls Tryz.prog 60 #[.string p] w fun e w' => e = .returned (.string (xmlnsW p)) ∧ w' = w := by
  cases he : (p.toList == (⟨#[]⟩ : ByteArray).toList)
  · have HF : Hid _ := trees.xmlns_some he
    rw [lt_none] at he
    go_enter Tryz.func60, Tryz.ntmps60
    go_wp2
    go_ret
    exact ⟨names.ret_str HF.out.symm, rfl⟩
  · have HF : Hid _ := trees.xmlns_none he
    rw [lt_none] at he
    go_enter Tryz.func60, Tryz.ntmps60
    go_wp2
    go_ret
    exact ⟨names.ret_str HF.out.symm, rfl⟩
section
variable {w0 : World} {b : Nat} {F : FuncId} {rv : Value} {R : World → ByteArray → Prop}
set_option maxRecDepth 100000 in
set_option maxHeartbeats 2000000 in
theorem impl_val (HS : Hid (Sink w0 b F rv R)) (hen : ∀ args w, (callFunc F args).run Tryz.prog w = .ok (.enter F args) w) (o n v : ByteArray) (W : World) (hR : R W o) (hv : v.size ≤ 1048576) (hz : (valW o n v).size ≤ 1000000000) :
    Calls Tryz.prog 59 #[.string n, .string v, .func (.func F) #[rv] #[]] W fun e w' => e = .returned (.tuple #[]) ∧ R w' (valW o n v) ∧ Kp b W w' := by
  have HE : Hid (∀ w, _) := fun w => escs.impl_escAttr v w hv
  have HR : Hid _ := hR
  have HZ : Hid _ := hz
  clear hR hz
  go_enter Tryz.func59, Tryz.ntmps59
  go_wp2_with fail
  refine (HE.out _).mono ?_
  rintro e w1 ⟨rfl, hb1⟩
  have HR1 : Hid _ := HS.out.below HR.out hb1
  have HK1 : Hid (Kp b W w1) := kp_below hb1
  have HP : Hid _ := HS.out.put5 HR1.out ⟨#[32]⟩ n ⟨#[61, 34]⟩ (escS true v) ⟨#[34]⟩ HZ.out
  clear hb1
  go_wp2_with fail
  refine Calls.mono HP.out ?_
  rintro e w2 ⟨rfl, h1, h2⟩
  have HR2 : Hid _ := h1
  have HK2 : Hid (Kp b W w2) := HK1.out.trans h2
  clear h1 h2
  go_wp2
  go_end0
  exact ⟨rfl, HR2.out, HK2.out⟩
set_option maxRecDepth 100000 in
set_option maxHeartbeats 2000000 in
theorem impl_toldW (HS : Hid (Sink w0 b F rv R)) (hen : ∀ args w, (callFunc F args).run Tryz.prog w = .ok (.enter F args) w) (o l x : ByteArray) (W : World) (hR : R W o) (hl : l.size ≤ 1048576) (hx : x.size ≤ 1048576) (hz : o.size ≤ 900000000) :
    Calls Tryz.prog 52 #[.agg #[.string l, .string x], .func (.func F) #[rv] #[]] W fun e w' => e = .returned (.tuple #[]) ∧ R w' (o ++ toldW l x) ∧ Kp b W w' := by
  have HR : Hid _ := HS.out.below hR ((Below.refl _ _).alloc (Nat.le_refl _) (.cells #[.string l, .string x] 103))
  have HL : Hid (b < W.heap.size) := HS.out.lt hR
  have HZ1 : Hid ((o ++ ⟨#[60, 63]⟩ ++ l).size ≤ 1000000000) := by show _ ≤ _; simp only [ByteArray.size_append]; show _ + 2 + _ ≤ _; omega
  have HZ2 : Hid ((o ++ ⟨#[60, 63]⟩ ++ l ++ ⟨#[32]⟩ ++ x).size ≤ 1000000000) := by show _ ≤ _; simp only [ByteArray.size_append]; show _ + 2 + _ + 1 + _ ≤ _; omega
  have HZ3 : Hid ((o ++ ⟨#[60, 63]⟩ ++ l ++ ⟨#[32]⟩ ++ x ++ ⟨#[63, 62]⟩).size ≤ 1000000000) := by show _ ≤ _; simp only [ByteArray.size_append]; show _ + 2 + _ + 1 + _ + 2 ≤ _; omega
  have HZ4 : Hid ((o ++ ⟨#[60, 63]⟩ ++ l ++ ⟨#[63, 62]⟩).size ≤ 1000000000) := by show _ ≤ _; simp only [ByteArray.size_append]; show _ + 2 + _ + 2 ≤ _; omega
  have HX0 : Hid _ := heap_alloc_new W (.cells #[.string l, .string x] 103)
  have HK0 : Hid (Kp b W (W.alloc (.cells #[.string l, .string x] 103))) := kp_below ((Below.refl _ _).alloc (Nat.le_refl _) _)
  clear hR hz
  cases he : (x.toList == (⟨#[]⟩ : ByteArray).toList)
  · have HF : Hid _ := trees.toldW_some (l := l) he
    rw [lt_none] at he
    go_enter Tryz.func52, Tryz.ntmps52
    obtain ⟨W1, hW1⟩ : ∃ W1, W.alloc (.cells #[.string l, .string x] 103) = W1 := ⟨_, rfl⟩
    rw [hW1] at HR HX0 HK0
    obtain ⟨c0, c1⟩ := cells2 HX0.out
    have HP : Hid _ := HS.out.put2 HR.out ⟨#[60, 63]⟩ l HZ1.out
    go_wp2_with fail
    clear hW1
    refine Calls.mono HP.out ?_
    rintro e w2 ⟨rfl, h1, h2⟩
    have HX2 : Hid _ := h2.box HX0.out (by have := HL.out; omega) (by decide)
    have HK2 : Hid (Kp b W w2) := HK0.out.trans h2
    have HP2 : Hid _ := HS.out.put2 h1 ⟨#[32]⟩ x HZ2.out
    clear h1 h2 c0 c1
    obtain ⟨c0, c1⟩ := cells2 HX2.out
    go_wp2_with fail
    refine Calls.mono HP2.out ?_
    rintro e w3 ⟨rfl, h1, h2⟩
    have HK3 : Hid (Kp b W w3) := HK2.out.trans h2
    have HP3 : Hid _ := HS.out.put1 h1 ⟨#[63, 62]⟩ HZ3.out
    clear h1 h2 c0 c1
    go_wp2_with fail
    refine Calls.mono HP3.out ?_
    rintro e w4 ⟨rfl, h1, h2⟩
    have HK4 : Hid (Kp b W w4) := HK3.out.trans h2
    have HR4 : Hid (R w4 (o ++ toldW l x)) := by rw [HF.out]; simp only [ByteArray.append_assoc] at h1 ⊢; exact h1
    clear h1 h2
    go_wp2
    go_end0
    exact ⟨rfl, HR4.out, HK4.out⟩
  · have HF : Hid _ := trees.toldW_none (l := l) he
    rw [lt_none] at he
    go_enter Tryz.func52, Tryz.ntmps52
    obtain ⟨W1, hW1⟩ : ∃ W1, W.alloc (.cells #[.string l, .string x] 103) = W1 := ⟨_, rfl⟩
    rw [hW1] at HR HX0 HK0
    obtain ⟨c0, c1⟩ := cells2 HX0.out
    have HP : Hid _ := HS.out.put2 HR.out ⟨#[60, 63]⟩ l HZ1.out
    go_wp2_with fail
    clear hW1
    refine Calls.mono HP.out ?_
    rintro e w2 ⟨rfl, h1, h2⟩
    have HX2 : Hid _ := h2.box HX0.out (by have := HL.out; omega) (by decide)
    have HK2 : Hid (Kp b W w2) := HK0.out.trans h2
    have HP2 : Hid _ := HS.out.put1 h1 ⟨#[63, 62]⟩ HZ4.out
    clear h1 h2 c0 c1
    obtain ⟨c0, c1⟩ := cells2 HX2.out
    go_wp2_with fail
    refine Calls.mono HP2.out ?_
    rintro e w3 ⟨rfl, h1, h2⟩
    have HK3 : Hid (Kp b W w3) := HK2.out.trans h2
    have HR3 : Hid (R w3 (o ++ toldW l x)) := by rw [HF.out]; simp only [ByteArray.append_assoc] at h1 ⊢; exact h1
    clear h1 h2
    go_wp2
    go_end0
    exact ⟨rfl, HR3.out, HK3.out⟩
end
end Go.Proofs.YtmiiilamjbhheaaGreatDoor.sinks
namespace Go.Proofs.YtmiiilamjbhheaaGreatDoor.sinks
open Go.ChangeShapes Go.WideShapes Go.ChangeAt Go.RowKit
open pairs (Pair at0 PairsAt)
open trees (Att Tree Hdr vals tsize ksize nsz nszs nszTo kid att0 NodeIn NodesAt AttsAt NTabs smallA asizeTo valW xmlnsW declW attW openW elW noteW toldW nodeW writeT writeL writeTo catTo box_kept box_under cells1 cells2 cells4 cells6 lt_none)
open names (joinR)
open escs (escS)
set_option linter.unusedVariables false
/-! ### All kinds are known -/
mutual
def kindsT : Tree → Bool
  | .mk k _ _ _ _ _ _ ks => (k == 0 || (k == 1 || (k == 2 || (k == 3 || k == 4)))) && kindsL ks
def kindsL : List Tree → Bool
  | [] => true
  | t :: ts => kindsT t && kindsL ts
end
theorem kindsL_kid : ∀ (L : List Tree) (i : Nat), kindsL L = true → i < L.length → kindsT (kid L i) = true
  | [], _, _, h => by cases h
  | t :: ts, 0, hk, _ => by rw [kindsL, Bool.and_eq_true] at hk; exact hk.1
  | t :: ts, i + 1, hk, hi => by rw [kindsL, Bool.and_eq_true] at hk; exact kindsL_kid ts i hk.2 (by simpa using hi)
theorem kinds_alone {t : Tree} (h : trees.aloneB t = true) : (t.kind == 0 || (t.kind == 1 || (t.kind == 2 || (t.kind == 3 || t.kind == 4)))) = true := by
  unfold trees.aloneB trees.oneB at h
  cases h0 : (t.kind == 0)
  · cases h1 : (t.kind == 1)
    · cases h2 : (t.kind == 2)
      · cases h3 : (t.kind == 3)
        · cases h4 : (t.kind == 4)
          · rw [h0, h1, h2, h3, h4] at h; cases h
          · rfl
        · rfl
      · rfl
    · rfl
  · rfl
mutual
theorem kinds_right : ∀ t : Tree, trees.rightT t = true → kindsT t = true
  | .mk k p l u x ds ats ks, h => by
    rw [trees.rightT, Bool.and_eq_true] at h
    rw [kindsT, kinds_rightL ks h.2, Bool.and_true]
    exact kinds_alone h.1
theorem kinds_rightL : ∀ L : List Tree, trees.rightL L = true → kindsL L = true
  | [], _ => by rw [kindsL]
  | t :: ts, h => by
    rw [trees.rightL, Bool.and_eq_true, Bool.and_eq_true] at h
    rw [kindsL, kinds_right t h.1.2, kinds_rightL ts h.2]
    rfl
end
theorem kinds_ok {t : Tree} (h : trees.nodeOkB t = true) : kindsT t = true := by
  rw [trees.node_ok_right, Bool.and_eq_true, Bool.and_eq_true] at h
  exact kinds_right t h.2.2
theorem row_kid {w0 wr : World} {B : Nat} {a : Option Addr} {L : List Tree} {i : Nat} (hL : NodesAt w0 B a L) (hb : Below w0.heap.size w0 wr) (hi : i < L.length) : ∃ bk off, a = some ⟨bk, off, none⟩ ∧ ∃ h, NodeIn w0 B (kid L i) h ∧
    wr.cell? ⟨bk, off + i * 8, none⟩ = some (.int .i64 (kid L i).kind) ∧ wr.cell? ⟨bk, off + i * 8 + 1, none⟩ = some (.string (kid L i).pre) ∧ wr.cell? ⟨bk, off + i * 8 + 2, none⟩ = some (.string (kid L i).loc) ∧ wr.cell? ⟨bk, off + i * 8 + 3, none⟩ = some (.string (kid L i).uri) ∧
    wr.cell? ⟨bk, off + i * 8 + 4, none⟩ = some (.slice h.da (kid L i).ds.length h.dc) ∧ wr.cell? ⟨bk, off + i * 8 + 5, none⟩ = some (.slice h.aa (kid L i).ats.length h.ac) ∧ wr.cell? ⟨bk, off + i * 8 + 6, none⟩ = some (.slice h.ka (kid L i).kids.length h.kc) ∧ wr.cell? ⟨bk, off + i * 8 + 7, none⟩ = some (.string (kid L i).text) := by
  obtain ⟨bk, off, ha, hlt, hc⟩ := hL.row (by omega)
  obtain ⟨h, hn, c⟩ := hc i hi
  refine ⟨bk, off, ha, h, hn, ?_⟩
  rw [hb.cell (p := ⟨bk, off + i * 8, none⟩) hlt, hb.cell (p := ⟨bk, off + i * 8 + 1, none⟩) hlt, hb.cell (p := ⟨bk, off + i * 8 + 2, none⟩) hlt, hb.cell (p := ⟨bk, off + i * 8 + 3, none⟩) hlt, hb.cell (p := ⟨bk, off + i * 8 + 4, none⟩) hlt, hb.cell (p := ⟨bk, off + i * 8 + 5, none⟩) hlt, hb.cell (p := ⟨bk, off + i * 8 + 6, none⟩) hlt, hb.cell (p := ⟨bk, off + i * 8 + 7, none⟩) hlt]
  exact c
section
variable {w0 : World} {b : Nat} {F : FuncId} {rv : Value} {R : World → ByteArray → Prop}
def WrotOk (b : Nat) (F : FuncId) (rv : Value) (R : World → ByteArray → Prop) (t : Tree) (h : Hdr) (W : World) (o : ByteArray) : Prop :=
  Calls Tryz.prog 32 #[.agg (vals t h), .func (.func F) #[rv] #[]] W fun e w' => e = .returned (.tuple #[]) ∧ R w' (o ++ writeT t) ∧ Kp b W w'
def KidsWOk (b : Nat) (F : FuncId) (rv : Value) (R : World → ByteArray → Prop) (L : List Tree) (a : Option Addr) (cap : Nat) (W : World) (o : ByteArray) : Prop :=
  Calls Tryz.prog 49 #[.slice a L.length cap, .func (.func F) #[rv] #[]] W fun e w' => e = .returned (.tuple #[]) ∧ R w' (o ++ writeTo L L.length) ∧ Kp b W w'
set_option maxRecDepth 100000 in
set_option maxHeartbeats 4000000 in
theorem kids_of (n B : Nat) (HS : Hid (Sink w0 b F rv R)) (hen : ∀ args w, (callFunc F args).run Tryz.prog w = .ok (.enter F args) w)
    (ih : ∀ t h W o, tsize t < n → nsz t ≤ 1048576 → kindsT t = true → NodeIn w0 B t h → R W o → o.size + 12 * nsz t + 12 ≤ 500000000 → WrotOk b F rv R t h W o)
    (L : List Tree) (a : Option Addr) (cap : Nat) (W : World) (o : ByteArray) (hn : ksize L < n) (hz : nszs L ≤ 1048576) (hk : kindsL L = true) (hL : NodesAt w0 B a L) (hR : R W o) (ho : o.size + 12 * nszs L ≤ 500000000) : KidsWOk b F rv R L a cap W o := by
  have HL : Hid _ := hL
  have HR : Hid _ := hR
  have HZ : Hid (ksize L < n ∧ nszs L ≤ 1048576 ∧ kindsL L = true ∧ o.size + 12 * nszs L ≤ 500000000) := ⟨hn, hz, hk, ho⟩
  have hkl : L.length ≤ 1048576 := by have := trees.nszs_eq L; omega
  have HIH : Hid (∀ t h W o, tsize t < n → nsz t ≤ 1048576 → kindsT t = true → NodeIn w0 B t h → R W o → o.size + 12 * nsz t + 12 ≤ 500000000 → WrotOk b F rv R t h W o) := ih
  clear ih hL hR hn hz hk ho
  unfold KidsWOk
  go_enter Tryz.func49, Tryz.ntmps49
  go_wp2
  go_loopw [8] (fun t wr => ∃ i : Nat, i ≤ L.length ∧ t = .int .i64 i ∧ Hid (R wr (o ++ writeTo L i)) ∧ Hid (Kp b W wr)) (fun t _ => L.length - (intOf t).toNat)
  case atStart => exact ⟨0, Nat.zero_le _, rfl, (by show R W (o ++ ByteArray.empty); rw [ByteArray.append_empty]; exact HR.out), Lib.OthersKept.refl _ _ _⟩
  case round =>
    obtain ⟨i, hi, rfl, hR, hK⟩ := hrel
    by_cases hlt : i < L.length
    · obtain ⟨bk, off, ha, h', hnode, hc0, hc1, hc2, hc3, hc4, hc5, hc6, hc7⟩ := row_kid HL.out (HS.out.bel hR.out) hlt
      have hE := fun ob => HIH.out (kid L i) h' (wr.alloc ob) (o ++ writeTo L i) (Nat.lt_of_le_of_lt (trees.ksize_kid L i hlt) HZ.out.1) (Nat.le_trans (trees.nsz_kid L i hlt) HZ.out.2.1) (kindsL_kid L i HZ.out.2.2.1 hlt) hnode (HS.out.below hR.out ((Below.refl _ _).alloc (Nat.le_refl _) ob)) (by
        have h1 := trees.wrTo_len L i
        have h2 := HZ.out.2.2.2
        have h3 := trees.nszs_eq L
        have h4 := trees.nszTo_le L (show i + 1 ≤ L.length by omega)
        have h5 : nszTo L (i + 1) = nszTo L i + nsz (kid L i) := rfl
        have h6 : (writeTo L i).size ≤ 12 * (i + nszTo L i) := trees.writeTo_sz L i
        rw [ByteArray.size_append]
        omega)
      have hst : o ++ writeTo L i ++ writeT (kid L i) = o ++ writeTo L (i + 1) := by rw [ByteArray.append_assoc]; rfl
      unfold WrotOk at hE
      rw [hst] at hE
      unfold vals at hE
      generalize kid L i = y at hc0 hc1 hc2 hc3 hc4 hc5 hc6 hc7 hE
      have HE : Hid (∀ ob, _) := hE
      subst ha
      clear hE hnode hst
      go_wp2_with fail
      refine Calls.mono (HE.out _) ?_
      rintro e w2 ⟨rfl, h1, h2⟩
      have HR2 : Hid _ := h1
      have HK2 : Hid (Kp b W w2) := (hK.out.alloc _).trans h2
      clear h1 h2 HE
      go_wp2
      go_roundw
      case rel => exact ⟨i + 1, by omega, by go_num, HR2.out, HK2.out⟩
      case measure => simp [intOf]; omega
    · obtain rfl : i = L.length := by omega
      go_wp2
      go_end0
      exact ⟨rfl, hR.out, hK.out⟩
set_option maxRecDepth 100000 in
set_option maxHeartbeats 8000000 in
theorem el_ok (B : Nat) (HS : Hid (Sink w0 b F rv R)) (hen : ∀ args w, (callFunc F args).run Tryz.prog w = .ok (.enter F args) w) (HT : Hid (NTabs w0))
    (p l u : ByteArray) (ds : List Pair) (ats : List Att) (ks : List Tree) (da aa ka : Option Addr) (dc ac kc : Nat) (W : World) (o : ByteArray)
    (hps : p.size ≤ 1048576) (hls : l.size ≤ 1048576) (hzd : ds.length + pairs.sizeTo ds ds.length ≤ 1048576) (hza : smallA ats ≤ 1048576) (hzk : nszs ks ≤ 1048576)
    (hD : PairsAt w0 da ds) (hA : AttsAt w0 aa ats) (hR : R W o) (ho : o.size ≤ 500000000)
    (hK : ∀ W' o', R W' o' → o'.size ≤ 600000000 → (o'.size ≤ o.size + (openW p l ds ats).size + 1) → KidsWOk b F rv R ks ka kc W' o') :
    Calls Tryz.prog 50 #[.agg #[.string p, .string l, .string u, .slice da ds.length dc, .slice aa ats.length ac, .slice ka ks.length kc], .func (.func F) #[rv] #[]] W fun e w' => e = .returned (.tuple #[]) ∧ R w' (o ++ elW p l ds ats ks.length (writeTo ks ks.length)) ∧ Kp b W w' := by
  have HD : Hid (PairsAt w0 da ds) := hD
  have HA : Hid (AttsAt w0 aa ats) := hA
  have HKD : Hid (∀ W' o', R W' o' → o'.size ≤ 600000000 → (o'.size ≤ o.size + (openW p l ds ats).size + 1) → KidsWOk b F rv R ks ka kc W' o') := hK
  have HZD : Hid (ds.length + pairs.sizeTo ds ds.length ≤ 1048576) := hzd
  have HZA : Hid (smallA ats ≤ 1048576) := hza
  have hdl : ds.length ≤ 1048576 := by omega
  have hal : ats.length ≤ 1048576 := by unfold smallA at hza; omega
  have hkl : ks.length ≤ 1048576 := by have := trees.nszs_eq ks; omega
  have HWL : Hid ((writeTo ks ks.length).size ≤ 12582912) := by have := trees.writeTo_len ks ks.length (Nat.le_refl _); show _ ≤ _; omega
  have HOL : Hid ((openW p l ds ats).size ≤ 20000000) := by have := trees.open_len p l ds ats; show _ ≤ _; omega
  have HR : Hid _ := HS.out.below hR ((Below.refl _ _).alloc (Nat.le_refl _) (.cells #[.string p, .string l, .string u, .slice da ds.length dc, .slice aa ats.length ac, .slice ka ks.length kc] 97))
  have HL : Hid (W.heap.size ≠ b) := by have := HS.out.lt hR; show _ ≠ _; omega
  have HX0 : Hid _ := heap_alloc_new W (.cells #[.string p, .string l, .string u, .slice da ds.length dc, .slice aa ats.length ac, .slice ka ks.length kc] 97)
  have HK0 : Hid (Kp b W (W.alloc (.cells #[.string p, .string l, .string u, .slice da ds.length dc, .slice aa ats.length ac, .slice ka ks.length kc] 97))) := kp_below ((Below.refl _ _).alloc (Nat.le_refl _) _)
  have hjl := trees.join_len p l
  obtain ⟨j, hj⟩ : ∃ j, joinR p l = j := ⟨_, rfl⟩
  rw [hj] at hjl
  have HJ : Hid _ := hj
  have hC := fun wr (hb : R wr o) => names.impl_join p l wr hps hls (HT.out.tab.name.below (HS.out.bel hb))
  rw [hj] at hC
  have HC : Hid (∀ wr, R wr o → _) := hC
  clear hD hA hK hzd hza hzk hR hC hj
  go_enter Tryz.func50, Tryz.ntmps50
  obtain ⟨W1, hW1⟩ : ∃ W1, W.alloc (.cells #[.string p, .string l, .string u, .slice da ds.length dc, .slice aa ats.length ac, .slice ka ks.length kc] 97) = W1 := ⟨_, rfl⟩
  rw [hW1] at HR HX0 HK0
  obtain ⟨c0, c1, c2, c3, c4, c5⟩ := cells6 HX0.out
  go_wp2_with fail
  clear hW1
  refine Calls.mono (HC.out _ HR.out) ?_
  rintro e w2 ⟨rfl, hb⟩
  have HR2 : Hid _ := HS.out.below HR.out hb
  have HX2 : Hid _ := (kp_below hb).box HX0.out HL.out (by decide)
  have HK2 : Hid (Kp b W w2) := HK0.out.trans (kp_below hb)
  clear hb c0 c1 c2 c3 c4 c5
  have HP : Hid _ := HS.out.put2 HR2.out ⟨#[60]⟩ j (by simp only [ByteArray.size_append]; show _ + 1 + _ ≤ _; omega)
  go_wp2_with fail
  refine Calls.mono HP.out ?_
  rintro e w3 ⟨rfl, h1, h2⟩
  have HX3 : Hid _ := h2.box HX2.out HL.out (by decide)
  have HK3 : Hid (Kp b W w3) := HK2.out.trans h2
  have HR3 : Hid _ := h1
  clear h1 h2
  obtain ⟨o1, ho1⟩ : ∃ o1, o ++ ⟨#[60]⟩ ++ j = o1 := ⟨_, rfl⟩
  have hos : o1.size ≤ o.size + 2097155 := by rw [← ho1]; simp only [ByteArray.size_append]; show _ + 1 + _ ≤ _; omega
  have HO1 : Hid _ := ho1
  rw [ho1] at HR3
  clear ho1
  obtain ⟨c0, c1, c2, c3, c4, c5⟩ := cells6 HX3.out
  go_wp2_with fail
  clear c0 c1 c2 c3 c4 c5
  go_loopw [21] (fun t wr => ∃ i : Nat, i ≤ ds.length ∧ t = .int .i64 i ∧ Hid (R wr (declW o1 ds i)) ∧ Hid (wr.heap[W.heap.size]? = some (.cells #[.string p, .string l, .string u, .slice da ds.length dc, .slice aa ats.length ac, .slice ka ks.length kc] 97 (0, 0))) ∧ Hid (Kp b W wr)) (fun t _ => ds.length - (intOf t).toNat)
  case atStart => exact ⟨0, Nat.zero_le _, rfl, HR3.out, HX3.out, HK3.out⟩
  case round =>
    obtain ⟨i, hi, rfl, hR, hX, hK⟩ := hrel
    by_cases hlt : i < ds.length
    · obtain ⟨bk, off, ha, hblt, hc⟩ := (HD.out.below (Nat.le_refl _) (HS.out.bel hR.out)).row (by omega)
      obtain ⟨hc0, hc1⟩ := hc i hlt
      have hzz := pairs.sizeTo_one ds hlt
      have hzd := HZD.out
      have hst : declW o1 ds (i + 1) = valW (declW o1 ds i) (xmlnsW (at0 ds i).1) (at0 ds i).2 := rfl
      have hdl2 := trees.decl_len o1 ds (i + 1)
      have hle := trees.sizeTo_le ds (show i + 1 ≤ ds.length by omega)
      have hy1 : (at0 ds i).1.size ≤ 1048576 := by omega
      have hy2 : (at0 ds i).2.size ≤ 1048576 := by omega
      generalize at0 ds i = y at hc0 hc1 hst hy1 hy2
      obtain ⟨y1, y2⟩ := y
      dsimp only at hc0 hc1 hst hy1 hy2
      have HN : Hid (∀ w, _) := fun w => impl_declName y1 w hy1
      have hV := fun W' (hR' : R W' (declW o1 ds i)) => impl_val HS hen (declW o1 ds i) (xmlnsW y1) y2 W' hR' hy2 (by rw [← hst]; omega)
      rw [← hst] at hV
      have HV : Hid (∀ W', R W' (declW o1 ds i) → _) := hV
      obtain ⟨nm, hnm⟩ : ∃ nm, xmlnsW y1 = nm := ⟨_, rfl⟩
      rw [hnm] at HN HV
      have HRB : Hid (R (wr.alloc (.cells #[.string y1, .string y2] 78)) (declW o1 ds i)) := HS.out.below hR.out ((Below.refl _ _).alloc (Nat.le_refl _) _)
      have HKB : Hid (Kp b W (wr.alloc (.cells #[.string y1, .string y2] 78))) := hK.out.alloc _
      have HXB : Hid _ := (kp_below (b := b) ((Below.refl wr.heap.size wr).alloc (Nat.le_refl _) (.cells #[.string y1, .string y2] 78))).box hX.out HL.out (by decide)
      have HB0 : Hid _ := heap_alloc_new wr (.cells #[.string y1, .string y2] 78)
      subst ha
      clear hc hst hdl2 hle hzz hzd hV hnm
      go_wp2_with fail
      obtain ⟨W4, hW4⟩ : ∃ W4, wr.alloc (.cells #[.string y1, .string y2] 78) = W4 := ⟨_, rfl⟩
      rw [hW4] at HRB HKB HXB HB0 ⊢
      clear hW4
      obtain ⟨d0, d1⟩ := cells2 HB0.out
      have HDR : Hid (Below W4.heap.size W4 W4.drew) := (Below.refl _ _).drew
      go_region_with (first
        | (go_at_call 60; refine (HN.out _).mono ?_; rintro e w5 ⟨rfl, rfl⟩)
        | (go_at_call 59; refine Calls.mono (HV.out _ (HS.out.below HRB.out HDR.out)) ?_; rintro e w6 ⟨rfl, h1, h2⟩; have HR6 : Hid _ := h1; have HK6 : Hid (Kp b W w6) := (HKB.out.trans (kp_below HDR.out)).trans h2; have hk6 : Kp b W4 w6 := (kp_below HDR.out).trans h2; have HX6 : Hid _ := hk6.box HXB.out HL.out (by decide); clear hk6; clear h1 h2))
      all_goals go_wp2
      all_goals go_roundw
      all_goals first
        | (simp [intOf]; omega)
        | exact ⟨i + 1, by omega, by go_num, HR6.out, HX6.out, HK6.out⟩
    · obtain rfl : i = ds.length := by omega
      clear hlt hi
      obtain ⟨c0, c1, c2, c3, c4, c5⟩ := cells6 hX.out
      have hdz := trees.decl_len o1 ds ds.length
      obtain ⟨o2, ho2⟩ : ∃ o2, declW o1 ds ds.length = o2 := ⟨_, rfl⟩
      have hos2 : o2.size ≤ o.size + 13000000 := by rw [← ho2]; have := HZD.out; omega
      have HO2 : Hid _ := ho2
      rw [ho2] at hR
      clear ho2 hdz
      go_wp2_with fail
      clear c0 c1 c2 c3 c4 c5
      go_loopw [36] (fun t wr => ∃ i : Nat, i ≤ ats.length ∧ t = .int .i64 i ∧ Hid (R wr (attW o2 ats i)) ∧ Hid (wr.heap[W.heap.size]? = some (.cells #[.string p, .string l, .string u, .slice da ds.length dc, .slice aa ats.length ac, .slice ka ks.length kc] 97 (0, 0))) ∧ Hid (Kp b W wr)) (fun t _ => ats.length - (intOf t).toNat)
      case atStart => exact ⟨0, Nat.zero_le _, rfl, hR.out, hX.out, hK.out⟩
      case round =>
        clear hR hX hK
        obtain ⟨i, hi, rfl, hR, hX, hK⟩ := hrel
        by_cases hlt : i < ats.length
        · obtain ⟨bk, off, ha, hblt, hc⟩ := (HA.out.below (Nat.le_refl _) (HS.out.bel hR.out)).row (by omega)
          obtain ⟨hc0, hc1, hc2, hc3⟩ := hc i hlt
          have hzz := trees.asizeTo_one ats hlt
          have hza := HZA.out
          have hst : attW o2 ats (i + 1) = valW (attW o2 ats i) (joinR (att0 ats i).pre (att0 ats i).loc) (att0 ats i).val := rfl
          have hdl2 := trees.att_len o2 ats (i + 1)
          have hle := trees.asizeTo_le ats (show i + 1 ≤ ats.length by omega)
          have hys : (att0 ats i).size ≤ 1048576 := by unfold smallA at hza; omega
          unfold Att.size at hys
          generalize att0 ats i = y at hc0 hc1 hc2 hc3 hst hys
          obtain ⟨y1, y2, y3, y4⟩ := y
          dsimp only at hc0 hc1 hc2 hc3 hst hys
          have hJ := fun W' (hR' : R W' (attW o2 ats i)) => names.impl_join y1 y2 W' (by omega) (by omega) (HT.out.tab.name.below (HS.out.bel hR'))
          have hV := fun W' (hR' : R W' (attW o2 ats i)) => impl_val HS hen (attW o2 ats i) (joinR y1 y2) y4 W' hR' (by omega) (by rw [← hst]; unfold smallA at hza; omega)
          rw [← hst] at hV
          have HJ2 : Hid (∀ W', R W' (attW o2 ats i) → _) := hJ
          have HV : Hid (∀ W', R W' (attW o2 ats i) → _) := hV
          obtain ⟨nm, hnm⟩ : ∃ nm, joinR y1 y2 = nm := ⟨_, rfl⟩
          rw [hnm] at HJ2 HV
          have HRB : Hid (R (wr.alloc (.cells #[.string y1, .string y2, .string y3, .string y4] 80)) (attW o2 ats i)) := HS.out.below hR.out ((Below.refl _ _).alloc (Nat.le_refl _) _)
          have HKB : Hid (Kp b W (wr.alloc (.cells #[.string y1, .string y2, .string y3, .string y4] 80))) := hK.out.alloc _
          have HXB : Hid _ := (kp_below (b := b) ((Below.refl wr.heap.size wr).alloc (Nat.le_refl _) (.cells #[.string y1, .string y2, .string y3, .string y4] 80))).box hX.out HL.out (by decide)
          have HB0 : Hid _ := heap_alloc_new wr (.cells #[.string y1, .string y2, .string y3, .string y4] 80)
          subst ha
          clear hc hst hdl2 hle hzz hza hV hJ hnm
          go_wp2_with fail
          obtain ⟨W4, hW4⟩ : ∃ W4, wr.alloc (.cells #[.string y1, .string y2, .string y3, .string y4] 80) = W4 := ⟨_, rfl⟩
          rw [hW4] at HRB HKB HXB HB0 ⊢
          clear hW4
          obtain ⟨d0, d1, d2, d3⟩ := cells4 HB0.out
          have HDR : Hid (Below W4.heap.size W4 W4.drew) := (Below.refl _ _).drew
          go_region_with (first
            | (go_at_call 58; refine Calls.mono (HJ2.out _ (HS.out.below HRB.out HDR.out)) ?_; rintro e w5 ⟨rfl, hb5⟩; have HB5 : Hid _ := HDR.out.trans (hb5.mono HDR.out.size); obtain ⟨f0, f1, f2, f3⟩ := cells4 ((HB5.out.block _ (pairs.lt_heap HB0.out)).trans HB0.out); clear hb5)
            | (go_at_call 59; refine Calls.mono (HV.out _ (HS.out.below HRB.out HB5.out)) ?_; rintro e w6 ⟨rfl, h1, h2⟩; have HR6 : Hid _ := h1; have HK6 : Hid (Kp b W w6) := (HKB.out.trans (kp_below HB5.out)).trans h2; have hk6 : Kp b W4 w6 := (kp_below HB5.out).trans h2; have HX6 : Hid _ := hk6.box HXB.out HL.out (by decide); clear hk6; clear h1 h2))
          all_goals go_wp2
          all_goals go_roundw
          all_goals first
            | (simp [intOf]; omega)
            | exact ⟨i + 1, by omega, by go_num, HR6.out, HX6.out, HK6.out⟩
        · obtain rfl : i = ats.length := by omega
          clear hlt hi
          have HF : Hid (attW o2 ats ats.length = o ++ openW p l ds ats) := by
            show _ = _
            rw [← HO2.out, ← HO1.out, ← HJ.out]
            exact trees.open_app o p l ds ats
          rw [HF.out] at hR
          have HOS : Hid ((o ++ openW p l ds ats).size ≤ o.size + 20000000) := by have := HOL.out; show _ ≤ _; rw [ByteArray.size_append]; omega
          obtain ⟨c0, c1, c2, c3, c4, c5⟩ := cells6 hX.out
          by_cases hk0 : ks.length = 0
          · have HR9 : Hid (o ++ elW p l ds ats ks.length (writeTo ks ks.length) = o ++ openW p l ds ats ++ ⟨#[47, 62]⟩) := by show _ = _; unfold elW; rw [if_pos hk0, ByteArray.append_assoc]
            have hk1 : ((ks.length : Int) == 0) = true := by rw [hk0]; rfl
            clear hk0
            have HP9 : Hid _ := HS.out.put1 hR.out ⟨#[47, 62]⟩ (by rw [ByteArray.size_append]; have := HOS.out; show _ + 2 ≤ _; omega)
            go_wp2_with fail
            refine Calls.mono HP9.out ?_
            rintro e w9 ⟨rfl, h1, h2⟩
            have HR8 : Hid _ := h1
            rw [← HR9.out] at HR8
            have HK9 : Hid (Kp b W w9) := hK.out.trans h2
            clear h1 h2
            go_wp2
            try simp only [Exit.inBlock, Exit.then]
            refine bodyPost_ret (results_none rfl _ _ _) rfl ?_
            exact ⟨rfl, HR8.out, HK9.out⟩
          · have HR9 : Hid (o ++ elW p l ds ats ks.length (writeTo ks ks.length) = o ++ openW p l ds ats ++ ⟨#[62]⟩ ++ writeTo ks ks.length ++ ⟨#[60, 47]⟩ ++ j ++ ⟨#[62]⟩) := by show _ = _; unfold elW; rw [if_neg hk0, HJ.out]; simp only [ByteArray.append_assoc]
            have hk1 : ((ks.length : Int) == 0) = false := by rw [beq_eq_false_iff_ne]; omega
            clear hk0
            have HP9 : Hid _ := HS.out.put1 hR.out ⟨#[62]⟩ (by rw [ByteArray.size_append]; have := HOS.out; show _ + 1 ≤ _; omega)
            go_wp2_with fail
            refine Calls.mono HP9.out ?_
            rintro e w9 ⟨rfl, h1, h2⟩
            have HK9 : Hid (Kp b W w9) := hK.out.trans h2
            have HX9 : Hid _ := h2.box hX.out HL.out (by decide)
            have hQ := HKD.out w9 _ h1 (by rw [ByteArray.size_append]; have := HOS.out; show _ + 1 ≤ _; omega) (by rw [ByteArray.size_append, ByteArray.size_append]; exact Nat.le_refl _)
            unfold KidsWOk at hQ
            have HQ : Hid _ := hQ
            clear h1 h2 hQ c0 c1 c2 c3 c4 c5
            obtain ⟨c0, c1, c2, c3, c4, c5⟩ := cells6 HX9.out
            go_wp2_with fail
            refine Calls.mono HQ.out ?_
            rintro e w10 ⟨rfl, h1, h2⟩
            have HK10 : Hid (Kp b W w10) := HK9.out.trans h2
            have HX10 : Hid _ := h2.box HX9.out HL.out (by decide)
            have HP10 : Hid _ := HS.out.put3 h1 ⟨#[60, 47]⟩ j ⟨#[62]⟩ (by simp only [ByteArray.size_append]; have h1 := HOL.out; have h2 := HWL.out; show _ + _ + 1 + _ + 2 + _ + 1 ≤ _; omega)
            clear h1 h2 c0 c1 c2 c3 c4 c5
            obtain ⟨c0, c1, c2, c3, c4, c5⟩ := cells6 HX10.out
            go_wp2_with fail
            refine Calls.mono HP10.out ?_
            rintro e w11 ⟨rfl, h1, h2⟩
            have HR8 : Hid _ := h1
            rw [← HR9.out] at HR8
            have HK11 : Hid (Kp b W w11) := HK10.out.trans h2
            clear h1 h2
            go_wp2
            go_end0
            exact ⟨rfl, HR8.out, HK11.out⟩
end
end Go.Proofs.YtmiiilamjbhheaaGreatDoor.sinks
namespace Go.Proofs.YtmiiilamjbhheaaGreatDoor.sinks
open Go.ChangeShapes Go.WideShapes Go.ChangeAt Go.RowKit
open pairs (Pair at0 PairsAt)
open trees (Att Tree Hdr vals tsize ksize nsz nszs nszTo kid att0 NodeIn NodesAt AttsAt NTabs smallA asizeTo valW xmlnsW declW attW openW elW noteW toldW nodeW writeT writeL writeTo catTo box_kept box_under cells1 cells2 cells4 cells6 lt_none)
open names (joinR)
open escs (escS)
set_option linter.unusedVariables false
section
variable {w0 : World} {b : Nat} {F : FuncId} {rv : Value} {R : World → ByteArray → Prop}

set_option maxRecDepth 100000 in
set_option maxHeartbeats 4000000 in
theorem write_whole (HS : Hid (Sink w0 b F rv R)) (hen : ∀ args w, (callFunc F args).run Tryz.prog w = .ok (.enter F args) w) (p l u x : ByteArray) (ds : List Pair) (ats : List Att) (ks : List Tree) (da aa ka : Option Addr) (dc ac kc : Nat) (W : World) (o : ByteArray) (hR : R W o) (hC : ∀ W', R W' o → KidsWOk b F rv R ks ka kc W' o) :
    Calls Tryz.prog 32 #[.agg #[.int .i64 0, .string p, .string l, .string u, .slice da ds.length dc, .slice aa ats.length ac, .slice ka ks.length kc, .string x], .func (.func F) #[rv] #[]] W fun e w' => e = .returned (.tuple #[]) ∧ R w' (o ++ writeTo ks ks.length) ∧ Kp b W w' := by
  have HSH : Hid (∀ W, _) := trees.shape_whole p l u x ds.length ats.length ks.length ⟨da, dc, aa, ac, ka, kc⟩
  have ht0 : ∀ W, Sem.run Tryz.prog (Instr.typeAssert (.iface 94 (.agg #[.slice ka ks.length kc])) 90 94 true) W = .ok (.tuple #[.agg #[.slice ka ks.length kc], .bool true]) W := fun _ => by kernel_rfl
  have HR : Hid _ := hR
  have HB : Hid (b < W.heap.size) := HS.out.lt hR
  have HC : Hid (∀ W', R W' o → _) := hC
  clear hC
  clear hR
  go_enter Tryz.func32, Tryz.ntmps32
  go_wp2_with fail
  refine (HSH.out _).mono ?_
  rintro e w1 ⟨rfl, hb⟩
  have HB1 : Hid (Below W.heap.size W w1) := box_under hb
  clear hb
  have HB2 : Hid (Below W.heap.size W (w1.alloc (.cells #[.slice ka ks.length kc] 94))) := HB1.out.alloc HB1.out.size _
  have HR2 : Hid _ := HS.out.below HR.out HB2.out
  have HK2 : Hid (Kp b W (w1.alloc (.cells #[.slice ka ks.length kc] 94))) := kp_below HB2.out
  have HX2 : Hid _ := heap_alloc_new w1 (.cells #[.slice ka ks.length kc] 94)
  obtain ⟨W2, hW2⟩ : ∃ W2, w1.alloc (.cells #[.slice ka ks.length kc] 94) = W2 := ⟨_, rfl⟩
  rw [hW2] at HR2 HK2 HX2 HB2
  have c0 := cells1 HX2.out
  have hq := HC.out W2 HR2.out
  unfold KidsWOk at hq
  have HQ : Hid _ := hq
  clear hq
  go_wp2_with fail
  clear hW2
  refine Calls.mono HQ.out ?_
  rintro e w4 ⟨rfl, h1, h2⟩
  have HK4 : Hid (Kp b W w4) := HK2.out.trans h2
  have HR4 : Hid _ := h1
  clear h1 h2
  go_wp2
  go_end0
  exact ⟨rfl, HR4.out, HK4.out⟩
set_option maxRecDepth 100000 in
set_option maxHeartbeats 4000000 in
theorem write_el (HS : Hid (Sink w0 b F rv R)) (hen : ∀ args w, (callFunc F args).run Tryz.prog w = .ok (.enter F args) w) (p l u x : ByteArray) (ds : List Pair) (ats : List Att) (ks : List Tree) (da aa ka : Option Addr) (dc ac kc : Nat) (W : World) (o : ByteArray) (hR : R W o) (hC : ∀ W', R W' o → Calls Tryz.prog 50 #[.agg #[.string p, .string l, .string u, .slice da ds.length dc, .slice aa ats.length ac, .slice ka ks.length kc], .func (.func F) #[rv] #[]] W' fun e w' => e = .returned (.tuple #[]) ∧ R w' (o ++ elW p l ds ats ks.length (writeTo ks ks.length)) ∧ Kp b W' w') :
    Calls Tryz.prog 32 #[.agg #[.int .i64 1, .string p, .string l, .string u, .slice da ds.length dc, .slice aa ats.length ac, .slice ka ks.length kc, .string x], .func (.func F) #[rv] #[]] W fun e w' => e = .returned (.tuple #[]) ∧ R w' (o ++ elW p l ds ats ks.length (writeTo ks ks.length)) ∧ Kp b W w' := by
  have HSH : Hid (∀ W, _) := trees.shape_el p l u x ds.length ats.length ks.length ⟨da, dc, aa, ac, ka, kc⟩
  have ht0 : ∀ W, Sem.run Tryz.prog (Instr.typeAssert (.iface 97 (.agg #[.string p, .string l, .string u, .slice da ds.length dc, .slice aa ats.length ac, .slice ka ks.length kc])) 90 94 true) W = .ok (.tuple #[.agg #[.slice none 0 0], .bool false]) W := fun _ => by kernel_rfl
  have ht1 : ∀ W, Sem.run Tryz.prog (Instr.typeAssert (.iface 97 (.agg #[.string p, .string l, .string u, .slice da ds.length dc, .slice aa ats.length ac, .slice ka ks.length kc])) 90 97 true) W = .ok (.tuple #[.agg #[.string p, .string l, .string u, .slice da ds.length dc, .slice aa ats.length ac, .slice ka ks.length kc], .bool true]) W := fun _ => by kernel_rfl
  have HR : Hid _ := hR
  have HB : Hid (b < W.heap.size) := HS.out.lt hR
  have HC : Hid (∀ W', R W' o → _) := hC
  clear hC
  clear hR
  go_enter Tryz.func32, Tryz.ntmps32
  go_wp2_with fail
  refine (HSH.out _).mono ?_
  rintro e w1 ⟨rfl, hb⟩
  have HB1 : Hid (Below W.heap.size W w1) := box_under hb
  clear hb
  have HB2 : Hid (Below W.heap.size W (w1.alloc (.cells #[.string p, .string l, .string u, .slice da ds.length dc, .slice aa ats.length ac, .slice ka ks.length kc] 97))) := HB1.out.alloc HB1.out.size _
  have HR2 : Hid _ := HS.out.below HR.out HB2.out
  have HK2 : Hid (Kp b W (w1.alloc (.cells #[.string p, .string l, .string u, .slice da ds.length dc, .slice aa ats.length ac, .slice ka ks.length kc] 97))) := kp_below HB2.out
  have HX2 : Hid _ := heap_alloc_new w1 (.cells #[.string p, .string l, .string u, .slice da ds.length dc, .slice aa ats.length ac, .slice ka ks.length kc] 97)
  obtain ⟨W2, hW2⟩ : ∃ W2, w1.alloc (.cells #[.string p, .string l, .string u, .slice da ds.length dc, .slice aa ats.length ac, .slice ka ks.length kc] 97) = W2 := ⟨_, rfl⟩
  rw [hW2] at HR2 HK2 HX2 HB2
  obtain ⟨c0, c1, c2, c3, c4, c5⟩ := cells6 HX2.out
  have HQ : Hid _ := HC.out W2 HR2.out
  go_wp2_with fail
  clear hW2
  refine Calls.mono HQ.out ?_
  rintro e w4 ⟨rfl, h1, h2⟩
  have HK4 : Hid (Kp b W w4) := HK2.out.trans h2
  have HR4 : Hid _ := h1
  clear h1 h2
  go_wp2
  go_end0
  exact ⟨rfl, HR4.out, HK4.out⟩
set_option maxRecDepth 100000 in
set_option maxHeartbeats 4000000 in
theorem write_text (HS : Hid (Sink w0 b F rv R)) (hen : ∀ args w, (callFunc F args).run Tryz.prog w = .ok (.enter F args) w) (p l u x : ByteArray) (ds : List Pair) (ats : List Att) (ks : List Tree) (da aa ka : Option Addr) (dc ac kc : Nat) (W : World) (o : ByteArray) (hR : R W o) (hx : x.size ≤ 1048576) (ho : o.size ≤ 900000000) :
    Calls Tryz.prog 32 #[.agg #[.int .i64 2, .string p, .string l, .string u, .slice da ds.length dc, .slice aa ats.length ac, .slice ka ks.length kc, .string x], .func (.func F) #[rv] #[]] W fun e w' => e = .returned (.tuple #[]) ∧ R w' (o ++ escS false x) ∧ Kp b W w' := by
  have HSH : Hid (∀ W, _) := trees.shape_text p l u x ds.length ats.length ks.length ⟨da, dc, aa, ac, ka, kc⟩
  have ht0 : ∀ W, Sem.run Tryz.prog (Instr.typeAssert (.iface 100 (.agg #[.string x])) 90 94 true) W = .ok (.tuple #[.agg #[.slice none 0 0], .bool false]) W := fun _ => by kernel_rfl
  have ht1 : ∀ W, Sem.run Tryz.prog (Instr.typeAssert (.iface 100 (.agg #[.string x])) 90 97 true) W = .ok (.tuple #[.agg #[.string ⟨#[]⟩, .string ⟨#[]⟩, .string ⟨#[]⟩, .slice none 0 0, .slice none 0 0, .slice none 0 0], .bool false]) W := fun _ => by kernel_rfl
  have ht2 : ∀ W, Sem.run Tryz.prog (Instr.typeAssert (.iface 100 (.agg #[.string x])) 90 100 true) W = .ok (.tuple #[.agg #[.string x], .bool true]) W := fun _ => by kernel_rfl
  have HR : Hid _ := hR
  have HB : Hid (b < W.heap.size) := HS.out.lt hR
  have HE : Hid (∀ w, _) := fun w => escs.impl_escText x w hx
  have hes := trees.esc_len false x
  clear hR
  go_enter Tryz.func32, Tryz.ntmps32
  go_wp2_with fail
  refine (HSH.out _).mono ?_
  rintro e w1 ⟨rfl, hb⟩
  have HB1 : Hid (Below W.heap.size W w1) := box_under hb
  clear hb
  have HB2 : Hid (Below W.heap.size W (w1.alloc (.cells #[.string x] 100))) := HB1.out.alloc HB1.out.size _
  have HR2 : Hid _ := HS.out.below HR.out HB2.out
  have HK2 : Hid (Kp b W (w1.alloc (.cells #[.string x] 100))) := kp_below HB2.out
  have HX2 : Hid _ := heap_alloc_new w1 (.cells #[.string x] 100)
  obtain ⟨W2, hW2⟩ : ∃ W2, w1.alloc (.cells #[.string x] 100) = W2 := ⟨_, rfl⟩
  rw [hW2] at HR2 HK2 HX2 HB2
  have c0 := cells1 HX2.out
  go_wp2_with fail
  clear hW2
  refine Calls.mono (HE.out _) ?_
  rintro e w3 ⟨rfl, hb⟩
  have HK3 : Hid (Kp b W w3) := HK2.out.trans (kp_below hb)
  have HQ : Hid _ := HS.out.put1 (HS.out.below HR2.out hb) (escS false x) (by rw [ByteArray.size_append]; omega)
  clear hb
  go_wp2_with fail
  refine Calls.mono HQ.out ?_
  rintro e w4 ⟨rfl, h1, h2⟩
  have HK4 : Hid (Kp b W w4) := HK3.out.trans h2
  have HR4 : Hid _ := h1
  clear h1 h2
  go_wp2
  go_end0
  exact ⟨rfl, HR4.out, HK4.out⟩
set_option maxRecDepth 100000 in
set_option maxHeartbeats 4000000 in
theorem write_note (HS : Hid (Sink w0 b F rv R)) (hen : ∀ args w, (callFunc F args).run Tryz.prog w = .ok (.enter F args) w) (p l u x : ByteArray) (ds : List Pair) (ats : List Att) (ks : List Tree) (da aa ka : Option Addr) (dc ac kc : Nat) (W : World) (o : ByteArray) (hR : R W o) (hx : x.size ≤ 1048576) (ho : o.size ≤ 900000000) :
    Calls Tryz.prog 32 #[.agg #[.int .i64 3, .string p, .string l, .string u, .slice da ds.length dc, .slice aa ats.length ac, .slice ka ks.length kc, .string x], .func (.func F) #[rv] #[]] W fun e w' => e = .returned (.tuple #[]) ∧ R w' (o ++ noteW x) ∧ Kp b W w' := by
  have HSH : Hid (∀ W, _) := trees.shape_note p l u x ds.length ats.length ks.length ⟨da, dc, aa, ac, ka, kc⟩
  have ht0 : ∀ W, Sem.run Tryz.prog (Instr.typeAssert (.iface 101 (.agg #[.string x])) 90 94 true) W = .ok (.tuple #[.agg #[.slice none 0 0], .bool false]) W := fun _ => by kernel_rfl
  have ht1 : ∀ W, Sem.run Tryz.prog (Instr.typeAssert (.iface 101 (.agg #[.string x])) 90 97 true) W = .ok (.tuple #[.agg #[.string ⟨#[]⟩, .string ⟨#[]⟩, .string ⟨#[]⟩, .slice none 0 0, .slice none 0 0, .slice none 0 0], .bool false]) W := fun _ => by kernel_rfl
  have ht2 : ∀ W, Sem.run Tryz.prog (Instr.typeAssert (.iface 101 (.agg #[.string x])) 90 100 true) W = .ok (.tuple #[.agg #[.string ⟨#[]⟩], .bool false]) W := fun _ => by kernel_rfl
  have ht3 : ∀ W, Sem.run Tryz.prog (Instr.typeAssert (.iface 101 (.agg #[.string x])) 90 101 true) W = .ok (.tuple #[.agg #[.string x], .bool true]) W := fun _ => by kernel_rfl
  have HR : Hid _ := hR
  have HB : Hid (b < W.heap.size) := HS.out.lt hR
  clear hR
  go_enter Tryz.func32, Tryz.ntmps32
  go_wp2_with fail
  refine (HSH.out _).mono ?_
  rintro e w1 ⟨rfl, hb⟩
  have HB1 : Hid (Below W.heap.size W w1) := box_under hb
  clear hb
  have HB2 : Hid (Below W.heap.size W (w1.alloc (.cells #[.string x] 101))) := HB1.out.alloc HB1.out.size _
  have HR2 : Hid _ := HS.out.below HR.out HB2.out
  have HK2 : Hid (Kp b W (w1.alloc (.cells #[.string x] 101))) := kp_below HB2.out
  have HX2 : Hid _ := heap_alloc_new w1 (.cells #[.string x] 101)
  obtain ⟨W2, hW2⟩ : ∃ W2, w1.alloc (.cells #[.string x] 101) = W2 := ⟨_, rfl⟩
  rw [hW2] at HR2 HK2 HX2 HB2
  have c0 := cells1 HX2.out
  have HQ : Hid _ := HS.out.put3 HR2.out ⟨#[60, 33, 45, 45]⟩ x ⟨#[45, 45, 62]⟩ (by simp only [ByteArray.size_append]; show _ + 4 + _ + 3 ≤ _; omega)
  go_wp2_with fail
  clear hW2
  refine Calls.mono HQ.out ?_
  rintro e w4 ⟨rfl, h1, h2⟩
  have HK4 : Hid (Kp b W w4) := HK2.out.trans h2
  have HR4 : Hid (R w4 (o ++ noteW x)) := by show R _ _; unfold noteW; simp only [ByteArray.append_assoc] at h1 ⊢; exact h1
  clear h1 h2
  go_wp2
  go_end0
  exact ⟨rfl, HR4.out, HK4.out⟩
set_option maxRecDepth 100000 in
set_option maxHeartbeats 4000000 in
theorem write_told (HS : Hid (Sink w0 b F rv R)) (hen : ∀ args w, (callFunc F args).run Tryz.prog w = .ok (.enter F args) w) (p l u x : ByteArray) (ds : List Pair) (ats : List Att) (ks : List Tree) (da aa ka : Option Addr) (dc ac kc : Nat) (W : World) (o : ByteArray) (hR : R W o) (hl : l.size ≤ 1048576) (hx : x.size ≤ 1048576) (ho : o.size ≤ 900000000) :
    Calls Tryz.prog 32 #[.agg #[.int .i64 4, .string p, .string l, .string u, .slice da ds.length dc, .slice aa ats.length ac, .slice ka ks.length kc, .string x], .func (.func F) #[rv] #[]] W fun e w' => e = .returned (.tuple #[]) ∧ R w' (o ++ toldW l x) ∧ Kp b W w' := by
  have HSH : Hid (∀ W, _) := trees.shape_told p l u x ds.length ats.length ks.length ⟨da, dc, aa, ac, ka, kc⟩
  have ht0 : ∀ W, Sem.run Tryz.prog (Instr.typeAssert (.iface 103 (.agg #[.string l, .string x])) 90 94 true) W = .ok (.tuple #[.agg #[.slice none 0 0], .bool false]) W := fun _ => by kernel_rfl
  have ht1 : ∀ W, Sem.run Tryz.prog (Instr.typeAssert (.iface 103 (.agg #[.string l, .string x])) 90 97 true) W = .ok (.tuple #[.agg #[.string ⟨#[]⟩, .string ⟨#[]⟩, .string ⟨#[]⟩, .slice none 0 0, .slice none 0 0, .slice none 0 0], .bool false]) W := fun _ => by kernel_rfl
  have ht2 : ∀ W, Sem.run Tryz.prog (Instr.typeAssert (.iface 103 (.agg #[.string l, .string x])) 90 100 true) W = .ok (.tuple #[.agg #[.string ⟨#[]⟩], .bool false]) W := fun _ => by kernel_rfl
  have ht3 : ∀ W, Sem.run Tryz.prog (Instr.typeAssert (.iface 103 (.agg #[.string l, .string x])) 90 101 true) W = .ok (.tuple #[.agg #[.string ⟨#[]⟩], .bool false]) W := fun _ => by kernel_rfl
  have ht4 : ∀ W, Sem.run Tryz.prog (Instr.typeAssert (.iface 103 (.agg #[.string l, .string x])) 90 103 true) W = .ok (.tuple #[.agg #[.string l, .string x], .bool true]) W := fun _ => by kernel_rfl
  have HR : Hid _ := hR
  have HB : Hid (b < W.heap.size) := HS.out.lt hR
  clear hR
  go_enter Tryz.func32, Tryz.ntmps32
  go_wp2_with fail
  refine (HSH.out _).mono ?_
  rintro e w1 ⟨rfl, hb⟩
  have HB1 : Hid (Below W.heap.size W w1) := box_under hb
  clear hb
  have HB2 : Hid (Below W.heap.size W (w1.alloc (.cells #[.string l, .string x] 103))) := HB1.out.alloc HB1.out.size _
  have HR2 : Hid _ := HS.out.below HR.out HB2.out
  have HK2 : Hid (Kp b W (w1.alloc (.cells #[.string l, .string x] 103))) := kp_below HB2.out
  have HX2 : Hid _ := heap_alloc_new w1 (.cells #[.string l, .string x] 103)
  obtain ⟨W2, hW2⟩ : ∃ W2, w1.alloc (.cells #[.string l, .string x] 103) = W2 := ⟨_, rfl⟩
  rw [hW2] at HR2 HK2 HX2 HB2
  obtain ⟨c0, c1⟩ := cells2 HX2.out
  have HQ : Hid _ := impl_toldW HS hen o l x W2 HR2.out hl hx ho
  go_wp2_with fail
  clear hW2
  refine Calls.mono HQ.out ?_
  rintro e w4 ⟨rfl, h1, h2⟩
  have HK4 : Hid (Kp b W w4) := HK2.out.trans h2
  have HR4 : Hid _ := h1
  clear h1 h2
  go_wp2
  go_end0
  exact ⟨rfl, HR4.out, HK4.out⟩
theorem wrote_of (n B : Nat) (HS : Hid (Sink w0 b F rv R)) (hen : ∀ args w, (callFunc F args).run Tryz.prog w = .ok (.enter F args) w) (HT : Hid (NTabs w0))
    (ihK : ∀ L a cap W o, ksize L < n → nszs L ≤ 1048576 → kindsL L = true → NodesAt w0 B a L → R W o → o.size + 12 * nszs L ≤ 500000000 → KidsWOk b F rv R L a cap W o)
    (t : Tree) (h : Hdr) (W : World) (o : ByteArray) (ht : tsize t ≤ n) (hz : nsz t ≤ 1048576) (hk : kindsT t = true) (hn : NodeIn w0 B t h) (hR : R W o) (ho : o.size + 12 * nsz t + 12 ≤ 500000000) : WrotOk b F rv R t h W o := by
  have hK := trees.kids_at hn
  have hD := hn.decls
  have hA := hn.atts
  obtain ⟨k, p, l, u, x, ds, ats, ks⟩ := t
  obtain ⟨da, dc, aa, ac, ka, kc⟩ := h
  rw [kindsT, Bool.and_eq_true] at hk
  rw [tsize] at ht
  rw [nsz] at hz ho
  have hw : writeT (.mk k p l u x ds ats ks) = nodeW k p l x ds ats ks.length (writeTo ks ks.length) := by rw [writeT, trees.writeL_eq]
  unfold WrotOk
  rw [hw]
  unfold vals
  show Calls _ _ #[.agg #[.int .i64 k, .string p, .string l, .string u, .slice da ds.length dc, .slice aa ats.length ac, .slice ka ks.length kc, .string x], _] _ _
  have hkk := hk.1
  cases h0 : (k == 0)
  · cases h1 : (k == 1)
    · cases h2 : (k == 2)
      · cases h3 : (k == 3)
        · cases h4 : (k == 4)
          · rw [h0, h1, h2, h3, h4] at hkk; cases hkk
          · obtain rfl : k = 4 := by simpa using h4
            exact write_told HS hen p l u x ds ats ks da aa ka dc ac kc W o hR (by omega) (by omega) (by omega)
        · obtain rfl : k = 3 := by simpa using h3
          exact write_note HS hen p l u x ds ats ks da aa ka dc ac kc W o hR (by omega) (by omega)
      · obtain rfl : k = 2 := by simpa using h2
        exact write_text HS hen p l u x ds ats ks da aa ka dc ac kc W o hR (by omega) (by omega)
    · obtain rfl : k = 1 := by simpa using h1
      have hol := trees.open_len p l ds ats
      exact write_el HS hen p l u x ds ats ks da aa ka dc ac kc W o hR (fun W' hR' => el_ok B HS hen HT p l u ds ats ks da aa ka dc ac kc W' o (by omega) (by omega) (by omega) (by omega) (by omega) hD hA hR' (by omega)
        (fun W2 o2 hR2 h5 h6 => ihK ks ka kc W2 o2 (by omega) (by omega) hk.2 hK hR2 (by omega)))
  · obtain rfl : k = 0 := by simpa using h0
    exact write_whole HS hen p l u x ds ats ks da aa ka dc ac kc W o hR (fun W' hR' => ihK ks ka kc W' o (by omega) (by omega) hk.2 hK hR' (by omega))
theorem wrote (B : Nat) (HS : Hid (Sink w0 b F rv R)) (hen : ∀ args w, (callFunc F args).run Tryz.prog w = .ok (.enter F args) w) (HT : Hid (NTabs w0)) : ∀ n, ∀ t h W o, tsize t < n → nsz t ≤ 1048576 → kindsT t = true → NodeIn w0 B t h → R W o → o.size + 12 * nsz t + 12 ≤ 500000000 → WrotOk b F rv R t h W o
  | 0, t, h, W, o, ht, _, _, _, _, _ => by omega
  | n + 1, t, h, W, o, ht, hz, hk, hn, hR, ho =>
    wrote_of n B HS hen HT (fun L a cap W o hn hz hk hL hR ho => kids_of n B HS hen (fun t h W o ht hz hk hn hR ho => wrote B HS hen HT n t h W o ht hz hk hn hR ho) L a cap W o hn hz hk hL hR ho) t h W o (by omega) hz hk hn hR ho
end
end Go.Proofs.YtmiiilamjbhheaaGreatDoor.sinks
namespace Go.Proofs.YtmiiilamjbhheaaGreatDoor.sinks
open Go.ChangeShapes Go.WideShapes Go.ChangeAt Go.RowKit
open pairs (Pair at0 PairsAt)
open trees (Att Tree Hdr vals tsize ksize nsz nszs nszTo kid att0 NodeIn NodesAt AttsAt NTabs writeT wrR wrTo box_kept box_under box8 nodeOkB)
set_option linter.unusedVariables false
section
variable {w0 : World} {b : Nat} {F : FuncId} {rv : Value} {R : World → ByteArray → Prop}
def RightWOk (b : Nat) (F : FuncId) (rv : Value) (R : World → ByteArray → Prop) (t : Tree) (h : Hdr) (W : World) (o : ByteArray) : Prop :=
  Calls Tryz.prog 19 #[.agg (vals t h), .func (.func F) #[rv] #[]] W fun e w' => e = .returned (.tuple #[]) ∧ R w' (o ++ wrR t) ∧ Kp b W w'
set_option maxRecDepth 100000 in
set_option maxHeartbeats 2000000 in
theorem wrote_right (HS : Hid (Sink w0 b F rv R)) (hen : ∀ args w, (callFunc F args).run Tryz.prog w = .ok (.enter F args) w) (HT : Hid (NTabs w0)) (t : Tree) (h : Hdr) (B : Nat) (W : World) (o : ByteArray) (hz : nsz t ≤ 1048576) (hn : NodeIn w0 B t h) (hR : R W o) (ho : o.size + 12 * nsz t + 12 ≤ 500000000) : RightWOk b F rv R t h W o := by
  have hO := fun W' (hb : Below w0.heap.size w0 W') => trees.impl_node_ok t h B W' hz (hn.below hb) (HT.out.below hb)
  have hW := fun (hk : nodeOkB t = true) W' (hR' : R W' o) => wrote B HS hen HT (tsize t + 1) t h W' o (by omega) hz (kinds_ok hk) hn hR' ho
  have hyes := @trees.wrR_yes t
  have hno := @trees.wrR_no t
  unfold RightWOk
  unfold trees.ImplNodeOkOk at hO
  unfold WrotOk at hW
  obtain ⟨s, hs⟩ : ∃ s, wrR t = s := ⟨_, rfl⟩
  obtain ⟨r, hr⟩ : ∃ r, writeT t = r := ⟨_, rfl⟩
  obtain ⟨c, hc⟩ : ∃ c, nodeOkB t = c := ⟨_, rfl⟩
  rw [hs]
  rw [hs, hr, hc] at hyes
  rw [hs, hc] at hno
  rw [hc] at hO
  rw [hr, hc] at hW
  obtain ⟨k, p, l, u, x, ds, ats, ks⟩ := t
  obtain ⟨da, dc, aa, ac, ka, kc⟩ := h
  unfold vals at hO hW ⊢
  simp only [Tree.kind, Tree.pre, Tree.loc, Tree.uri, Tree.text, Tree.ds, Tree.ats, Tree.kids] at hO hW ⊢
  have HO : Hid (∀ W', Below w0.heap.size w0 W' → _) := hO
  have HR : Hid _ := hR
  have HB0 : Hid (Below w0.heap.size w0 W) := HS.out.bel hR
  have HL : Hid (W.heap.size ≠ b) := by have := HS.out.lt hR; show _ ≠ _; omega
  cases c
  · have HF : Hid _ := hno rfl
    clear hyes hno hO hW hn hz hs hr hc hR ho
    go_enter Tryz.func19, Tryz.ntmps19
    go_wp2_with fail
    refine Calls.mono (HO.out _ (HB0.out.alloc HB0.out.size _)) ?_
    rintro e w1 ⟨rfl, hb⟩
    have HB : Hid (Below W.heap.size W w1) := box_under hb
    clear hb
    have HR1 : Hid (R w1 (o ++ s)) := by
      show R _ _
      rw [HF.out]
      show R _ (o ++ ByteArray.empty)
      rw [ByteArray.append_empty]
      exact HS.out.below HR.out HB.out
    go_wp2
    go_end0
    exact ⟨rfl, HR1.out, kp_below HB.out⟩
  · have HF : Hid _ := hyes rfl
    have HW : Hid (∀ W', R W' o → _) := hW rfl
    clear hyes hno hO hW hn hz hs hr hc hR ho
    go_enter Tryz.func19, Tryz.ntmps19
    go_wp2_with fail
    refine Calls.mono (HO.out _ (HB0.out.alloc HB0.out.size _)) ?_
    rintro e w1 ⟨rfl, hb⟩
    have HB : Hid (Below W.heap.size W w1) := box_under hb
    have HX : Hid _ := box_kept hb
    clear hb
    obtain ⟨b0, b1, b2, b3, b4, b5, b6, b7⟩ := box8 HX.out
    go_wp2_with fail
    refine Calls.mono (HW.out _ (HS.out.below HR.out HB.out)) ?_
    rintro e w2 ⟨rfl, h1, h2⟩
    have HR2 : Hid _ := h1
    rw [← HF.out] at HR2
    have HK2 : Hid (Kp b W w2) := (kp_below HB.out).trans h2
    clear h1 h2
    go_wp2
    go_end0
    exact ⟨rfl, HR2.out, HK2.out⟩
end
set_option maxRecDepth 100000 in
set_option maxHeartbeats 2000000 in
theorem impl_write_all (L : List Tree) (a : Option Addr) (cap B : Nat) (w : World) (hk1 : ∀ i, i < L.length → nsz (kid L i) ≤ 1048576) (hz : nszs L ≤ 1048577) (hL : NodesAt w B a L) (HT : Hid (NTabs w)) :
    Calls Tryz.prog 9 #[.slice a L.length cap] w fun e w' => e = .returned (.string (wrTo L L.length)) ∧ Below w.heap.size w w' := by
  have HL : Hid _ := hL
  have HZ : Hid _ := hz
  have HZ1 : Hid (∀ i, i < L.length → nsz (kid L i) ≤ 1048576) := hk1
  have hkl : L.length ≤ 1048577 := by have := trees.nszs_eq L; omega
  have HS : Hid _ := sink_text w w.heap.size
  have hen : ∀ args w, (callFunc 20 args).run Tryz.prog w = .ok (.enter 20 args) w := enters_of Tryz.func20 (by kernel_rfl) rfl
  have HEN : Hid _ := hen
  have hmf : ∀ (fn : Fn) (first cap : Array Value) (w : World), (Instr.makeFunc fn first cap).run Tryz.prog w = .ok (.func fn first cap) w := fun _ _ _ _ => rfl
  have HR0 : Hid (RB w w.heap.size (w.alloc (.cells #[.pointer none, .slice none 0 0] 50)) ⟨#[]⟩) := ⟨outs.made w _ (Nat.le_refl _), (Below.refl _ _).alloc (Nat.le_refl _) _⟩
  clear hL hz hk1 hen
  go_enter Tryz.func9, Tryz.ntmps9
  go_wp2
  go_loopw [10] (fun t wr => ∃ i : Nat, i ≤ L.length ∧ t = .int .i64 i ∧ Hid (RB w w.heap.size wr (wrTo L i))) (fun t _ => L.length - (intOf t).toNat)
  case atStart => exact ⟨0, Nat.zero_le _, rfl, HR0.out⟩
  case round =>
    obtain ⟨i, hi, rfl, hR⟩ := hrel
    by_cases hlt : i < L.length
    · obtain ⟨bk, off, ha, h', hnode, hc0, hc1, hc2, hc3, hc4, hc5, hc6, hc7⟩ := row_kid HL.out (HS.out.bel hR.out) hlt
      have hE := fun ob => wrote_right HS HEN.out HT (kid L i) h' B (wr.alloc ob) (wrTo L i) (HZ1.out i hlt) hnode (HS.out.below hR.out ((Below.refl _ _).alloc (Nat.le_refl _) ob)) (by
        have h1 := trees.wrTo_len L i
        have h2 := HZ.out
        have h3 := trees.nszs_eq L
        have h4 := trees.nszTo_le L (show i + 1 ≤ L.length by omega)
        have h5 : nszTo L (i + 1) = nszTo L i + nsz (kid L i) := rfl
        omega)
      have hst : wrTo L i ++ wrR (kid L i) = wrTo L (i + 1) := rfl
      unfold RightWOk at hE
      rw [hst] at hE
      unfold vals at hE
      generalize kid L i = y at hc0 hc1 hc2 hc3 hc4 hc5 hc6 hc7 hE
      have HE : Hid (∀ ob, _) := hE
      subst ha
      clear hE hnode hst
      go_wp2_with fail
      refine Calls.mono (HE.out _) ?_
      rintro e w2 ⟨rfl, h1, h2⟩
      have HR2 : Hid _ := h1
      clear h1 h2 HE
      go_wp2
      go_roundw
      case rel => exact ⟨i + 1, by omega, by go_num, HR2.out⟩
      case measure => simp [intOf]; omega
    · obtain rfl : i = L.length := by omega
      have HQ : Hid _ := outs.to_str w.heap.size w.heap.size (wrTo L L.length) wr hR.out.1 hR.out.2.size
      go_wp2_with fail
      refine Calls.mono HQ.out ?_
      rintro e w2 ⟨rfl, hb⟩
      have HB2 : Hid (Below w.heap.size w w2) := hR.out.2.trans hb
      clear hb
      go_wp2
      go_ret
      exact ⟨rfl, HB2.out⟩
end Go.Proofs.YtmiiilamjbhheaaGreatDoor.sinks
