/-
  At every argument the law FnExactSameNode returns true: SameNode answers as its specification at every argument, and writes nothing into it. No condition.
  The frame is after the kit's own program (proof-skeleton.mjs); the walk is ours.
-/
import Derived.Test.YtonlnoifhjhbiaaRows
import Derived.Test.YtonlnoifhjhbiaaSpecSame
import Derived.Test.YtonlnoifhjhbiaaImplSame
import Derived.Test.YtonlnoifhjhbiaaNodeFlat
import Derived.Test.YtonlnoifhjhbiaaNodeOpen
import Derived.Deep.CutRange
import Derived.WalkKit
import Derived.ProofKit
import Derived.OpenShut
import Derived.ShutString
import Derived.ChangeOld
import Derived.Below
import Derived.LaidMore
import Derived.OpenVars
namespace Go.Proofs.Ytonlnoifhjhbiaa.fnExactSameNode
open Go.ChangeShapes Go.WideShapes Go.ChangeAt Go.RowKit Go.WideMaps Go.WideElems
open Go.ChangeMaps (open_string shut_string)
set_option linter.unusedVariables false

theorem own : ownKnob Try.prog.godebug = none := by kernel_rfl
theorem laidOut : laidOutB Try.prog = true := by kernel_rfl

theorem spec_flat {k : Int} {p l u x : ByteArray} {ds : List pairs.Pair} {ats : List trees.Att} {ks : List trees.Tree} {da : Option Addr} {dc : Nat} {aa : Option Addr} {ac : Nat} {ka : Option Addr} {kc : Nat} {k1 : Int} {p1 l1 u1 x1 : ByteArray} {ds1 : List pairs.Pair} {ats1 : List trees.Att} {ks1 : List trees.Tree} {da1 : Option Addr} {dc1 : Nat} {aa1 : Option Addr} {ac1 : Nat} {ka1 : Option Addr} {kc1 : Nat} {w : World} {B B1 : Nat} {c : Bool} (hc : trees.sameB (.mk k p l u x ds ats ks) (.mk k1 p1 l1 u1 x1 ds1 ats1 ks1) = c) (hz0 : trees.nsz (.mk k p l u x ds ats ks) ≤ 1048576) (hn0 : trees.NodeAt w B (.mk k p l u x ds ats ks) ⟨da, dc, aa, ac, ka, kc⟩) (hz1 : trees.nsz (.mk k1 p1 l1 u1 x1 ds1 ats1 ks1) ≤ 1048576) (hn1 : trees.NodeAt w B1 (.mk k1 p1 l1 u1 x1 ds1 ats1 ks1) ⟨da1, dc1, aa1, ac1, ka1, kc1⟩) : Calls Try.prog 19 #[.agg #[.int .i64 k, .string p, .string l, .string u, .slice da ds.length dc, .slice aa ats.length ac, .slice ka ks.length kc, .string x], .agg #[.int .i64 k1, .string p1, .string l1, .string u1, .slice da1 ds1.length dc1, .slice aa1 ats1.length ac1, .slice ka1 ks1.length kc1, .string x1]] w fun e w' => e = .returned (.bool c) ∧ Below w.heap.size w w' := by
  have := trees.same_node B B1 _ (.mk k p l u x ds ats ks) (.mk k1 p1 l1 u1 x1 ds1 ats1 ks1) ⟨da, dc, aa, ac, ka, kc⟩ ⟨da1, dc1, aa1, ac1, ka1, kc1⟩ w (Nat.lt_succ_self _) hn0.node hn1.node
  unfold trees.SameOk at this
  rw [hc] at this
  exact this
theorem impl_flat {k : Int} {p l u x : ByteArray} {ds : List pairs.Pair} {ats : List trees.Att} {ks : List trees.Tree} {da : Option Addr} {dc : Nat} {aa : Option Addr} {ac : Nat} {ka : Option Addr} {kc : Nat} {k1 : Int} {p1 l1 u1 x1 : ByteArray} {ds1 : List pairs.Pair} {ats1 : List trees.Att} {ks1 : List trees.Tree} {da1 : Option Addr} {dc1 : Nat} {aa1 : Option Addr} {ac1 : Nat} {ka1 : Option Addr} {kc1 : Nat} {w : World} {B B1 : Nat} {c : Bool} (hc : trees.sameB (.mk k p l u x ds ats ks) (.mk k1 p1 l1 u1 x1 ds1 ats1 ks1) = c) (hz0 : trees.nsz (.mk k p l u x ds ats ks) ≤ 1048576) (hn0 : trees.NodeAt w B (.mk k p l u x ds ats ks) ⟨da, dc, aa, ac, ka, kc⟩) (hz1 : trees.nsz (.mk k1 p1 l1 u1 x1 ds1 ats1 ks1) ≤ 1048576) (hn1 : trees.NodeAt w B1 (.mk k1 p1 l1 u1 x1 ds1 ats1 ks1) ⟨da1, dc1, aa1, ac1, ka1, kc1⟩) : Calls Try.prog 20 #[.agg #[.int .i64 k, .string p, .string l, .string u, .slice da ds.length dc, .slice aa ats.length ac, .slice ka ks.length kc, .string x], .agg #[.int .i64 k1, .string p1, .string l1, .string u1, .slice da1 ds1.length dc1, .slice aa1 ats1.length ac1, .slice ka1 ks1.length kc1, .string x1]] w fun e w' => e = .returned (.bool c) ∧ Below w.heap.size w w' := by
  have := trees.impl_same_node B B1 _ (.mk k p l u x ds ats ks) (.mk k1 p1 l1 u1 x1 ds1 ats1 ks1) ⟨da, dc, aa, ac, ka, kc⟩ ⟨da1, dc1, aa1, ac1, ka1, kc1⟩ w (Nat.lt_succ_self _) hn0.node hn1.node
  unfold trees.ImplSameOk at this
  rw [hc] at this
  exact this

/-! ### The walk: the law returns true, and nothing that was there has turned -/
set_option maxRecDepth 100000 in
set_option maxHeartbeats 4000000 in
theorem walk (t0 : trees.Tree) (hd0 : trees.Hdr) (t1 : trees.Tree) (hd1 : trees.Hdr) (w : World) (w0 : trees.NodeIn w 0 t0 hd0) (w1 : trees.NodeIn w 0 t1 hd1) :
    Calls Try.prog 5 #[.agg (trees.vals t0 hd0), .agg (trees.vals t1 hd1)] w fun e w' => e = .returned (.bool true) ∧ Below w.heap.size w w' := by
  obtain ⟨k, p, l, u, x, ds, ats, ks⟩ := t0
  obtain ⟨da, dc, aa, ac, ka, kc⟩ := hd0
  have HN0 : Hid (trees.NodeAt w 0 (.mk k p l u x ds ats ks) ⟨da, dc, aa, ac, ka, kc⟩) := ⟨w0⟩
  obtain ⟨k1, p1, l1, u1, x1, ds1, ats1, ks1⟩ := t1
  obtain ⟨da1, dc1, aa1, ac1, ka1, kc1⟩ := hd1
  have HN1 : Hid (trees.NodeAt w 0 (.mk k1 p1 l1 u1 x1 ds1 ats1 ks1) ⟨da1, dc1, aa1, ac1, ka1, kc1⟩) := ⟨w1⟩
  simp only [trees.vals, trees.Tree.kind, trees.Tree.pre, trees.Tree.loc, trees.Tree.uri, trees.Tree.text, trees.Tree.ds, trees.Tree.ats, trees.Tree.kids]
  clear w0 w1
  obtain ⟨c, hc⟩ : ∃ c, trees.sameB (.mk k p l u x ds ats ks) (.mk k1 p1 l1 u1 x1 ds1 ats1 ks1) = c := ⟨_, rfl⟩
  have HC : Hid _ := hc
  clear hc
  go_enter Try.func5, Try.ntmps5
  go_wp2_with fail
  refine (trees.sz_flat (left := 1048576) (Nat.le_refl _) (HN0.out.below (((Below.refl _ _).alloc (Nat.le_refl _) _).alloc (by simp) _))).mono ?_
  rintro e w1 ⟨⟨r0, rfl, hr0⟩, hb⟩
  have HTW : Hid _ := (trees.Two.new w _ _ _).below hb
  have HB1 : Hid (Below w.heap.size w w1) := HTW.out.bel
  have HX0_1 : Hid _ := HTW.out.fst
  have HX1_1 : Hid _ := HTW.out.snd
  clear hb HTW
  obtain ⟨x00, x01, x02, x03, x04, x05, x06, x07⟩ := trees.box8 HX0_1.out
  obtain ⟨x10, x11, x12, x13, x14, x15, x16, x17⟩ := trees.box8 HX1_1.out
  by_cases hneg0 : r0 < 0
  · go_wp2
    go_ret
    exact ⟨rfl, HB1.out⟩
  · obtain ⟨q0, rfl⟩ : ∃ q : Nat, r0 = q := ⟨r0.toNat, by omega⟩
    have hq0 : q0 ≤ 1048576 := by have := hr0 (by omega); omega
    have HZ0 : Hid (trees.nsz (.mk k p l u x ds ats ks) ≤ 1048576) := by have := hr0 (by omega); show _ ≤ _; omega
    clear hr0
    go_wp2_with fail
    refine (trees.sz_flat (left := q0) hq0 (HN1.out.below HB1.out)).mono ?_
    rintro e w2 ⟨⟨r1, rfl, hr1⟩, hb⟩
    have HB2 : Hid (Below w.heap.size w w2) := HB1.out.trans (hb.mono HB1.out.size)
    have HX0_2 : Hid _ := (hb.block _ (pairs.lt_heap HX0_1.out)).trans HX0_1.out
    have HX1_2 : Hid _ := (hb.block _ (pairs.lt_heap HX1_1.out)).trans HX1_1.out
    clear hb HX0_1 HX1_1
    clear x00 x01 x02 x03 x04 x05 x06 x07 x10 x11 x12 x13 x14 x15 x16 x17
    obtain ⟨x00, x01, x02, x03, x04, x05, x06, x07⟩ := trees.box8 HX0_2.out
    obtain ⟨x10, x11, x12, x13, x14, x15, x16, x17⟩ := trees.box8 HX1_2.out
    by_cases hneg1 : r1 < 0
    · go_wp2
      go_ret
      exact ⟨rfl, HB2.out⟩
    · obtain ⟨q1, rfl⟩ : ∃ q : Nat, r1 = q := ⟨r1.toNat, by omega⟩
      have hq1 : q1 ≤ 1048576 := by have := hr1 (by omega); omega
      have HZ1 : Hid (trees.nsz (.mk k1 p1 l1 u1 x1 ds1 ats1 ks1) ≤ 1048576) := by have := hr1 (by omega); show _ ≤ _; omega
      clear hr1
      have HBD : Hid (Below w.heap.size w w2.drew) := HB2.out.drew
      have HDHX0 : Hid _ := ((Below.refl w2.heap.size w2).drew.block _ (pairs.lt_heap HX0_2.out)).trans HX0_2.out
      have HDHX1 : Hid _ := ((Below.refl w2.heap.size w2).drew.block _ (pairs.lt_heap HX1_2.out)).trans HX1_2.out
      go_upto_region 8 with fail
      go_cut [6] from 20 to 24 (fun v wx => v = .bool c ∧ Below w.heap.size w wx ∧ wx.heap[w.heap.size]? = some (.cells #[.int .i64 k, .string p, .string l, .string u, .slice da ds.length dc, .slice aa ats.length ac, .slice ka ks.length kc, .string x] 36 (0, 0)) ∧ wx.heap[w.heap.size + 1]? = some (.cells #[.int .i64 k1, .string p1, .string l1, .string u1, .slice da1 ds1.length dc1, .slice aa1 ats1.length ac1, .slice ka1 ks1.length kc1, .string x1] 36 (0, 0)))
      case first =>
        go_region_with (first
          | (have hask := HB4; clear hask; go_at_call 19; refine (spec_flat HC.out HZ0.out (HM0s_4.out) HZ1.out (HM1s_4.out)).mono ?_; rintro e w5 ⟨rfl, hb⟩; have HB5 : Hid (Below w.heap.size w w5) := HB4.out.trans (hb.mono HB4.out.size); have HX0_5 : Hid _ := (hb.block _ (pairs.lt_heap HX0_4.out)).trans HX0_4.out; have HX1_5 : Hid _ := (hb.block _ (pairs.lt_heap HX1_4.out)).trans HX1_4.out; have HM0s_5 : Hid _ := HM0s_4.out.below hb; have HM1s_5 : Hid _ := HM1s_4.out.below hb; clear hb; obtain ⟨x00_5, x01_5, x02_5, x03_5, x04_5, x05_5, x06_5, x07_5⟩ := trees.box8 HX0_5.out; obtain ⟨x10_5, x11_5, x12_5, x13_5, x14_5, x15_5, x16_5, x17_5⟩ := trees.box8 HX1_5.out)
          | (have hask := HB3; clear hask; go_at_call 14; refine (trees.to_flat HZ1.out (HN1.out.below HB3.out)).mono ?_; rintro e w4 ⟨⟨da1_s, dc1_s, aa1_s, ac1_s, ka1_s, kc1_s, rfl, hn⟩, hb⟩; have HB4 : Hid (Below w.heap.size w w4) := HB3.out.trans (hb.mono HB3.out.size); have HX0_4 : Hid _ := (hb.block _ (pairs.lt_heap HX0_3.out)).trans HX0_3.out; have HX1_4 : Hid _ := (hb.block _ (pairs.lt_heap HX1_3.out)).trans HX1_3.out; have HM0s_4 : Hid _ := HM0s_3.out.below hb; clear hb; have HM1s_4 : Hid _ := hn; clear hn; obtain ⟨x00_4, x01_4, x02_4, x03_4, x04_4, x05_4, x06_4, x07_4⟩ := trees.box8 HX0_4.out; obtain ⟨x10_4, x11_4, x12_4, x13_4, x14_4, x15_4, x16_4, x17_4⟩ := trees.box8 HX1_4.out)
          | (go_at_call 14; refine (trees.to_flat HZ0.out (HN0.out.below HBD.out)).mono ?_; rintro e w3 ⟨⟨da_s, dc_s, aa_s, ac_s, ka_s, kc_s, rfl, hn⟩, hb⟩; have HB3 : Hid (Below w.heap.size w w3) := HBD.out.trans (hb.mono HBD.out.size); have HX0_3 : Hid _ := (hb.block _ (pairs.lt_heap HDHX0.out)).trans HDHX0.out; have HX1_3 : Hid _ := (hb.block _ (pairs.lt_heap HDHX1.out)).trans HDHX1.out; clear hb; have HM0s_3 : Hid _ := hn; clear hn; obtain ⟨x00_3, x01_3, x02_3, x03_3, x04_3, x05_3, x06_3, x07_3⟩ := trees.box8 HX0_3.out; obtain ⟨x10_3, x11_3, x12_3, x13_3, x14_3, x15_3, x16_3, x17_3⟩ := trees.box8 HX1_3.out))
        all_goals
          go_wp2_with fail
          go_meet
          exact ⟨rfl, HB5.out, HX0_5.out, HX1_5.out⟩
      case rest =>
        obtain ⟨rfl, hb5, hx0, hx1⟩ := hcut
        have HB5 : Hid (Below w.heap.size w wc) := hb5
        have HX0_5 : Hid _ := hx0
        have HX1_5 : Hid _ := hx1
        clear hb5 hx0 hx1 HX0_2 HX1_2 HDHX0 HDHX1 HBD HB2
        clear x00 x01 x02 x03 x04 x05 x06 x07 x10 x11 x12 x13 x14 x15 x16 x17
        obtain ⟨x00, x01, x02, x03, x04, x05, x06, x07⟩ := trees.box8 HX0_5.out
        obtain ⟨x10, x11, x12, x13, x14, x15, x16, x17⟩ := trees.box8 HX1_5.out
        go_wp2_with fail
        refine (trees.to_flat HZ0.out (HN0.out.below HB5.out)).mono ?_
        rintro e w6 ⟨⟨da_i, dc_i, aa_i, ac_i, ka_i, kc_i, rfl, hn⟩, hb⟩
        have HB6 : Hid (Below w.heap.size w w6) := HB5.out.trans (hb.mono HB5.out.size)
        have HX0_6 : Hid _ := (hb.block _ (pairs.lt_heap HX0_5.out)).trans HX0_5.out
        have HX1_6 : Hid _ := (hb.block _ (pairs.lt_heap HX1_5.out)).trans HX1_5.out
        clear hb HX0_5 HX1_5
        clear x00 x01 x02 x03 x04 x05 x06 x07 x10 x11 x12 x13 x14 x15 x16 x17
        obtain ⟨x00, x01, x02, x03, x04, x05, x06, x07⟩ := trees.box8 HX0_6.out
        obtain ⟨x10, x11, x12, x13, x14, x15, x16, x17⟩ := trees.box8 HX1_6.out
        have HM0i_6 : Hid _ := hn
        clear hn
        obtain ⟨ax00, ax01, ax02, ax03, ax04, ax05, ax06, ax07⟩ := trees.box8 ((Below.heap_alloc _ (.cells #[.int .i64 k, .string p, .string l, .string u, .slice da_i ds.length dc_i, .slice aa_i ats.length ac_i, .slice ka_i ks.length kc_i, .string x] 30) _ (pairs.lt_heap HX0_6.out)).trans HX0_6.out)
        obtain ⟨ax10, ax11, ax12, ax13, ax14, ax15, ax16, ax17⟩ := trees.box8 ((Below.heap_alloc _ (.cells #[.int .i64 k, .string p, .string l, .string u, .slice da_i ds.length dc_i, .slice aa_i ats.length ac_i, .slice ka_i ks.length kc_i, .string x] 30) _ (pairs.lt_heap HX1_6.out)).trans HX1_6.out)
        go_wp2_with fail
        refine (trees.to_flat HZ1.out (HN1.out.below (HB6.out.alloc HB6.out.size _))).mono ?_
        rintro e w7 ⟨⟨da1_i, dc1_i, aa1_i, ac1_i, ka1_i, kc1_i, rfl, hn⟩, hb⟩
        have hu := trees.box_under hb
        have HB7 : Hid (Below w.heap.size w w7) := HB6.out.trans (hu.mono HB6.out.size)
        have HX0_7 : Hid _ := (hu.block _ (pairs.lt_heap HX0_6.out)).trans HX0_6.out
        have HX1_7 : Hid _ := (hu.block _ (pairs.lt_heap HX1_6.out)).trans HX1_6.out
        have HM0i_7 : Hid _ := HM0i_6.out.below hu
        have HY0_7 : Hid _ := trees.box_kept hb
        clear hb hu HX0_6 HX1_6 HM0i_6
        clear x00 x01 x02 x03 x04 x05 x06 x07 x10 x11 x12 x13 x14 x15 x16 x17
        obtain ⟨x00, x01, x02, x03, x04, x05, x06, x07⟩ := trees.box8 HX0_7.out
        obtain ⟨x10, x11, x12, x13, x14, x15, x16, x17⟩ := trees.box8 HX1_7.out
        obtain ⟨y00, y01, y02, y03, y04, y05, y06, y07⟩ := trees.box8 HY0_7.out
        clear ax00 ax01 ax02 ax03 ax04 ax05 ax06 ax07 ax10 ax11 ax12 ax13 ax14 ax15 ax16 ax17
        have HM1i_7 : Hid _ := hn
        clear hn
        obtain ⟨ax00, ax01, ax02, ax03, ax04, ax05, ax06, ax07⟩ := trees.box8 ((Below.heap_alloc _ (.cells #[.int .i64 k1, .string p1, .string l1, .string u1, .slice da1_i ds1.length dc1_i, .slice aa1_i ats1.length ac1_i, .slice ka1_i ks1.length kc1_i, .string x1] 30) _ (pairs.lt_heap HX0_7.out)).trans HX0_7.out)
        obtain ⟨ax10, ax11, ax12, ax13, ax14, ax15, ax16, ax17⟩ := trees.box8 ((Below.heap_alloc _ (.cells #[.int .i64 k1, .string p1, .string l1, .string u1, .slice da1_i ds1.length dc1_i, .slice aa1_i ats1.length ac1_i, .slice ka1_i ks1.length kc1_i, .string x1] 30) _ (pairs.lt_heap HX1_7.out)).trans HX1_7.out)
        obtain ⟨ay00, ay01, ay02, ay03, ay04, ay05, ay06, ay07⟩ := trees.box8 ((Below.heap_alloc _ (.cells #[.int .i64 k1, .string p1, .string l1, .string u1, .slice da1_i ds1.length dc1_i, .slice aa1_i ats1.length ac1_i, .slice ka1_i ks1.length kc1_i, .string x1] 30) _ (pairs.lt_heap HY0_7.out)).trans HY0_7.out)
        go_wp2_with fail
        refine (impl_flat HC.out HZ0.out (HM0i_7.out.below ((Below.refl _ _).alloc (Nat.le_refl _) _)) HZ1.out (HM1i_7.out.below ((Below.refl _ _).alloc (Nat.le_refl _) _))).mono ?_
        rintro e w8 ⟨rfl, hb⟩
        have hu := trees.box_under hb
        have HB8 : Hid (Below w.heap.size w w8) := HB7.out.trans (hu.mono HB7.out.size)
        have HX0_8 : Hid _ := (hu.block _ (pairs.lt_heap HX0_7.out)).trans HX0_7.out
        have HX1_8 : Hid _ := (hu.block _ (pairs.lt_heap HX1_7.out)).trans HX1_7.out
        have HY0_8 : Hid _ := (hu.block _ (pairs.lt_heap HY0_7.out)).trans HY0_7.out
        have HM0i_8 : Hid _ := HM0i_7.out.below hu
        have HM1i_8 : Hid _ := HM1i_7.out.below hu
        have HY1_8 : Hid _ := trees.box_kept hb
        clear hb hu HX0_7 HX1_7 HY0_7 HM0i_7 HM1i_7
        clear x00 x01 x02 x03 x04 x05 x06 x07 x10 x11 x12 x13 x14 x15 x16 x17 y00 y01 y02 y03 y04 y05 y06 y07
        obtain ⟨x00, x01, x02, x03, x04, x05, x06, x07⟩ := trees.box8 HX0_8.out
        obtain ⟨x10, x11, x12, x13, x14, x15, x16, x17⟩ := trees.box8 HX1_8.out
        obtain ⟨y00, y01, y02, y03, y04, y05, y06, y07⟩ := trees.box8 HY0_8.out
        obtain ⟨y10, y11, y12, y13, y14, y15, y16, y17⟩ := trees.box8 HY1_8.out
        clear ax00 ax01 ax02 ax03 ax04 ax05 ax06 ax07 ax10 ax11 ax12 ax13 ax14 ax15 ax16 ax17 ay00 ay01 ay02 ay03 ay04 ay05 ay06 ay07
        have HBD : Hid (Below w.heap.size w w8.drew) := HB8.out.drew
        have HDR : Hid (Below w8.heap.size w8 w8.drew) := (Below.refl _ _).drew
        have hcc : (c != c) = false := by cases c <;> rfl
        go_upto_region 14 with fail
        go_cut [39] from 35 to 39 (fun v wx => v = .bool false ∧ Below w.heap.size w wx ∧ wx.heap[w.heap.size + 1]? = some (.cells #[.int .i64 k1, .string p1, .string l1, .string u1, .slice da1 ds1.length dc1, .slice aa1 ats1.length ac1, .slice ka1 ks1.length kc1, .string x1] 36 (0, 0)) ∧ wx.heap[w7.heap.size]? = some (.cells #[.int .i64 k1, .string p1, .string l1, .string u1, .slice da1_i ds1.length dc1_i, .slice aa1_i ats1.length ac1_i, .slice ka1_i ks1.length kc1_i, .string x1] 30 (0, 0)) ∧ (∃ B, trees.NodeAt wx B (.mk k1 p1 l1 u1 x1 ds1 ats1 ks1) ⟨da1_i, dc1_i, aa1_i, ac1_i, ka1_i, kc1_i⟩))
        case first =>
          go_region_with (first
            | (go_at_call 14; refine (trees.to_flat HZ0.out (HN0.out.below HBD.out)).mono ?_; rintro e w6 ⟨⟨g1, g2, g3, g4, g5, g6, rfl, hn6⟩, hb6⟩; have HN6 : Hid _ := hn6; have HB6 : Hid _ := HBD.out.trans (hb6.mono HBD.out.size); have HN5 : Hid _ := (HM0i_8.out.below HDR.out).below hb6; have HX6HX0 : Hid _ := (hb6.block _ (pairs.lt_heap HX0_8.out)).trans HX0_8.out; have HX6HX1 : Hid _ := (hb6.block _ (pairs.lt_heap HX1_8.out)).trans HX1_8.out; have HX6HY0 : Hid _ := (hb6.block _ (pairs.lt_heap HY0_8.out)).trans HY0_8.out; have HX6HY1 : Hid _ := (hb6.block _ (pairs.lt_heap HY1_8.out)).trans HY1_8.out; have HM6HM1i : Hid _ := (HM1i_8.out.below HDR.out).below hb6; obtain ⟨zX00, zX01, zX02, zX03, zX04, zX05, zX06, zX07⟩ := trees.box8 HX6HX0.out; obtain ⟨zX10, zX11, zX12, zX13, zX14, zX15, zX16, zX17⟩ := trees.box8 HX6HX1.out; obtain ⟨zY00, zY01, zY02, zY03, zY04, zY05, zY06, zY07⟩ := trees.box8 HX6HY0.out; obtain ⟨zY10, zY11, zY12, zY13, zY14, zY15, zY16, zY17⟩ := trees.box8 HX6HY1.out; clear hn6 hb6)
            | (go_at_call 17; refine (trees.eq_flat HN5.out HN6.out).mono ?_; rintro e w10 ⟨rfl, hb7⟩; have HB10 : Hid (Below w.heap.size w w10) := HB6.out.trans (hb7.mono HB6.out.size); have HX0_10 : Hid _ := (hb7.block _ (pairs.lt_heap HX6HX0.out)).trans HX6HX0.out; have HX1_10 : Hid _ := (hb7.block _ (pairs.lt_heap HX6HX1.out)).trans HX6HX1.out; have HY0_10 : Hid _ := (hb7.block _ (pairs.lt_heap HX6HY0.out)).trans HX6HY0.out; have HY1_10 : Hid _ := (hb7.block _ (pairs.lt_heap HX6HY1.out)).trans HX6HY1.out; have HM1i_10 : Hid _ := HM6HM1i.out.below hb7; clear hb7))
          all_goals
            go_wp2_with fail
            go_meet
            exact ⟨rfl, HB10.out, HX1_10.out, HY1_10.out, _, HM1i_10.out⟩
        case rest =>
          obtain ⟨rfl, hb10, hx1, hy1, B10, hm1⟩ := hcut
          have HB10 : Hid (Below w.heap.size w wc) := hb10
          have HX1_10 : Hid _ := hx1
          have HY1_10 : Hid _ := hy1
          have HM1i_10 : Hid _ := hm1
          clear hb10 hx1 hy1 hm1 HX0_8 HX1_8 HY0_8 HY1_8 HBD HDR
          clear x00 x01 x02 x03 x04 x05 x06 x07 x10 x11 x12 x13 x14 x15 x16 x17 y00 y01 y02 y03 y04 y05 y06 y07 y10 y11 y12 y13 y14 y15 y16 y17
          obtain ⟨x10, x11, x12, x13, x14, x15, x16, x17⟩ := trees.box8 HX1_10.out
          obtain ⟨y10, y11, y12, y13, y14, y15, y16, y17⟩ := trees.box8 HY1_10.out
          have HBD : Hid (Below w.heap.size w wc.drew) := HB10.out.drew
          have HDR : Hid (Below wc.heap.size wc wc.drew) := (Below.refl _ _).drew
          go_upto_region 16 with fail
          go_region_with (first
            | (go_at_call 14; refine (trees.to_flat HZ1.out (HN1.out.below HBD.out)).mono ?_; rintro e w6 ⟨⟨g1, g2, g3, g4, g5, g6, rfl, hn6⟩, hb6⟩; have HN6 : Hid _ := hn6; have HB6 : Hid _ := HBD.out.trans (hb6.mono HBD.out.size); have HN5 : Hid _ := (HM1i_10.out.below HDR.out).below hb6; have HX6HX1 : Hid _ := (hb6.block _ (pairs.lt_heap HX1_10.out)).trans HX1_10.out; have HX6HY1 : Hid _ := (hb6.block _ (pairs.lt_heap HY1_10.out)).trans HY1_10.out; obtain ⟨zX10, zX11, zX12, zX13, zX14, zX15, zX16, zX17⟩ := trees.box8 HX6HX1.out; obtain ⟨zY10, zY11, zY12, zY13, zY14, zY15, zY16, zY17⟩ := trees.box8 HX6HY1.out; clear hn6 hb6)
            | (go_at_call 17; refine (trees.eq_flat HN5.out HN6.out).mono ?_; rintro e w12 ⟨rfl, hb7⟩; have HB12 : Hid (Below w.heap.size w w12) := HB6.out.trans (hb7.mono HB6.out.size); have HX1_12 : Hid _ := (hb7.block _ (pairs.lt_heap HX6HX1.out)).trans HX6HX1.out; have HY1_12 : Hid _ := (hb7.block _ (pairs.lt_heap HX6HY1.out)).trans HX6HY1.out; clear hb7))
          all_goals
            go_wp2
            go_ret
            exact ⟨rfl, HB12.out⟩

/-! ### The row -/
set_option maxRecDepth 100000 in
theorem lifted (os : Os) (started : os.Started) (H : Type) (enc : TypeId × Value → H) :
    ReturnsInHanded {} Try.checked os 5 .any (Rows.fnExactSameNodeSpec.pre6 enc Try.prog Try.f5 Rows.fnExactSameNodeRow.domain false) (Rows.fnExactSameNodeSpec.post enc Try.prog Try.f5 false true false false) := by
  refine returnsInHanded_of_change (C := Try.checked) own started (by kernel_rfl) Try.func5
    (ChangeSpec.witness6 (enc := enc) (C := Try.checked) false ⟨#[], #[.agg #[.int .i64 0, .string ByteArray.empty, .string ByteArray.empty, .string ByteArray.empty, .slice none 0 0, .slice none 0 0, .slice none 0 0, .string ByteArray.empty], .agg #[.int .i64 0, .string ByteArray.empty, .string ByteArray.empty, .string ByteArray.empty, .slice none 0 0, .slice none 0 0, .slice none 0 0, .string ByteArray.empty]], []⟩ 8 (by kernel_rfl) (by kernel_rfl) (by kernel_rfl) (by kernel_rfl)) ?_
  intro W base args ds gs before hval0 hW hcnd _
  have hval : ∀ (j : Nat) t v, Try.f5.params[j]? = some t → args[j]? = some v → Value.okWide Try.prog W .any base t v := hval0
  have hW' := hW
  obtain ⟨p, q, hA0, hV, rfl, hfz, hnd⟩ := hW
  have hA : DataW.TrodAll enc Try.prog W 0 (fun _ => true) true Try.f5.params.toList args.toList ds p := hA0
  rw [Try.params5] at hA hval
  obtain ⟨v0, vs0, d0, ds0, p0, q0, hargs, rfl, rfl, h0, r0⟩ := trodAll_cons hA
  obtain ⟨v1, vs1, d1, ds1, p1, q1, rfl, rfl, rfl, h1, r1⟩ := trodAll_cons r0
  obtain ⟨rfl, rfl, rfl⟩ := trodAll_nil r1
  obtain rfl : args = #[v0, v1] := by cases args; simp_all
  obtain ⟨rfl, rfl⟩ := trodVars_none hV
  have k0 := h0
  have lt0 : ∀ x ∈ p0, x.block < W.heap.size := by obtain ⟨m, hm⟩ := k0; exact DataW.trod_lt m _ _ _ hm
  obtain ⟨t0, hd0, rfl, w0⟩ := trees.open_val_node (hval 0 36 v0 rfl rfl) h0
  have k1 := h1
  have lt1 : ∀ x ∈ p1, x.block < W.heap.size := by obtain ⟨m, hm⟩ := k1; exact DataW.trod_lt m _ _ _ hm
  obtain ⟨t1, hd1, rfl, w1⟩ := trees.open_val_node (hval 1 36 v1 rfl rfl) h1
  clear hA0 hval0
  simp only [List.append_nil] at hW'
  refine (walk t0 hd0 t1 hd1 W w0 w1).mono fun e W' ⟨he, bel⟩ => ?_
  subst he
  exact ⟨_, rfl, _, _, _, [], _, [], hW', (trodAll_cons_mk (shut_bool Try.underlying4 _) trodAll_mk0), (trodAll_cons_mk (Below.trod laidOut (by kernel_rfl) (of_decide_eq_true (by kernel_rfl)) k0 bel lt0) (trodAll_cons_mk (Below.trod laidOut (by kernel_rfl) (of_decide_eq_true (by kernel_rfl)) k1 bel lt1) trodAll_mk0)), rfl, bel.frame _, fun h => by cases h⟩

/-- The statement. -/
theorem proved : Rows.FnExactSameNodeSaid :=
  OpenClaim.holds_of_wide 5 Try.f5 rfl rfl rfl rfl rfl rfl rfl ⟨rfl, rfl, rfl, rfl, rfl⟩ rfl rfl rfl rfl rfl (by kernel_rfl) Try.func5 (by kernel_rfl)
    (of_decide_eq_true (by kernel_rfl)) (by unfold Func.isWrapper; first | (rw [if_pos (by decide +kernel)]; kernel_rfl) | (rw [if_neg (by decide +kernel)]; exact ⟨rfl, rfl⟩))
    (fun os started H enc _ => lifted os started H enc)
#print axioms proved
end Go.Proofs.Ytonlnoifhjhbiaa.fnExactSameNode
