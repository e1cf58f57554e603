/-
  At every node the law FnExactCountOf returns true: CountOf answers as its specification at every argument, and writes nothing into it. No condition.
  The frame is after the kit's own program (proof-skeleton.mjs); the walk is ours.
-/
import Derived.Test.YtonlnoifhjhbiabRows
import Derived.Test.YtonlnoifhjhbiabImplCount
import Derived.Test.YtonlnoifhjhbiabNodeFlat
import Derived.Test.YtonlnoifhjhbiabNodeOpen
import Derived.WalkKit
import Derived.ProofKit
import Derived.OpenShut
import Derived.ShutString
import Derived.ChangeOld
import Derived.Below
import Derived.LaidMore
import Derived.OpenVars
namespace Go.Proofs.Ytonlnoifhjhbiab.fnExactCountOf
open Go.ChangeShapes Go.WideShapes Go.ChangeAt Go.RowKit Go.WideMaps Go.WideElems
open Go.ChangeMaps (open_string shut_string)
set_option linter.unusedVariables false

theorem own : ownKnob Try.prog.godebug = none := by kernel_rfl
theorem laidOut : laidOutB Try.prog = true := by kernel_rfl

theorem cnt_flat {k : Int} {p l u x : ByteArray} {ds : List pairs.Pair} {ats : List trees.Att} {ks : List trees.Tree} {da : Option Addr} {dc : Nat} {aa : Option Addr} {ac : Nat} {ka : Option Addr} {kc : Nat} {w : World} {B c : Nat} (hc : trees.cnt (.mk k p l u x ds ats ks) = c) (hz : trees.nsz (.mk k p l u x ds ats ks) ≤ 1048576) (hn : trees.NodeAt w B (.mk k p l u x ds ats ks) ⟨da, dc, aa, ac, ka, kc⟩) : Calls Try.prog 6 #[.agg #[.int .i64 k, .string p, .string l, .string u, .slice da ds.length dc, .slice aa ats.length ac, .slice ka ks.length kc, .string x]] w fun e w' => e = .returned (.int .i64 c) ∧ Below w.heap.size w w' := by
  have := trees.cnt_node B _ (.mk k p l u x ds ats ks) ⟨da, dc, aa, ac, ka, kc⟩ w (Nat.lt_succ_self _) (by omega) hn.node
  unfold trees.CntOk at this
  rw [hc] at this
  exact this
theorem impl_cnt_flat {k : Int} {p l u x : ByteArray} {ds : List pairs.Pair} {ats : List trees.Att} {ks : List trees.Tree} {da : Option Addr} {dc : Nat} {aa : Option Addr} {ac : Nat} {ka : Option Addr} {kc : Nat} {w : World} {B c : Nat} (hc : trees.cnt (.mk k p l u x ds ats ks) = c) (hz : trees.nsz (.mk k p l u x ds ats ks) ≤ 1048576) (hn : trees.NodeAt w B (.mk k p l u x ds ats ks) ⟨da, dc, aa, ac, ka, kc⟩) : Calls Try.prog 8 #[.agg #[.int .i64 k, .string p, .string l, .string u, .slice da ds.length dc, .slice aa ats.length ac, .slice ka ks.length kc, .string x]] w fun e w' => e = .returned (.int .i64 c) ∧ Below w.heap.size w w' := by
  have := trees.impl_cnt_node B _ (.mk k p l u x ds ats ks) ⟨da, dc, aa, ac, ka, kc⟩ w (Nat.lt_succ_self _) (by omega) hn.node
  unfold trees.ImplCntOk at this
  rw [hc] at this
  exact this

/-! ### The walk: the law returns true, and nothing that was there has turned -/
set_option maxRecDepth 100000 in
set_option maxHeartbeats 2000000 in
theorem walk (t0 : trees.Tree) (hd0 : trees.Hdr) (w : World) (w0 : trees.NodeIn w 0 t0 hd0) :
    Calls Try.prog 3 #[.agg (trees.vals t0 hd0)] w fun e w' => e = .returned (.bool true) ∧ Below w.heap.size w w' := by
  obtain ⟨k, p, l, u, x, ds, ats, ks⟩ := t0
  obtain ⟨da, dc, aa, ac, ka, kc⟩ := hd0
  have HN : Hid (trees.NodeAt w 0 (.mk k p l u x ds ats ks) ⟨da, dc, aa, ac, ka, kc⟩) := ⟨w0⟩
  simp only [trees.vals, trees.Tree.kind, trees.Tree.pre, trees.Tree.loc, trees.Tree.uri, trees.Tree.text, trees.Tree.ds, trees.Tree.ats, trees.Tree.kids]
  clear w0
  obtain ⟨c, hc⟩ : ∃ c, trees.cnt (.mk k p l u x ds ats ks) = c := ⟨_, rfl⟩
  have HC : Hid _ := hc
  clear hc
  go_enter Try.func3, Try.ntmps3
  go_wp2_with fail
  refine (trees.sz_flat (left := 1048576) (Nat.le_refl _) (HN.out.below ((Below.refl _ _).alloc (Nat.le_refl _) _))).mono ?_
  rintro e w1 ⟨⟨r, rfl, hr⟩, hb1⟩
  have HB1 : Hid _ := trees.box_under hb1
  have HX1 : Hid _ := trees.box_kept hb1
  obtain ⟨b0, b1, b2, b3, b4, b5, b6, b7⟩ := trees.box8 HX1.out
  clear hb1
  by_cases hneg : r < 0
  · go_wp2
    go_ret
    exact ⟨rfl, HB1.out⟩
  · have HZ : Hid (trees.nsz (.mk k p l u x ds ats ks) ≤ 1048576) := by have := hr (by omega); show _ ≤ _; omega
    clear hr
    go_wp2_with fail
    refine (trees.to_flat HZ.out (HN.out.below HB1.out)).mono ?_
    rintro e w2 ⟨⟨c1, c2, c3, c4, c5, c6, rfl, hn2⟩, hb2⟩
    have HN2 : Hid _ := hn2
    have HB2 : Hid _ := HB1.out.trans (hb2.mono HB1.out.size)
    have HX2 : Hid _ := (hb2.block _ (pairs.lt_heap HX1.out)).trans HX1.out
    clear hn2 hb2 b0 b1 b2 b3 b4 b5 b6 b7
    obtain ⟨b0, b1, b2, b3, b4, b5, b6, b7⟩ := trees.box8 HX2.out
    go_wp2_with fail
    refine (cnt_flat HC.out HZ.out HN2.out).mono ?_
    rintro e w3 ⟨rfl, hb3⟩
    have HB3 : Hid _ := HB2.out.trans (hb3.mono HB2.out.size)
    have HX3 : Hid _ := (hb3.block _ (pairs.lt_heap HX2.out)).trans HX2.out
    clear HN2 hb3 b0 b1 b2 b3 b4 b5 b6 b7
    obtain ⟨b0, b1, b2, b3, b4, b5, b6, b7⟩ := trees.box8 HX3.out
    go_wp2_with fail
    refine (trees.to_flat HZ.out (HN.out.below HB3.out)).mono ?_
    rintro e w4 ⟨⟨d1, d2, d3, d4, d5, d6, rfl, hn4⟩, hb4⟩
    have HN4 : Hid _ := hn4
    have HB4 : Hid _ := HB3.out.trans (hb4.mono HB3.out.size)
    have HX4 : Hid _ := (hb4.block _ (pairs.lt_heap HX3.out)).trans HX3.out
    clear hn4 hb4 b0 b1 b2 b3 b4 b5 b6 b7
    obtain ⟨b0, b1, b2, b3, b4, b5, b6, b7⟩ := trees.box8 HX4.out
    go_wp2_with fail
    refine (impl_cnt_flat HC.out HZ.out (HN4.out.below ((Below.refl _ _).alloc (Nat.le_refl _) _))).mono ?_
    rintro e w5 ⟨rfl, hb5⟩
    have HY5 : Hid _ := trees.box_kept hb5
    have hu5 := trees.box_under hb5
    have HB5 : Hid _ := HB4.out.trans (hu5.mono HB4.out.size)
    have HX5 : Hid _ := (hu5.block _ (pairs.lt_heap HX4.out)).trans HX4.out
    have HN5 : Hid _ := HN4.out.below hu5
    clear hb5 hu5 HN4 b0 b1 b2 b3 b4 b5 b6 b7
    obtain ⟨b0, b1, b2, b3, b4, b5, b6, b7⟩ := trees.box8 HX5.out
    obtain ⟨y0, y1, y2, y3, y4, y5, y6, y7⟩ := trees.box8 HY5.out
    have HBD : Hid (Below w.heap.size w w5.drew) := HB5.out.drew
    have HDR : Hid (Below w5.heap.size w5 w5.drew) := (Below.refl _ _).drew
    go_wp2_with fail
    go_region_with (first
      | (go_at_call 7; refine (trees.to_flat HZ.out (HN.out.below HBD.out)).mono ?_; rintro e w6 ⟨⟨g1, g2, g3, g4, g5, g6, rfl, hn6⟩, hb6⟩; have HN6 : Hid _ := hn6; have HB6 : Hid _ := HBD.out.trans (hb6.mono HBD.out.size); have HN5d : Hid _ := (HN5.out.below HDR.out).below hb6; have HY6 : Hid _ := (hb6.block _ (pairs.lt_heap HY5.out)).trans HY5.out; obtain ⟨z0, z1, z2, z3, z4, z5, z6, z7⟩ := trees.box8 HY6.out; clear hn6 hb6)
      | (go_at_call 9; refine (trees.eq_flat HN5d.out HN6.out).mono ?_; rintro e w7 ⟨rfl, hb7⟩; have HB7 : Hid _ := HB6.out.trans (hb7.mono HB6.out.size); clear hb7))
    all_goals
      go_wp2
      go_ret
      exact ⟨rfl, HB7.out⟩

/-! ### The row -/
set_option maxRecDepth 100000 in
theorem lifted (os : Os) (started : os.Started) (H : Type) (enc : TypeId × Value → H) :
    ReturnsInHanded {} Try.checked os 3 .any (Rows.fnExactCountOfSpec.pre6 enc Try.prog Try.f3 Rows.fnExactCountOfRow.domain false) (Rows.fnExactCountOfSpec.post enc Try.prog Try.f3 false true false false) := by
  refine returnsInHanded_of_change (C := Try.checked) own started (by kernel_rfl) Try.func3
    (ChangeSpec.witness6 (enc := enc) (C := Try.checked) false ⟨#[], #[.agg #[.int .i64 0, .string ByteArray.empty, .string ByteArray.empty, .string ByteArray.empty, .slice none 0 0, .slice none 0 0, .slice none 0 0, .string ByteArray.empty]], []⟩ 8 (by kernel_rfl) (by kernel_rfl) (by kernel_rfl) (by kernel_rfl)) ?_
  intro W base args ds gs before hval0 hW hcnd _
  have hval : ∀ (j : Nat) t v, Try.f3.params[j]? = some t → args[j]? = some v → Value.okWide Try.prog W .any base t v := hval0
  have hW' := hW
  obtain ⟨p, q, hA0, hV, rfl, hfz, hnd⟩ := hW
  have hA : DataW.TrodAll enc Try.prog W 0 (fun _ => true) true Try.f3.params.toList args.toList ds p := hA0
  rw [Try.params3] at hA hval
  obtain ⟨v0, vs0, d0, ds0, p0, q0, hargs, rfl, rfl, h0, r0⟩ := trodAll_cons hA
  obtain ⟨rfl, rfl, rfl⟩ := trodAll_nil r0
  obtain rfl : args = #[v0] := by cases args; simp_all
  obtain ⟨rfl, rfl⟩ := trodVars_none hV
  have k0 := h0
  have lt0 : ∀ x ∈ p0, x.block < W.heap.size := by obtain ⟨m, hm⟩ := k0; exact DataW.trod_lt m _ _ _ hm
  obtain ⟨t0, hd0, rfl, w0⟩ := trees.open_val_node (hval 0 26 v0 rfl rfl) h0
  clear hA0 hval0
  simp only [List.append_nil] at hW'
  refine (walk t0 hd0 W w0).mono fun e W' ⟨he, bel⟩ => ?_
  subst he
  exact ⟨_, rfl, _, _, _, [], _, [], hW', (trodAll_cons_mk (shut_bool Try.underlying4 _) trodAll_mk0), (trodAll_cons_mk (Below.trod laidOut (by kernel_rfl) (of_decide_eq_true (by kernel_rfl)) k0 bel lt0) trodAll_mk0), rfl, bel.frame _, fun h => by cases h⟩

/-- The statement. -/
theorem proved : Rows.FnExactCountOfSaid :=
  OpenClaim.holds_of_wide 3 Try.f3 rfl rfl rfl rfl rfl rfl rfl ⟨rfl, rfl, rfl, rfl, rfl⟩ rfl rfl rfl rfl rfl (by kernel_rfl) Try.func3 (by kernel_rfl)
    (of_decide_eq_true (by kernel_rfl)) (by unfold Func.isWrapper; first | (rw [if_pos (by decide +kernel)]; kernel_rfl) | (rw [if_neg (by decide +kernel)]; exact ⟨rfl, rfl⟩))
    (fun os started H enc _ => lifted os started H enc)
#print axioms proved
end Go.Proofs.Ytonlnoifhjhbiab.fnExactCountOf
