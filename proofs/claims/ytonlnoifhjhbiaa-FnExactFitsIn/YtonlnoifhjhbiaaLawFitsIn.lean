/-
  At every argument the law FnExactFitsIn returns true: FitsIn answers as its specification at every argument, and writes nothing into it. No condition.
  The frame is after the kit's own program (proof-skeleton.mjs); the walk is ours.
-/
import Derived.Test.YtonlnoifhjhbiaaRows
import Derived.Test.YtonlnoifhjhbiaaSpecFits
import Derived.Test.YtonlnoifhjhbiaaImplFits
import Derived.Test.YtonlnoifhjhbiaaNodeFlat
import Derived.Test.YtonlnoifhjhbiaaNodeOpen
import Derived.WalkKit
import Derived.ProofKit
import Derived.OpenShut
import Derived.ShutString
import Derived.ChangeOld
import Derived.Below
import Derived.LaidMore
import Derived.OpenVars
namespace Go.Proofs.Ytonlnoifhjhbiaa.fnExactFitsIn
open Go.ChangeShapes Go.WideShapes Go.ChangeAt Go.RowKit Go.WideMaps Go.WideElems
open Go.ChangeMaps (open_string shut_string)
set_option linter.unusedVariables false

theorem own : ownKnob Try.prog.godebug = none := by kernel_rfl
theorem laidOut : laidOutB Try.prog = true := by kernel_rfl

theorem spec_flat {k : Int} {p l u x : ByteArray} {ds : List pairs.Pair} {ats : List trees.Att} {ks : List trees.Tree} {da : Option Addr} {dc : Nat} {aa : Option Addr} {ac : Nat} {ka : Option Addr} {kc : Nat} {a1 : Option Addr} {L1 : List pairs.Pair} {cap1 : Nat} {w : World} {B : Nat} {c : Bool} (hc : trees.fitsB (.mk k p l u x ds ats ks) L1 = c) (hz0 : trees.nsz (.mk k p l u x ds ats ks) ≤ 1048576) (hn0 : trees.NodeAt w B (.mk k p l u x ds ats ks) ⟨da, dc, aa, ac, ka, kc⟩) (hz1 : L1.length ≤ 1048576) (hn1 : pairs.PairsAt w a1 L1) : Calls Try.prog 13 #[.agg #[.int .i64 k, .string p, .string l, .string u, .slice da ds.length dc, .slice aa ats.length ac, .slice ka ks.length kc, .string x], .slice a1 L1.length cap1] w fun e w' => e = .returned (.bool c) ∧ Below w.heap.size w w' := by
  have := trees.fit_node B _ (.mk k p l u x ds ats ks) ⟨da, dc, aa, ac, ka, kc⟩ a1 L1 cap1 w (Nat.lt_succ_self _) (by omega) hn1.texts hn0.node hn1
  unfold trees.FitOk at this
  rw [hc] at this
  exact this
theorem impl_flat {k : Int} {p l u x : ByteArray} {ds : List pairs.Pair} {ats : List trees.Att} {ks : List trees.Tree} {da : Option Addr} {dc : Nat} {aa : Option Addr} {ac : Nat} {ka : Option Addr} {kc : Nat} {a1 : Option Addr} {L1 : List pairs.Pair} {cap1 : Nat} {w : World} {B : Nat} {c : Bool} (hc : trees.fitsB (.mk k p l u x ds ats ks) L1 = c) (hz0 : trees.nsz (.mk k p l u x ds ats ks) ≤ 1048576) (hn0 : trees.NodeAt w B (.mk k p l u x ds ats ks) ⟨da, dc, aa, ac, ka, kc⟩) (hz1 : L1.length ≤ 1048576) (hn1 : pairs.PairsAt w a1 L1) : Calls Try.prog 16 #[.agg #[.int .i64 k, .string p, .string l, .string u, .slice da ds.length dc, .slice aa ats.length ac, .slice ka ks.length kc, .string x], .slice a1 L1.length cap1] w fun e w' => e = .returned (.bool c) ∧ Below w.heap.size w w' := by
  have := trees.impl_fit_node B _ (.mk k p l u x ds ats ks) ⟨da, dc, aa, ac, ka, kc⟩ a1 L1 cap1 w (Nat.lt_succ_self _) (by omega) hn0.node hn1
  unfold trees.ImplFitOk at this
  rw [hc] at this
  exact this

/-! ### The walk: the law returns true, and nothing that was there has turned -/
set_option maxRecDepth 100000 in
set_option maxHeartbeats 4000000 in
theorem walk (t0 : trees.Tree) (hd0 : trees.Hdr) (a1 : Option Addr) (cap1 : Nat) (L1 : List pairs.Pair) (w : World) (w0 : trees.NodeIn w 0 t0 hd0) (w1 : pairs.PairsAt w a1 L1) :
    Calls Try.prog 4 #[.agg (trees.vals t0 hd0), .slice a1 L1.length cap1] w fun e w' => e = .returned (.bool true) ∧ Below w.heap.size w w' := by
  obtain ⟨k, p, l, u, x, ds, ats, ks⟩ := t0
  obtain ⟨da, dc, aa, ac, ka, kc⟩ := hd0
  have HN0 : Hid (trees.NodeAt w 0 (.mk k p l u x ds ats ks) ⟨da, dc, aa, ac, ka, kc⟩) := ⟨w0⟩
  have HN1 : Hid (pairs.PairsAt w a1 L1) := w1
  simp only [trees.vals, trees.Tree.kind, trees.Tree.pre, trees.Tree.loc, trees.Tree.uri, trees.Tree.text, trees.Tree.ds, trees.Tree.ats, trees.Tree.kids]
  clear w0 w1
  obtain ⟨c, hc⟩ : ∃ c, trees.fitsB (.mk k p l u x ds ats ks) L1 = c := ⟨_, rfl⟩
  have HC : Hid _ := hc
  clear hc
  go_enter Try.func4, Try.ntmps4
  go_wp2_with fail
  refine (trees.sz_flat (left := 1048576) (Nat.le_refl _) (HN0.out.below ((Below.refl _ _).alloc (Nat.le_refl _) _))).mono ?_
  rintro e w1 ⟨⟨r0, rfl, hr0⟩, hb⟩
  have HB1 : Hid (Below w.heap.size w w1) := trees.box_under hb
  have HX0_1 : Hid _ := trees.box_kept hb
  clear hb
  obtain ⟨x00, x01, x02, x03, x04, x05, x06, x07⟩ := trees.box8 HX0_1.out
  by_cases hneg0 : r0 < 0
  · go_wp2
    go_ret
    exact ⟨rfl, HB1.out⟩
  · obtain ⟨q0, rfl⟩ : ∃ q : Nat, r0 = q := ⟨r0.toNat, by omega⟩
    have hq0 : q0 ≤ 1048576 := by have := hr0 (by omega); omega
    have HZ0 : Hid (trees.nsz (.mk k p l u x ds ats ks) ≤ 1048576) := by have := hr0 (by omega); show _ ≤ _; omega
    clear hr0
    go_wp2_with fail
    refine (pairs.szx_DeclS _ _ _ _ q0 hq0 (HN1.out.below (Nat.le_refl _) HB1.out)).mono ?_
    rintro e w2 ⟨⟨r1, rfl, hr1⟩, hb⟩
    have HB2 : Hid (Below w.heap.size w w2) := HB1.out.trans (hb.mono HB1.out.size)
    have HX0_2 : Hid _ := (hb.block _ (pairs.lt_heap HX0_1.out)).trans HX0_1.out
    clear hb HX0_1
    clear x00 x01 x02 x03 x04 x05 x06 x07
    obtain ⟨x00, x01, x02, x03, x04, x05, x06, x07⟩ := trees.box8 HX0_2.out
    by_cases hneg1 : r1 < 0
    · go_wp2
      go_ret
      exact ⟨rfl, HB2.out⟩
    · obtain ⟨q1, rfl⟩ : ∃ q : Nat, r1 = q := ⟨r1.toNat, by omega⟩
      have hq1 : q1 ≤ 1048576 := by have := hr1 (by omega); omega
      have HZ1 : Hid (L1.length + pairs.sizeTo L1 L1.length ≤ 1048576) := by have := hr1 (by omega); show _ ≤ _; omega
      clear hr1
      go_wp2_with fail
      refine (trees.to_flat HZ0.out (HN0.out.below HB2.out)).mono ?_
      rintro e w3 ⟨⟨da_s, dc_s, aa_s, ac_s, ka_s, kc_s, rfl, hn⟩, hb⟩
      have HB3 : Hid (Below w.heap.size w w3) := HB2.out.trans (hb.mono HB2.out.size)
      have HX0_3 : Hid _ := (hb.block _ (pairs.lt_heap HX0_2.out)).trans HX0_2.out
      clear hb HX0_2
      clear x00 x01 x02 x03 x04 x05 x06 x07
      obtain ⟨x00, x01, x02, x03, x04, x05, x06, x07⟩ := trees.box8 HX0_3.out
      have HM0s_3 : Hid _ := hn
      clear hn
      go_wp2_with fail
      refine (pairs.to_DeclS _ _ _ _ (HN1.out.below (Nat.le_refl _) HB3.out) (by have := HZ1.out; omega)).mono ?_
      rintro e w4 ⟨⟨g1s, rfl, hg, hn⟩, hb⟩
      have HB4 : Hid (Below w.heap.size w w4) := HB3.out.trans (hb.mono HB3.out.size)
      have HX0_4 : Hid _ := (hb.block _ (pairs.lt_heap HX0_3.out)).trans HX0_3.out
      have HM0s_4 : Hid _ := HM0s_3.out.below hb
      clear hb HX0_3 HM0s_3
      clear x00 x01 x02 x03 x04 x05 x06 x07
      obtain ⟨x00, x01, x02, x03, x04, x05, x06, x07⟩ := trees.box8 HX0_4.out
      have HM1s_4 : Hid _ := hn
      clear hn hg
      go_wp2_with fail
      refine (spec_flat HC.out HZ0.out (HM0s_4.out) (by have := HZ1.out; omega) (HM1s_4.out)).mono ?_
      rintro e w5 ⟨rfl, hb⟩
      have HB5 : Hid (Below w.heap.size w w5) := HB4.out.trans (hb.mono HB4.out.size)
      have HX0_5 : Hid _ := (hb.block _ (pairs.lt_heap HX0_4.out)).trans HX0_4.out
      have HM0s_5 : Hid _ := HM0s_4.out.below hb
      have HM1s_5 : Hid _ := HM1s_4.out.below (Nat.le_refl _) hb
      clear hb HX0_4 HM0s_4 HM1s_4
      clear x00 x01 x02 x03 x04 x05 x06 x07
      obtain ⟨x00, x01, x02, x03, x04, x05, x06, x07⟩ := trees.box8 HX0_5.out
      clear HM0s_5
      clear HM1s_5
      go_wp2_with fail
      refine (trees.to_flat HZ0.out (HN0.out.below HB5.out)).mono ?_
      rintro e w6 ⟨⟨da_i, dc_i, aa_i, ac_i, ka_i, kc_i, rfl, hn⟩, hb⟩
      have HB6 : Hid (Below w.heap.size w w6) := HB5.out.trans (hb.mono HB5.out.size)
      have HX0_6 : Hid _ := (hb.block _ (pairs.lt_heap HX0_5.out)).trans HX0_5.out
      clear hb HX0_5
      clear x00 x01 x02 x03 x04 x05 x06 x07
      obtain ⟨x00, x01, x02, x03, x04, x05, x06, x07⟩ := trees.box8 HX0_6.out
      have HM0i_6 : Hid _ := hn
      clear hn
      go_wp2_with fail
      refine (pairs.to_DeclS _ _ _ _ (HN1.out.below (Nat.le_refl _) (HB6.out.alloc HB6.out.size _)) (by have := HZ1.out; omega)).mono ?_
      rintro e w7 ⟨⟨g1i, rfl, hg, hn⟩, hb⟩
      have hu := trees.box_under hb
      have HB7 : Hid (Below w.heap.size w w7) := HB6.out.trans (hu.mono HB6.out.size)
      have HX0_7 : Hid _ := (hu.block _ (pairs.lt_heap HX0_6.out)).trans HX0_6.out
      have HM0i_7 : Hid _ := HM0i_6.out.below hu
      have HY0_7 : Hid _ := trees.box_kept hb
      clear hb hu HX0_6 HM0i_6
      clear x00 x01 x02 x03 x04 x05 x06 x07
      obtain ⟨x00, x01, x02, x03, x04, x05, x06, x07⟩ := trees.box8 HX0_7.out
      obtain ⟨y00, y01, y02, y03, y04, y05, y06, y07⟩ := trees.box8 HY0_7.out
      have HM1i_7 : Hid _ := hn
      clear hn hg
      go_wp2_with fail
      refine (impl_flat HC.out HZ0.out (HM0i_7.out) (by have := HZ1.out; omega) (HM1i_7.out)).mono ?_
      rintro e w8 ⟨rfl, hb⟩
      have HB8 : Hid (Below w.heap.size w w8) := HB7.out.trans (hb.mono HB7.out.size)
      have HX0_8 : Hid _ := (hb.block _ (pairs.lt_heap HX0_7.out)).trans HX0_7.out
      have HY0_8 : Hid _ := (hb.block _ (pairs.lt_heap HY0_7.out)).trans HY0_7.out
      have HM0i_8 : Hid _ := HM0i_7.out.below hb
      have HM1i_8 : Hid _ := HM1i_7.out.below (Nat.le_refl _) hb
      clear hb HX0_7 HY0_7 HM0i_7 HM1i_7
      clear x00 x01 x02 x03 x04 x05 x06 x07 y00 y01 y02 y03 y04 y05 y06 y07
      obtain ⟨x00, x01, x02, x03, x04, x05, x06, x07⟩ := trees.box8 HX0_8.out
      obtain ⟨y00, y01, y02, y03, y04, y05, y06, y07⟩ := trees.box8 HY0_8.out
      have HBD : Hid (Below w.heap.size w w8.drew) := HB8.out.drew
      have HDR : Hid (Below w8.heap.size w8 w8.drew) := (Below.refl _ _).drew
      cases c
      all_goals
        go_wp2_with fail
        go_region_with (first
          | (go_at_call 14; refine (trees.to_flat HZ0.out (HN0.out.below HBD.out)).mono ?_; rintro e w6 ⟨⟨g1, g2, g3, g4, g5, g6, rfl, hn6⟩, hb6⟩; have HN6 : Hid _ := hn6; have HB6 : Hid _ := HBD.out.trans (hb6.mono HBD.out.size); have HN5 : Hid _ := (HM0i_8.out.below HDR.out).below hb6; have HX6HX0 : Hid _ := (hb6.block _ (pairs.lt_heap HX0_8.out)).trans HX0_8.out; have HX6HY0 : Hid _ := (hb6.block _ (pairs.lt_heap HY0_8.out)).trans HY0_8.out; have HM6HM1i : Hid _ := (HM1i_8.out.below (Nat.le_refl _) HDR.out).below (Nat.le_refl _) hb6; obtain ⟨zX00, zX01, zX02, zX03, zX04, zX05, zX06, zX07⟩ := trees.box8 HX6HX0.out; obtain ⟨zY00, zY01, zY02, zY03, zY04, zY05, zY06, zY07⟩ := trees.box8 HX6HY0.out; clear hn6 hb6)
          | (go_at_call 17; refine (trees.eq_flat HN5.out HN6.out).mono ?_; rintro e w10 ⟨rfl, hb7⟩; have HB10 : Hid (Below w.heap.size w w10) := HB6.out.trans (hb7.mono HB6.out.size); have HX0_10 : Hid _ := (hb7.block _ (pairs.lt_heap HX6HX0.out)).trans HX6HX0.out; have HY0_10 : Hid _ := (hb7.block _ (pairs.lt_heap HX6HY0.out)).trans HX6HY0.out; have HM1i_10 : Hid _ := HM6HM1i.out.below (Nat.le_refl _) hb7; clear hb7))
        all_goals
          clear HBD HDR
          obtain ⟨x00, x01, x02, x03, x04, x05, x06, x07⟩ := trees.box8 HX0_10.out
          obtain ⟨y00, y01, y02, y03, y04, y05, y06, y07⟩ := trees.box8 HY0_10.out
          go_wp2_with fail
          refine (pairs.to_DeclS _ _ _ _ (HN1.out.below (Nat.le_refl _) HB10.out) (by have := HZ1.out; omega)).mono ?_
          rintro e w11 ⟨⟨g1z, rfl, hg, hn⟩, hb⟩
          have HB11 : Hid (Below w.heap.size w w11) := HB10.out.trans (hb.mono HB10.out.size)
          have HX0_11 : Hid _ := (hb.block _ (pairs.lt_heap HX0_10.out)).trans HX0_10.out
          have HY0_11 : Hid _ := (hb.block _ (pairs.lt_heap HY0_10.out)).trans HY0_10.out
          have HM1i_11 : Hid _ := HM1i_10.out.below (Nat.le_refl _) hb
          clear hb HX0_10 HY0_10 HM1i_10
          clear x00 x01 x02 x03 x04 x05 x06 x07 y00 y01 y02 y03 y04 y05 y06 y07
          obtain ⟨x00, x01, x02, x03, x04, x05, x06, x07⟩ := trees.box8 HX0_11.out
          obtain ⟨y00, y01, y02, y03, y04, y05, y06, y07⟩ := trees.box8 HY0_11.out
          have HM1z_11 : Hid _ := hn
          clear hn hg
          go_wp2_with fail
          refine (pairs.eq_DeclS _ _ _ _ _ _ HM1i_11 HM1z_11).mono ?_
          rintro e w12 ⟨rfl, hb⟩
          have HB12 : Hid (Below w.heap.size w w12) := HB11.out.trans (hb.mono HB11.out.size)
          have HX0_12 : Hid _ := (hb.block _ (pairs.lt_heap HX0_11.out)).trans HX0_11.out
          have HY0_12 : Hid _ := (hb.block _ (pairs.lt_heap HY0_11.out)).trans HY0_11.out
          have HM1i_12 : Hid _ := HM1i_11.out.below (Nat.le_refl _) hb
          have HM1z_12 : Hid _ := HM1z_11.out.below (Nat.le_refl _) hb
          clear hb HX0_11 HY0_11 HM1i_11 HM1z_11
          clear x00 x01 x02 x03 x04 x05 x06 x07 y00 y01 y02 y03 y04 y05 y06 y07
          obtain ⟨x00, x01, x02, x03, x04, x05, x06, x07⟩ := trees.box8 HX0_12.out
          obtain ⟨y00, y01, y02, y03, y04, y05, y06, y07⟩ := trees.box8 HY0_12.out
          go_wp2
          go_ret
          exact ⟨rfl, HB12.out⟩

/-! ### The row -/
set_option maxRecDepth 100000 in
theorem lifted (os : Os) (started : os.Started) (H : Type) (enc : TypeId × Value → H) :
    ReturnsInHanded {} Try.checked os 4 .any (Rows.fnExactFitsInSpec.pre6 enc Try.prog Try.f4 Rows.fnExactFitsInRow.domain false) (Rows.fnExactFitsInSpec.post enc Try.prog Try.f4 false true false false) := by
  refine returnsInHanded_of_change (C := Try.checked) own started (by kernel_rfl) Try.func4
    (ChangeSpec.witness6 (enc := enc) (C := Try.checked) false ⟨#[], #[.agg #[.int .i64 0, .string ByteArray.empty, .string ByteArray.empty, .string ByteArray.empty, .slice none 0 0, .slice none 0 0, .slice none 0 0, .string ByteArray.empty], .slice none 0 0], []⟩ 8 (by kernel_rfl) (by kernel_rfl) (by kernel_rfl) (by kernel_rfl)) ?_
  intro W base args ds gs before hval0 hW hcnd _
  have hval : ∀ (j : Nat) t v, Try.f4.params[j]? = some t → args[j]? = some v → Value.okWide Try.prog W .any base t v := hval0
  have hW' := hW
  obtain ⟨p, q, hA0, hV, rfl, hfz, hnd⟩ := hW
  have hA : DataW.TrodAll enc Try.prog W 0 (fun _ => true) true Try.f4.params.toList args.toList ds p := hA0
  rw [Try.params4] at hA hval
  obtain ⟨v0, vs0, d0, ds0, p0, q0, hargs, rfl, rfl, h0, r0⟩ := trodAll_cons hA
  obtain ⟨v1, vs1, d1, ds1, p1, q1, rfl, rfl, rfl, h1, r1⟩ := trodAll_cons r0
  obtain ⟨rfl, rfl, rfl⟩ := trodAll_nil r1
  obtain rfl : args = #[v0, v1] := by cases args; simp_all
  obtain ⟨rfl, rfl⟩ := trodVars_none hV
  have k0 := h0
  have lt0 : ∀ x ∈ p0, x.block < W.heap.size := by obtain ⟨m, hm⟩ := k0; exact DataW.trod_lt m _ _ _ hm
  obtain ⟨t0, hd0, rfl, w0⟩ := trees.open_val_node (hval 0 36 v0 rfl rfl) h0
  obtain ⟨a1, len1, cap1, rfl⟩ := okWide_slice Try.underlying32 (hval 1 32 v1 rfl rfl)
  have k1 := h1
  have lt1 : ∀ x ∈ p1, x.block < W.heap.size := by obtain ⟨m, hm⟩ := k1; exact DataW.trod_lt m _ _ _ hm
  obtain ⟨L1, hl1, w1⟩ : ∃ L : List pairs.Pair, len1 = L.length ∧ pairs.PairsAt W a1 L := by
    obtain ⟨fuel, hf⟩ := h1
    obtain ⟨a', c', L, hcs, hp⟩ := pairs.open_Decl hf
    simp [Value.cells] at hcs
    obtain ⟨rfl, rfl, rfl⟩ := hcs
    exact ⟨L, rfl, hp⟩
  subst hl1
  clear hA0 hval0
  simp only [List.append_nil] at hW'
  refine (walk t0 hd0 a1 cap1 L1 W w0 w1).mono fun e W' ⟨he, bel⟩ => ?_
  subst he
  exact ⟨_, rfl, _, _, _, [], _, [], hW', (trodAll_cons_mk (shut_bool Try.underlying4 _) trodAll_mk0), (trodAll_cons_mk (Below.trod laidOut (by kernel_rfl) (of_decide_eq_true (by kernel_rfl)) k0 bel lt0) (trodAll_cons_mk (Below.trod laidOut (by kernel_rfl) (of_decide_eq_true (by kernel_rfl)) k1 bel lt1) trodAll_mk0)), rfl, bel.frame _, fun h => by cases h⟩

/-- The statement. -/
theorem proved : Rows.FnExactFitsInSaid :=
  OpenClaim.holds_of_wide 4 Try.f4 rfl rfl rfl rfl rfl rfl rfl ⟨rfl, rfl, rfl, rfl, rfl⟩ rfl rfl rfl rfl rfl (by kernel_rfl) Try.func4 (by kernel_rfl)
    (of_decide_eq_true (by kernel_rfl)) (by unfold Func.isWrapper; first | (rw [if_pos (by decide +kernel)]; kernel_rfl) | (rw [if_neg (by decide +kernel)]; exact ⟨rfl, rfl⟩))
    (fun os started H enc _ => lifted os started H enc)
#print axioms proved
end Go.Proofs.Ytonlnoifhjhbiaa.fnExactFitsIn
