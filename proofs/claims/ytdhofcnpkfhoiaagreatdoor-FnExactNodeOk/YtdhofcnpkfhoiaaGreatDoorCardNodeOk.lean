/-
  At every argument the law FnExactNodeOk returns true: NodeOk answers as its specification at every argument, and writes nothing into it. No condition but the tables that the program lays.
  The frame is after the kit's guide (MapyProofs, UptoLaidToy); the walk is ours.
-/
import Derived.Test.YtdhofcnpkfhoiaaGreatDoorCards
import Derived.Test.YtdhofcnpkfhoiaaGreatDoorTie
import Derived.Test.YtdhofcnpkfhoiaaGreatDoorSpecNodeOk
import Derived.Test.YtdhofcnpkfhoiaaGreatDoorImplNodeOk
import Derived.Test.YtdhofcnpkfhoiaaGreatDoorNodeTabs
import Derived.Test.YtdhofcnpkfhoiaaGreatDoorNodeFlat
import Derived.Test.YtdhofcnpkfhoiaaGreatDoorNodeOpen
import Derived.Lay
import Derived.WalkKit
import Derived.ProofKit
import Derived.OpenShut
import Derived.ShutString
import Derived.ChangeOld
import Derived.Below
import Derived.LaidMore
import Derived.OpenVars
import Derived.Stop.Joined
namespace Go.Proofs.YtdhofcnpkfhoiaaGreatDoor.fnExactNodeOk
open Go.ChangeShapes Go.WideShapes Go.ChangeAt Go.RowKit Go.WideMaps Go.WideElems
open Go.ChangeMaps (open_string shut_string)
set_option linter.unusedVariables false

theorem own : ownKnob Tryz.prog.godebug = none := by kernel_rfl
theorem laidOut : laidOutB Tryz.prog = true := by kernel_rfl

theorem spec_flat {k : Int} {p l u x : ByteArray} {ds : List pairs.Pair} {ats : List trees.Att} {ks : List trees.Tree} {da : Option Addr} {dc : Nat} {aa : Option Addr} {ac : Nat} {ka : Option Addr} {kc : Nat} {w : World} {B : Nat} {c : Bool} (hc : trees.nodeOkB (.mk k p l u x ds ats ks) = c) (hz0 : trees.nsz (.mk k p l u x ds ats ks) ≤ 1048576) (hn0 : trees.NodeAt w B (.mk k p l u x ds ats ks) ⟨da, dc, aa, ac, ka, kc⟩) : Calls Tryz.prog 16 #[.agg #[.int .i64 k, .string p, .string l, .string u, .slice da ds.length dc, .slice aa ats.length ac, .slice ka ks.length kc, .string x]] w fun e w' => e = .returned (.bool c) ∧ Below w.heap.size w w' := by
  have := trees.spec_node_ok (.mk k p l u x ds ats ks) ⟨da, dc, aa, ac, ka, kc⟩ B w (by omega) hn0.node
  unfold trees.NodeOkOk at this
  rw [hc] at this
  exact this
theorem impl_flat {k : Int} {p l u x : ByteArray} {ds : List pairs.Pair} {ats : List trees.Att} {ks : List trees.Tree} {da : Option Addr} {dc : Nat} {aa : Option Addr} {ac : Nat} {ka : Option Addr} {kc : Nat} {w : World} {B : Nat} {c : Bool} (hc : trees.nodeOkB (.mk k p l u x ds ats ks) = c) (hz0 : trees.nsz (.mk k p l u x ds ats ks) ≤ 1048576) (hn0 : trees.NodeAt w B (.mk k p l u x ds ats ks) ⟨da, dc, aa, ac, ka, kc⟩) (hT : trees.NTabs w) : Calls Tryz.prog 15 #[.agg #[.int .i64 k, .string p, .string l, .string u, .slice da ds.length dc, .slice aa ats.length ac, .slice ka ks.length kc, .string x]] w fun e w' => e = .returned (.bool c) ∧ Below w.heap.size w w' := by
  have := trees.impl_node_ok (.mk k p l u x ds ats ks) ⟨da, dc, aa, ac, ka, kc⟩ B w (by omega) hn0.node hT
  unfold trees.ImplNodeOkOk at this
  rw [hc] at this
  exact this
theorem tables {W : World} (h : laidMetH Tryz.prog Rows.fnExactNodeOkRow.laid W) (hsh : W.ShapedOpen Tryz.prog) : trees.NTabs W := by
  rw [MakeChecks.laidMetH_plain _ _ _ (by kernel_rfl)] at h
  refine trees.ntabs_of (D1 := Rows.laid_unicode_utf8_acceptRanges) (D2 := Rows.laid_unicode_utf8_first) (D3 := Rows.laid_loop_example_g00484_impl_signSpans) (D4 := Rows.laid_loop_example_g00484_impl_startSpans) (D5 := Rows.laid_loop_example_g00484_impl_partSpans) (D6 := Rows.laid_unicode_asciiFold) (by kernel_rfl) (by kernel_rfl) rfl rfl rfl (by kernel_rfl) hsh ?_ ?_ ?_ ?_ ?_ ?_
  all_goals exact Lib.laidMet.reads h (by repeat (first | exact List.Mem.head _ | apply List.Mem.tail))


/-! ### The walk: the law returns true, and nothing that was there has turned -/
set_option maxRecDepth 100000 in
set_option maxHeartbeats 4000000 in
theorem walk (t0 : trees.Tree) (hd0 : trees.Hdr) (w : World) (w0 : trees.NodeIn w 0 t0 hd0) (hL : laidMetH Tryz.prog Rows.fnExactNodeOkRow.laid w) (hsh : w.ShapedOpen Tryz.prog) :
    Calls Tryz.prog 5 #[.agg (trees.vals t0 hd0)] w fun e w' => e = .returned (.bool true) ∧ Below w.heap.size w w' := by
  obtain ⟨k, p, l, u, x, ds, ats, ks⟩ := t0
  obtain ⟨da, dc, aa, ac, ka, kc⟩ := hd0
  have HN0 : Hid (trees.NodeAt w 0 (.mk k p l u x ds ats ks) ⟨da, dc, aa, ac, ka, kc⟩) := ⟨w0⟩
  have HT0 : Hid (trees.NTabs w) := tables hL hsh
  simp only [trees.vals, trees.Tree.kind, trees.Tree.pre, trees.Tree.loc, trees.Tree.uri, trees.Tree.text, trees.Tree.ds, trees.Tree.ats, trees.Tree.kids]
  clear w0 hL hsh
  obtain ⟨c, hc⟩ : ∃ c, trees.nodeOkB (.mk k p l u x ds ats ks) = c := ⟨_, rfl⟩
  have HC : Hid _ := hc
  clear hc
  go_enter Tryz.func5, Tryz.ntmps5
  go_wp2_with fail
  refine (trees.sz_flat (left := 1048576) (Nat.le_refl _) (HN0.out.below ((Below.refl _ _).alloc (Nat.le_refl _) _))).mono ?_
  rintro e w1 ⟨⟨r0, rfl, hr0⟩, hb⟩
  have HB1 : Hid (Below w.heap.size w w1) := trees.box_under hb
  have HX0_1 : Hid _ := trees.box_kept hb
  have HT_1 : Hid _ := HT0.out.below HB1.out
  clear hb
  obtain ⟨x00, x01, x02, x03, x04, x05, x06, x07⟩ := trees.box8 HX0_1.out
  by_cases hneg0 : r0 < 0
  · go_wp2
    go_ret
    exact ⟨rfl, HB1.out⟩
  · obtain ⟨q0, rfl⟩ : ∃ q : Nat, r0 = q := ⟨r0.toNat, by omega⟩
    have hq0 : q0 ≤ 1048576 := by have := hr0 (by omega); omega
    have HZ0 : Hid (trees.nsz (.mk k p l u x ds ats ks) ≤ 1048576) := by have := hr0 (by omega); show _ ≤ _; omega
    clear hr0
    go_wp2_with fail
    refine (trees.to_flat HZ0.out (HN0.out.below HB1.out)).mono ?_
    rintro e w2 ⟨⟨da_s, dc_s, aa_s, ac_s, ka_s, kc_s, rfl, hn⟩, hb⟩
    have HB2 : Hid (Below w.heap.size w w2) := HB1.out.trans (hb.mono HB1.out.size)
    have HX0_2 : Hid _ := (hb.block _ (pairs.lt_heap HX0_1.out)).trans HX0_1.out
    have HT_2 : Hid _ := HT_1.out.below hb
    clear hb HX0_1 HT_1
    clear x00 x01 x02 x03 x04 x05 x06 x07
    obtain ⟨x00, x01, x02, x03, x04, x05, x06, x07⟩ := trees.box8 HX0_2.out
    have HM0s_2 : Hid _ := hn
    clear hn
    go_wp2_with fail
    refine (spec_flat HC.out HZ0.out (HM0s_2.out)).mono ?_
    rintro e w3 ⟨rfl, hb⟩
    have HB3 : Hid (Below w.heap.size w w3) := HB2.out.trans (hb.mono HB2.out.size)
    have HX0_3 : Hid _ := (hb.block _ (pairs.lt_heap HX0_2.out)).trans HX0_2.out
    have HM0s_3 : Hid _ := HM0s_2.out.below hb
    have HT_3 : Hid _ := HT_2.out.below hb
    clear hb HX0_2 HM0s_2 HT_2
    clear x00 x01 x02 x03 x04 x05 x06 x07
    obtain ⟨x00, x01, x02, x03, x04, x05, x06, x07⟩ := trees.box8 HX0_3.out
    clear HM0s_3
    go_wp2_with fail
    refine (trees.to_flat HZ0.out (HN0.out.below HB3.out)).mono ?_
    rintro e w4 ⟨⟨da_i, dc_i, aa_i, ac_i, ka_i, kc_i, rfl, hn⟩, hb⟩
    have HB4 : Hid (Below w.heap.size w w4) := HB3.out.trans (hb.mono HB3.out.size)
    have HX0_4 : Hid _ := (hb.block _ (pairs.lt_heap HX0_3.out)).trans HX0_3.out
    have HT_4 : Hid _ := HT_3.out.below hb
    clear hb HX0_3 HT_3
    clear x00 x01 x02 x03 x04 x05 x06 x07
    obtain ⟨x00, x01, x02, x03, x04, x05, x06, x07⟩ := trees.box8 HX0_4.out
    have HM0i_4 : Hid _ := hn
    clear hn
    obtain ⟨ax00, ax01, ax02, ax03, ax04, ax05, ax06, ax07⟩ := trees.box8 ((Below.heap_alloc _ (.cells #[.int .i64 k, .string p, .string l, .string u, .slice da_i ds.length dc_i, .slice aa_i ats.length ac_i, .slice ka_i ks.length kc_i, .string x] 28) _ (pairs.lt_heap HX0_4.out)).trans HX0_4.out)
    go_wp2_with fail
    refine (impl_flat HC.out HZ0.out (HM0i_4.out.below ((Below.refl _ _).alloc (Nat.le_refl _) _)) (HT_4.out.below ((Below.refl _ _).alloc (Nat.le_refl _) _))).mono ?_
    rintro e w5 ⟨rfl, hb⟩
    have hu := trees.box_under hb
    have HB5 : Hid (Below w.heap.size w w5) := HB4.out.trans (hu.mono HB4.out.size)
    have HX0_5 : Hid _ := (hu.block _ (pairs.lt_heap HX0_4.out)).trans HX0_4.out
    have HM0i_5 : Hid _ := HM0i_4.out.below hu
    have HT_5 : Hid _ := HT_4.out.below hu
    have HY0_5 : Hid _ := trees.box_kept hb
    clear hb hu HX0_4 HM0i_4 HT_4
    clear x00 x01 x02 x03 x04 x05 x06 x07
    obtain ⟨x00, x01, x02, x03, x04, x05, x06, x07⟩ := trees.box8 HX0_5.out
    obtain ⟨y00, y01, y02, y03, y04, y05, y06, y07⟩ := trees.box8 HY0_5.out
    clear ax00 ax01 ax02 ax03 ax04 ax05 ax06 ax07
    have HBD : Hid (Below w.heap.size w w5.drew) := HB5.out.drew
    have HDR : Hid (Below w5.heap.size w5 w5.drew) := (Below.refl _ _).drew
    cases c
    all_goals
      go_wp2_with fail
      go_region_with (first
        | (go_at_call 30; refine (trees.to_flat HZ0.out (HN0.out.below HBD.out)).mono ?_; rintro e w6 ⟨⟨g1, g2, g3, g4, g5, g6, rfl, hn6⟩, hb6⟩; have HN6 : Hid _ := hn6; have HB6 : Hid _ := HBD.out.trans (hb6.mono HBD.out.size); have HN5 : Hid _ := (HM0i_5.out.below HDR.out).below hb6; have HX6HX0 : Hid _ := (hb6.block _ (pairs.lt_heap HX0_5.out)).trans HX0_5.out; have HX6HY0 : Hid _ := (hb6.block _ (pairs.lt_heap HY0_5.out)).trans HY0_5.out; obtain ⟨zX00, zX01, zX02, zX03, zX04, zX05, zX06, zX07⟩ := trees.box8 HX6HX0.out; obtain ⟨zY00, zY01, zY02, zY03, zY04, zY05, zY06, zY07⟩ := trees.box8 HX6HY0.out; clear hn6 hb6)
        | (go_at_call 31; refine (trees.eq_flat HN5.out HN6.out).mono ?_; rintro e w7 ⟨rfl, hb7⟩; have HB7 : Hid (Below w.heap.size w w7) := HB6.out.trans (hb7.mono HB6.out.size); have HX0_7 : Hid _ := (hb7.block _ (pairs.lt_heap HX6HX0.out)).trans HX6HX0.out; have HY0_7 : Hid _ := (hb7.block _ (pairs.lt_heap HX6HY0.out)).trans HX6HY0.out; clear hb7))
      all_goals
        clear HBD HDR
        obtain ⟨x00, x01, x02, x03, x04, x05, x06, x07⟩ := trees.box8 HX0_7.out
        obtain ⟨y00, y01, y02, y03, y04, y05, y06, y07⟩ := trees.box8 HY0_7.out
        go_wp2
        go_ret
        exact ⟨rfl, HB7.out⟩

/-! ### The row -/
theorem vars_len {H : Type} {enc : TypeId × Value → H} {P : Program} {w : World} {sp : Nat → Bool} : ∀ {ns : List String} {gs : List (DataW H)} {ps : List MemPlace}, DataW.TrodVars enc P w sp ns gs ps → gs.length = ns.length
  | [], [], _, _ => rfl
  | [], _ :: _, _, h => h.elim
  | _ :: _, [], _, h => h.elim
  | _ :: ns, _ :: gs, _, h => by
    obtain ⟨_, _, _, _, _, _, _, _, _, _, h, _⟩ := h
    simp [vars_len h]
theorem list_len {α : Type} {l : List α} (h : l.length = 3) : ∃ g1 g2 g3, l = [g1, g2, g3] := by
  match l, h with
  | [g1, g2, g3], _ => exact ⟨g1, g2, g3, rfl⟩
set_option maxRecDepth 100000 in
theorem door_met (os : Os) (args : Array Value) : laidMetH Tryz.prog Rows.fnExactNodeOkRow.laid ((World.laidAll Tryz.prog os Rows.fnExactNodeOkRow.laid).forCall (fun _ _ => 0) ⟨#[], args, []⟩).memory :=
  by rw [MakeChecks.laidMetH_plain _ _ _ (by kernel_rfl)]; exact laidMet_laidAll _ (by kernel_rfl) (by kernel_rfl)
set_option maxRecDepth 100000 in
theorem lifted (os : Os) (started : os.Started) (H : Type) (enc : TypeId × Value → H) :
    ReturnsInHanded {} Tryz.checked os 5 .any (fun w args => (Rows.fnExactNodeOkSpec.pre enc Tryz.prog Tryz.f5 [] false w args ∧ laidMetH Tryz.prog Rows.fnExactNodeOkRow.laid w) ∧ sizedMet enc Tryz.prog Tryz.f5 (OpenSpec.ofChange Rows.fnExactNodeOkSpec) false w args)
      (Rows.fnExactNodeOkSpec.post enc Tryz.prog Tryz.f5 false true false false) := by
  refine frames.change_and_shaped (C := Tryz.checked) (X := fun w _ => laidMetH Tryz.prog Rows.fnExactNodeOkRow.laid w) (fun _ _ _ hh h => h.of_heap hh) own started (by kernel_rfl) Tryz.func5
    (ChangeSpec.witness_shaped (enc := enc) (C := Tryz.checked) (os := os) (X := fun w _ => laidMetH Tryz.prog Rows.fnExactNodeOkRow.laid w) false (World.laidAll Tryz.prog os Rows.fnExactNodeOkRow.laid) #[.agg #[.int .i64 0, .string ByteArray.empty, .string ByteArray.empty, .string ByteArray.empty, .slice none 0 0, .slice none 0 0, .slice none 0 0, .string ByteArray.empty]] 8 (World.laidAll_os _ _ _) (World.shaped_of_ZipB (by kernel_rfl) (by kernel_rfl)) (by kernel_rfl) (by kernel_rfl) (by kernel_rfl) (door_met os _)) ?_
  intro W base args ds gs before hval0 hW hL hsh
  have hval : ∀ (j : Nat) t v, Tryz.f5.params[j]? = some t → args[j]? = some v → Value.okWide Tryz.prog W .any base t v := hval0
  have hW' := hW
  obtain ⟨p, q, hA0, hV, rfl, hfz, hnd⟩ := hW
  have hA : DataW.TrodAll enc Tryz.prog W 0 (fun _ => true) true Tryz.f5.params.toList args.toList ds p := hA0
  rw [Tryz.params5] at hA hval
  obtain ⟨v0, vs0, d0, ds0, p0, q0, hargs, rfl, rfl, h0, r0⟩ := trodAll_cons hA
  obtain ⟨rfl, rfl, rfl⟩ := trodAll_nil r0
  obtain rfl : args = #[v0] := by cases args; simp_all
  obtain ⟨g1, g2, g3, rfl⟩ := list_len (vars_len hV)
  have k0 := h0
  have lt0 : ∀ x ∈ p0, x.block < W.heap.size := by obtain ⟨m, hm⟩ := k0; exact DataW.trod_lt m _ _ _ hm
  obtain ⟨t0, hd0, rfl, w0⟩ := trees.open_val_node (hval 0 56 v0 rfl rfl) h0
  clear hA0 hval0
  refine (walk t0 hd0 W w0 hL hsh).mono fun e W' ⟨he, bel⟩ => ?_
  subst he
  exact ⟨_, rfl, _, _, _, [], _, _, hW', trodAll_mk1 (shut_bool Tryz.underlying4 _), (trodAll_cons_mk (Below.trod laidOut (by kernel_rfl) (of_decide_eq_true (by kernel_rfl)) k0 bel lt0) trodAll_mk0), Below.trodVars laidOut bel (by kernel_rfl) hV, bel.frame _, fun h => by cases h⟩

theorem said : Rows.FnExactNodeOkSaid :=
  OpenClaim.holds_of_wide 5 Tryz.f5 rfl rfl rfl rfl rfl rfl rfl ⟨rfl, rfl, rfl, rfl, rfl⟩ rfl rfl rfl rfl rfl (by kernel_rfl) Tryz.func5 (by kernel_rfl)
    (of_decide_eq_true (by kernel_rfl)) (by unfold Func.isWrapper; first | (rw [if_pos (by decide +kernel)]; kernel_rfl) | (rw [if_neg (by decide +kernel)]; exact ⟨rfl, rfl⟩))
    (fun os started H enc _ => lifted os started H enc)

/-! ### The card -/
theorem plain (f : FuncId) (fn : Func) (hf : Tryz.pinned.checked.prog.funcNamed "loop.example/g00484/laws.FnExactNodeOk" = some f) (hfn : Tryz.pinned.checked.prog.funcs[f]? = some fn) :
    true = Tryz.pinned.checked.prog.looks [] ∧ ∀ (j : Nat) t, fn.params[j]? = some t → Tryz.pinned.checked.prog.wantsStandIn t = false := by
  obtain rfl : f = 5 := Option.some.inj ((show Tryz.prog.funcNamed "loop.example/g00484/laws.FnExactNodeOk" = some 5 by kernel_rfl).symm.trans hf) |>.symm
  obtain rfl : fn = Tryz.f5 := (Option.some.inj (Tryz.func5.symm.trans hfn)).symm
  refine ⟨by kernel_rfl, fun j t ht => ?_⟩
  rw [Tryz.params5] at ht
  have hm : t ∈ [56] := by simpa using Array.mem_of_getElem? ht
  have hall : ([56].all fun u => !Tryz.prog.wantsStandIn u) = true := by kernel_rfl
  exact (show Tryz.prog.wantsStandIn t = false by simpa using List.all_eq_true.1 hall t hm)

/-- The statement. -/
theorem card : Rows.FnExactNodeOkCardSaid :=
  Claim7.holds_tied_plain_at .later [] _ _ _ _ said (fun _ h => by cases h) (by kernel_rfl) (fun _ h => by cases h) fnExactNodeOk_row_tie rfl ⟨rfl, rfl⟩ (by kernel_rfl) rfl plain (by kernel_rfl)
#print axioms card
end Go.Proofs.YtdhofcnpkfhoiaaGreatDoor.fnExactNodeOk
