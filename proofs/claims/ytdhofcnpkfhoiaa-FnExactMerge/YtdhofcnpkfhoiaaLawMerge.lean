/-
  At every argument the law FnExactMerge returns true: Merge answers as its specification at every argument, writes nothing into it, keeps nothing of it, and its answer owns its memory. No condition.
  The frame is after the kit's own program (proof-skeleton.mjs); the walk is ours.
-/
import Derived.Test.YtdhofcnpkfhoiaaRows
import Derived.Test.YtdhofcnpkfhoiaaSpecMerge
import Derived.Test.YtdhofcnpkfhoiaaImplMerge
import Derived.Test.YtdhofcnpkfhoiaaToOwn
import Derived.Test.YtdhofcnpkfhoiaaHeldNodes
import Derived.Test.YtdhofcnpkfhoiaaNodeEq
import Derived.Test.YtdhofcnpkfhoiaaNodeOpen
import Derived.WalkKit
import Derived.ProofKit
import Derived.OpenShut
import Derived.ShutString
import Derived.ChangeOld
import Derived.Below
import Derived.LaidMore
import Derived.OpenVars
namespace Go.Proofs.Ytdhofcnpkfhoiaa.fnExactMerge
open Go.ChangeShapes Go.WideShapes Go.ChangeAt Go.RowKit Go.WideMaps Go.WideElems
open Go.ChangeMaps (open_string shut_string)
set_option linter.unusedVariables false

theorem own : ownKnob Try.prog.godebug = none := by kernel_rfl
theorem laidOut : laidOutB Try.prog = true := by kernel_rfl

theorem merge_flat {f : FuncId} {cap : Nat} {L M : List trees.Tree} {a : Option Addr} {w : World} (h : trees.MergeOk f L a cap w) (hz : trees.nszs L ≤ 1048576) (hM : trees.mergeL L = M) : Calls Try.prog f #[.slice a L.length cap] w fun e w' => (∃ g c, e = .returned (.slice (some ⟨g, 0, none⟩) M.length c) ∧ trees.OwnL w' (some ⟨g, 0, none⟩) M (trees.Rng w w') ∧ trees.nszs M ≤ 1048576) ∧ Below w.heap.size w w' := by
  unfold trees.MergeOk at h
  refine Calls.mono h ?_
  rintro e w' ⟨⟨g, c, P, G, rfl, hP, hR, hs⟩, hb⟩
  have hl : P.length = M.length := by rw [← hM, ← hP, trees.trees1_len]
  have ho := hR.row
  rw [hP, hM] at ho
  rw [hP, hM] at hs
  exact ⟨⟨g, c, by rw [hl], ho, by omega⟩, hb⟩
theorem short_of {L : List trees.Tree} (hz : trees.nszs L ≤ 1048576) : L.length ≤ maxLen := by
  have := trees.nszs_eq L
  unfold maxLen
  omega
theorem spec_flat {cap : Nat} {L M : List trees.Tree} {a : Option Addr} {w : World} {F : trees.Bset} (hz : trees.nszs L ≤ 1048576) (hM : trees.mergeL L = M) (hn : trees.OwnL w a L F) : Calls Try.prog 9 #[.slice a L.length cap] w fun e w' => (∃ g c, e = .returned (.slice (some ⟨g, 0, none⟩) M.length c) ∧ trees.OwnL w' (some ⟨g, 0, none⟩) M (trees.Rng w w') ∧ trees.nszs M ≤ 1048576) ∧ Below w.heap.size w w' :=
  merge_flat (trees.spec_merge 0 L a cap w hz (hn.at (short_of hz))) hz hM
theorem impl_flat {cap : Nat} {L M : List trees.Tree} {a : Option Addr} {w : World} {F : trees.Bset} (hz : trees.nszs L ≤ 1048576) (hM : trees.mergeL L = M) (hn : trees.OwnL w a L F) : Calls Try.prog 7 #[.slice a L.length cap] w fun e w' => (∃ g c, e = .returned (.slice (some ⟨g, 0, none⟩) M.length c) ∧ trees.OwnL w' (some ⟨g, 0, none⟩) M (trees.Rng w w') ∧ trees.nszs M ≤ 1048576) ∧ Below w.heap.size w w' :=
  merge_flat (trees.impl_merge 0 L a cap w hz (hn.at (short_of hz))) hz hM
theorem to_flat {cap : Nat} {L : List trees.Tree} {a : Option Addr} {w : World} (hz : trees.nszs L ≤ 1048576) (hn : trees.NodesAt w 0 a L) : Calls Try.prog 11 #[.slice a L.length cap] w fun e w' => (∃ g, e = .returned (.slice (some ⟨g, 0, none⟩) L.length L.length) ∧ trees.OwnL w' (some ⟨g, 0, none⟩) L (trees.Rng w w')) ∧ Below w.heap.size w w' := trees.to_owns 0 w a L cap hz hn
theorem eq_flat {c c' : Nat} {L : List trees.Tree} {a a' : Option Addr} {w : World} {F F' : trees.Bset} (hz : trees.nszs L ≤ 1048576) (hn : trees.OwnL w a L F) (hn' : trees.OwnL w a' L F') : Calls Try.prog 12 #[.slice a L.length c, .slice a' L.length c'] w fun e w' => e = .returned (.bool true) ∧ Below w.heap.size w w' :=
  trees.eq_nodes 0 0 w a a' L c c' (hn.at (short_of hz)) (hn'.at (short_of hz))
theorem mark_flat {c k : Nat} {L : List trees.Tree} {a : Option Addr} {w : World} {F : trees.Bset} (hz : trees.nszs L ≤ 1048576) (hk : 1 + trees.cntMs L = k) (hn : trees.OwnL w a L F) : Calls Try.prog 13 #[.slice a L.length c, .int .i64 1] w fun e w' => e = .returned (.int .i64 (k : Int)) ∧ trees.OwnL w' a (trees.mkTs L 1) F ∧ trees.Out F w w' := by
  have h := trees.mark_nodes _ L a c 1 F w (Nat.lt_succ_self _) hz (by have := trees.cntMs_le L; omega) hn
  unfold trees.MarkOk at h
  rw [hk] at h
  exact h
theorem held_flat {c k : Nat} {L : List trees.Tree} {a : Option Addr} {w : World} {F : trees.Bset} (hz : trees.nszs L ≤ 1048576) (hk : 1 + trees.cntMs L = k) (hn : trees.OwnL w a (trees.mkTs L 1) F) : Calls Try.prog 14 #[.slice a L.length c, .int .i64 1] w fun e w' => e = .returned (.int .i64 (k : Int)) ∧ Below w.heap.size w w' := by
  have h := trees.held_nodes _ L a c 1 F w (Nat.lt_succ_self _) hz (by have := trees.cntMs_le L; omega) hn
  unfold trees.HeldOk at h
  rw [hk] at h
  exact h

/-! ### The walk: the law returns true, and nothing that was there has turned -/
set_option maxRecDepth 100000 in
set_option maxHeartbeats 8000000 in
theorem walk (a0 : Option Addr) (cap0 : Nat) (L0 : List trees.Tree) (w : World) (w0 : trees.NodesAt w 0 a0 L0) :
    Calls Try.prog 4 #[.slice a0 L0.length cap0] w fun e w' => e = .returned (.bool true) ∧ Below w.heap.size w w' := by
  have HN : Hid (trees.NodesAt w 0 a0 L0) := w0
  clear w0
  obtain ⟨M, hM⟩ : ∃ M, trees.mergeL L0 = M := ⟨_, rfl⟩
  have HM : Hid (trees.mergeL L0 = M) := hM
  obtain ⟨kx, hkx⟩ : ∃ k, 1 + trees.cntMs L0 = k := ⟨_, rfl⟩
  have HKX : Hid _ := hkx
  obtain ⟨kg, hkg⟩ : ∃ k, 1 + trees.cntMs M = k := ⟨_, rfl⟩
  have HKG : Hid _ := hkg
  clear hM hkx hkg
  go_enter Try.func4, Try.ntmps4
  go_wp2_with fail
  refine (trees.sz_nodes 0 _ _ _ _ 1048576 (Nat.le_refl _) HN.out).mono ?_
  rintro e w1 ⟨⟨r, rfl, hr⟩, hb⟩
  have HB1 : Hid (Below w.heap.size w w1) := hb
  clear hb
  by_cases hneg : r < 0
  · go_wp2
    go_ret
    exact ⟨rfl, HB1.out⟩
  have HZ : Hid (trees.nszs L0 ≤ 1048576) := by have := hr (by omega); show _ ≤ _; omega
  clear hr

  go_wp2_with fail
  refine (to_flat HZ.out (HN.out.below HB1.out)).mono ?_
  rintro e w2 ⟨⟨gs, rfl, ho⟩, hb⟩
  have HB2 : Hid (Below w.heap.size w w2) := HB1.out.trans (hb.mono HB1.out.size)
  have HS2 : Hid (w1.heap.size ≤ w2.heap.size) := hb.size
  have HS_2 : Hid _ := ho
  clear hb  ho
  go_wp2_with fail
  refine (spec_flat HZ.out HM.out HS_2.out).mono ?_
  rintro e w3 ⟨⟨gw, cw, rfl, ho, hz⟩, hb⟩
  have HB3 : Hid (Below w.heap.size w w3) := HB2.out.trans (hb.mono HB2.out.size)
  have HS3 : Hid (w2.heap.size ≤ w3.heap.size) := hb.size
  have HS_3 : Hid _ := trees.OwnL.below HS_2.out hb
  have HZM : Hid (trees.nszs M ≤ 1048576) := hz
  clear hz
  have HW_3 : Hid _ := ho
  clear hb HS_2 ho
  clear HS_3
  go_wp2_with fail
  refine (to_flat HZ.out (HN.out.below HB3.out)).mono ?_
  rintro e w4 ⟨⟨gx, rfl, ho⟩, hb⟩
  have HB4 : Hid (Below w.heap.size w w4) := HB3.out.trans (hb.mono HB3.out.size)
  have HS4 : Hid (w3.heap.size ≤ w4.heap.size) := hb.size
  have HW_4 : Hid _ := trees.OwnL.below HW_3.out hb
  have HX_4 : Hid _ := ho
  clear hb HW_3 ho
  go_wp2_with fail
  refine (impl_flat HZ.out HM.out HX_4.out).mono ?_
  rintro e w5 ⟨⟨gg, cg, rfl, ho, -⟩, hb⟩
  have HB5 : Hid (Below w.heap.size w w5) := HB4.out.trans (hb.mono HB4.out.size)
  have HS5 : Hid (w4.heap.size ≤ w5.heap.size) := hb.size
  have HW_5 : Hid _ := trees.OwnL.below HW_4.out hb
  have HX_5 : Hid _ := trees.OwnL.below HX_4.out hb
  have HG_5 : Hid _ := ho
  clear hb HW_4 HX_4 ho
  go_wp2_with fail
  refine (eq_flat HZM.out HG_5.out HW_5.out).mono ?_
  rintro e w6 ⟨rfl, hb⟩
  have HB6 : Hid (Below w.heap.size w w6) := HB5.out.trans (hb.mono HB5.out.size)
  have HS6 : Hid (w5.heap.size ≤ w6.heap.size) := hb.size
  have HW_6 : Hid _ := trees.OwnL.below HW_5.out hb
  have HX_6 : Hid _ := trees.OwnL.below HX_5.out hb
  have HG_6 : Hid _ := trees.OwnL.below HG_5.out hb
  clear hb HW_5 HX_5 HG_5
  go_wp2_with fail
  refine (to_flat HZ.out (HN.out.below HB6.out)).mono ?_
  rintro e w7 ⟨⟨gc, rfl, ho⟩, hb⟩
  have HB7 : Hid (Below w.heap.size w w7) := HB6.out.trans (hb.mono HB6.out.size)
  have HS7 : Hid (w6.heap.size ≤ w7.heap.size) := hb.size
  have HW_7 : Hid _ := trees.OwnL.below HW_6.out hb
  have HX_7 : Hid _ := trees.OwnL.below HX_6.out hb
  have HG_7 : Hid _ := trees.OwnL.below HG_6.out hb
  have HC_7 : Hid _ := ho
  clear hb HW_6 HX_6 HG_6 ho
  go_wp2_with fail
  refine (eq_flat HZ.out HX_7.out HC_7.out).mono ?_
  rintro e w8 ⟨rfl, hb⟩
  have HB8 : Hid (Below w.heap.size w w8) := HB7.out.trans (hb.mono HB7.out.size)
  have HS8 : Hid (w7.heap.size ≤ w8.heap.size) := hb.size
  have HW_8 : Hid _ := trees.OwnL.below HW_7.out hb
  have HX_8 : Hid _ := trees.OwnL.below HX_7.out hb
  have HG_8 : Hid _ := trees.OwnL.below HG_7.out hb
  have HC_8 : Hid _ := trees.OwnL.below HC_7.out hb
  clear hb HW_7 HX_7 HG_7 HC_7
  clear HC_8
  go_wp2_with fail
  refine (mark_flat HZ.out HKX.out HX_8.out).mono ?_
  rintro e w9 ⟨rfl, ho, hout⟩
  have HB9 : Hid (Below w.heap.size w w9) := trees.Out.below hout HB8.out (fun b hb => Nat.le_trans HB3.out.size hb.1) HB8.out.size
  have HS9 : Hid (w8.heap.size ≤ w9.heap.size) := hout.size
  have HW_9 : Hid _ := trees.OwnL.out HW_8.out hout (fun b hb hc => by have := hb.1; have := hb.2; have := hc.1; have := hc.2;  omega)
  have HG_9 : Hid _ := trees.OwnL.out HG_8.out hout (fun b hb hc => by have := hb.1; have := hb.2; have := hc.1; have := hc.2;  omega)
  have HX_9 : Hid _ := ho
  clear hout ho HW_8 HX_8 HG_8
  clear HX_9
  go_wp2_with fail
  refine (eq_flat HZM.out HG_9.out HW_9.out).mono ?_
  rintro e w10 ⟨rfl, hb⟩
  have HB10 : Hid (Below w.heap.size w w10) := HB9.out.trans (hb.mono HB9.out.size)
  have HS10 : Hid (w9.heap.size ≤ w10.heap.size) := hb.size
  have HW_10 : Hid _ := trees.OwnL.below HW_9.out hb
  have HG_10 : Hid _ := trees.OwnL.below HG_9.out hb
  clear hb HW_9 HG_9
  go_wp2_with fail
  refine (mark_flat HZM.out HKG.out HG_10.out).mono ?_
  rintro e w11 ⟨rfl, ho, hout⟩
  have HB11 : Hid (Below w.heap.size w w11) := trees.Out.below hout HB10.out (fun b hb => Nat.le_trans HB4.out.size hb.1) HB10.out.size
  have HS11 : Hid (w10.heap.size ≤ w11.heap.size) := hout.size
  have HW_11 : Hid _ := trees.OwnL.out HW_10.out hout (fun b hb hc => by have := hb.1; have := hb.2; have := hc.1; have := hc.2; have := HS4.out; omega)
  have HG_11 : Hid _ := ho
  clear hout ho HW_10 HG_10
  go_wp2_with fail
  refine (held_flat HZM.out HKG.out HG_11.out).mono ?_
  rintro e w12 ⟨rfl, hb⟩
  have HB12 : Hid (Below w.heap.size w w12) := HB11.out.trans (hb.mono HB11.out.size)
  have HS12 : Hid (w11.heap.size ≤ w12.heap.size) := hb.size
  have HW_12 : Hid _ := trees.OwnL.below HW_11.out hb
  have HG_12 : Hid _ := trees.OwnL.below HG_11.out hb
  clear hb HW_11 HG_11
  go_wp2_with fail
  refine (to_flat HZ.out (HN.out.below HB12.out)).mono ?_
  rintro e w13 ⟨⟨gd, rfl, ho⟩, hb⟩
  have HB13 : Hid (Below w.heap.size w w13) := HB12.out.trans (hb.mono HB12.out.size)
  have HS13 : Hid (w12.heap.size ≤ w13.heap.size) := hb.size
  have HW_13 : Hid _ := trees.OwnL.below HW_12.out hb
  have HG_13 : Hid _ := trees.OwnL.below HG_12.out hb
  have HD_13 : Hid _ := ho
  clear hb HW_12 HG_12 ho
  go_wp2_with fail
  refine (impl_flat HZ.out HM.out HD_13.out).mono ?_
  rintro e w14 ⟨⟨gh, ch, rfl, ho, -⟩, hb⟩
  have HB14 : Hid (Below w.heap.size w w14) := HB13.out.trans (hb.mono HB13.out.size)
  have HS14 : Hid (w13.heap.size ≤ w14.heap.size) := hb.size
  have HW_14 : Hid _ := trees.OwnL.below HW_13.out hb
  have HG_14 : Hid _ := trees.OwnL.below HG_13.out hb
  have HD_14 : Hid _ := trees.OwnL.below HD_13.out hb
  have HK_14 : Hid _ := ho
  clear hb HW_13 HG_13 HD_13 ho
  clear HD_14
  go_wp2_with fail
  refine (eq_flat HZM.out HK_14.out HW_14.out).mono ?_
  rintro e w15 ⟨rfl, hb⟩
  have HB15 : Hid (Below w.heap.size w w15) := HB14.out.trans (hb.mono HB14.out.size)
  have HS15 : Hid (w14.heap.size ≤ w15.heap.size) := hb.size
  have HW_15 : Hid _ := trees.OwnL.below HW_14.out hb
  have HG_15 : Hid _ := trees.OwnL.below HG_14.out hb
  have HK_15 : Hid _ := trees.OwnL.below HK_14.out hb
  clear hb HW_14 HG_14 HK_14
  go_wp2_with fail
  refine (held_flat HZM.out HKG.out HG_15.out).mono ?_
  rintro e w16 ⟨rfl, hb⟩
  have HB16 : Hid (Below w.heap.size w w16) := HB15.out.trans (hb.mono HB15.out.size)
  have HS16 : Hid (w15.heap.size ≤ w16.heap.size) := hb.size
  have HW_16 : Hid _ := trees.OwnL.below HW_15.out hb
  have HG_16 : Hid _ := trees.OwnL.below HG_15.out hb
  have HK_16 : Hid _ := trees.OwnL.below HK_15.out hb
  clear hb HW_15 HG_15 HK_15
  go_wp2
  go_ret
  exact ⟨rfl, HB16.out⟩

/-! ### The row -/
set_option maxRecDepth 100000 in
theorem lifted (os : Os) (started : os.Started) (H : Type) (enc : TypeId × Value → H) :
    ReturnsInHanded {} Try.checked os 4 .any (Rows.fnExactMergeSpec.pre6 enc Try.prog Try.f4 Rows.fnExactMergeRow.domain false) (Rows.fnExactMergeSpec.post enc Try.prog Try.f4 false true false false) := by
  refine returnsInHanded_of_change (C := Try.checked) own started (by kernel_rfl) Try.func4
    (ChangeSpec.witness6 (enc := enc) (C := Try.checked) false ⟨#[], #[.slice none 0 0], []⟩ 8 (by kernel_rfl) (by kernel_rfl) (by kernel_rfl) (by kernel_rfl)) ?_
  intro W base args ds gs before hval0 hW hcnd _
  have hval : ∀ (j : Nat) t v, Try.f4.params[j]? = some t → args[j]? = some v → Value.okWide Try.prog W .any base t v := hval0
  have hW' := hW
  obtain ⟨p, q, hA0, hV, rfl, hfz, hnd⟩ := hW
  have hA : DataW.TrodAll enc Try.prog W 0 (fun _ => true) true Try.f4.params.toList args.toList ds p := hA0
  rw [Try.params4] at hA hval
  obtain ⟨v0, vs0, d0, ds0, p0, q0, hargs, rfl, rfl, h0, r0⟩ := trodAll_cons hA
  obtain ⟨rfl, rfl, rfl⟩ := trodAll_nil r0
  obtain rfl : args = #[v0] := by cases args; simp_all
  obtain ⟨rfl, rfl⟩ := trodVars_none hV
  obtain ⟨a0, len0, cap0, rfl⟩ := okWide_slice Try.underlying32 (hval 0 32 v0 rfl rfl)
  have k0 := h0
  have lt0 : ∀ x ∈ p0, x.block < W.heap.size := by obtain ⟨m, hm⟩ := k0; exact DataW.trod_lt m _ _ _ hm
  obtain ⟨L0, hl0, w0⟩ : ∃ L : List trees.Tree, len0 = L.length ∧ trees.NodesAt W 0 a0 L := by
    obtain ⟨fuel, hf⟩ := h0
    obtain ⟨a', c', L, hcs, hp⟩ := trees.open_nodes hf
    simp [Value.cells] at hcs
    obtain ⟨rfl, rfl, rfl⟩ := hcs
    exact ⟨L, rfl, hp⟩
  subst hl0
  clear hA0 hval0
  simp only [List.append_nil] at hW'
  refine (walk a0 cap0 L0 W w0).mono fun e W' ⟨he, bel⟩ => ?_
  subst he
  exact ⟨_, rfl, _, _, _, [], _, [], hW', (trodAll_cons_mk (shut_bool Try.underlying4 _) trodAll_mk0), (trodAll_cons_mk (Below.trod laidOut (by kernel_rfl) (of_decide_eq_true (by kernel_rfl)) k0 bel lt0) trodAll_mk0), rfl, bel.frame _, fun h => by cases h⟩

/-- The statement. -/
theorem proved : Rows.FnExactMergeSaid :=
  OpenClaim.holds_of_wide 4 Try.f4 rfl rfl rfl rfl rfl rfl rfl ⟨rfl, rfl, rfl, rfl, rfl⟩ rfl rfl rfl rfl rfl (by kernel_rfl) Try.func4 (by kernel_rfl)
    (of_decide_eq_true (by kernel_rfl)) (by unfold Func.isWrapper; first | (rw [if_pos (by decide +kernel)]; kernel_rfl) | (rw [if_neg (by decide +kernel)]; exact ⟨rfl, rfl⟩))
    (fun os started H enc _ => lifted os started H enc)
#print axioms proved
end Go.Proofs.Ytdhofcnpkfhoiaa.fnExactMerge
