/-
  At every two lists the law FnExactInner returns true: Inner answers as its specification at every argument, writes nothing into them, and its answer owns its memory. No condition.
  The frame is after the kit's own program (proof-skeleton.mjs); the walk is ours.
-/
import Derived.Test.YtifeikodjinpdaaRows
import Derived.Test.YtifeikodjinpdaaImplInner
import Derived.Test.YtifeikodjinpdaaPairDecl
import Derived.Test.YtifeikodjinpdaaScope
import Derived.Test.YtifeikodjinpdaaPairMarksDecl
import Derived.WalkKit
import Derived.ProofKit
import Derived.OpenShut
import Derived.ShutString
import Derived.ChangeOld
import Derived.Below
import Derived.LaidMore
import Derived.OpenVars
namespace Go.Proofs.Ytifeikodjinpdaa.fnExactInner
open Go.ChangeShapes Go.WideShapes Go.ChangeAt Go.RowKit Go.WideMaps Go.WideElems
open Go.ChangeMaps (open_string shut_string)
set_option linter.unusedVariables false

theorem own : ownKnob Try.prog.godebug = none := by kernel_rfl
theorem laidOut : laidOutB Try.prog = true := by kernel_rfl


/-! ### The walk: the law returns true, and nothing that was there has turned -/
set_option maxRecDepth 100000 in
set_option maxHeartbeats 3000000 in
theorem walk (a0 : Option Addr) (cap0 : Nat) (L0 : List pairs.Pair) (a1 : Option Addr) (cap1 : Nat) (L1 : List pairs.Pair) (w : World) (w0 : pairs.PairsAt w a0 L0) (w1 : pairs.PairsAt w a1 L1) :
    Calls Try.prog 4 #[.slice a0 L0.length cap0, .slice a1 L1.length cap1] w fun e w' => e = .returned (.bool true) ∧ Below w.heap.size w w' := by
  have HL0 : Hid _ := w0
  have HL1 : Hid _ := w1
  clear w0 w1
  go_enter Try.func4, Try.ntmps4
  go_wp2_with fail
  refine (pairs.sz_DeclS _ _ _ _ 1048576 (Nat.le_refl _) HL0).mono ?_
  rintro e w1 ⟨⟨r, rfl, hr⟩, hb1⟩
  have HB1 : Hid _ := hb1
  have HSM : Hid _ := hr
  clear hb1 hr
  by_cases hneg : r < 0
  · go_wp2
    go_ret
    exact ⟨rfl, HB1.out⟩
  · obtain ⟨n1, rfl⟩ : ∃ n : Nat, r = n := ⟨r.toNat, by omega⟩
    have hn1 : n1 ≤ 1048576 := by have := (HSM.out (by omega)).1; omega
    have HS0 : Hid (pairs.Small L0 1048576) := (HSM.out (by omega)).2
    clear HSM
    go_wp2_with fail
    refine (pairs.sz_DeclS _ _ _ _ n1 hn1 (HL1.out.below (Nat.le_refl _) HB1.out)).mono ?_
    rintro e w2 ⟨⟨r2, rfl, hr2⟩, hb2⟩
    have HB2 : Hid _ := HB1.out.trans (hb2.mono HB1.out.size)
    have HSM2 : Hid _ := hr2
    clear hb2 hr2
    by_cases hneg2 : r2 < 0
    · go_wp2
      go_ret
      exact ⟨rfl, HB2.out⟩
    · have HS1' : Hid (pairs.Small L1 n1) := (HSM2.out (by omega)).2
      have HS1 : Hid (pairs.Small L1 1048576) := Nat.le_trans HS1'.out hn1
      obtain ⟨LM, hLM⟩ : ∃ LM, LM = L0 ++ L1 := ⟨_, rfl⟩
      have HLM : Hid _ := hLM
      have htx := HS0.out.both HS1.out (Nat.le_refl _) (Nat.le_refl _)
      rw [← hLM] at htx
      have HTX : Hid _ := htx
      have hln0 := HS0.out.len
      have hln1 := HS1.out.len
      have HZ : Hid (L0.length + L1.length ≤ 4000000) := by show _ ≤ _; omega
      have HLN : Hid (LM.length ≤ maxLen) := by show _ ≤ _; rw [hLM, List.length_append]; unfold maxLen; omega
      have hla : LM.length ≤ 4000000 := by rw [hLM, List.length_append]; omega
      clear htx hLM
      have HT0 : Hid _ := HL0.out.texts
      have HT1 : Hid _ := HL1.out.texts
      clear HSM2 HS1'
      go_wp2_with fail
      refine (pairs.mk_DeclS _ _ _ _ (HL0.out.below (Nat.le_refl _) HB2.out) HS0.out.len).mono ?_
      rintro e w3 ⟨⟨g3, rfl, hg3, hp3, hm3⟩, hb3⟩
      have HB3 : Hid _ := HB2.out.trans (hb3.mono HB2.out.size)
      have hws2 := HB2.out.size
      have HQ3 : Hid _ := hp3
      clear hb3 hp3 hm3 hg3 hws2
      go_wp2_with fail
      refine (pairs.mk_DeclS _ _ _ _ (HL1.out.below (Nat.le_refl _) HB3.out) HS1.out.len).mono ?_
      rintro e w4 ⟨⟨g4, rfl, hg4, hp4, hm4⟩, hb4⟩
      have HB4 : Hid _ := HB3.out.trans (hb4.mono HB3.out.size)
      have hws3 := HB3.out.size
      have HQ3n : Hid _ := HQ3.out.below (Nat.le_refl _) hb4
      clear HQ3
      have HQ3 : Hid _ := HQ3n
      clear HQ3n
      have HQ4 : Hid _ := hp4
      clear hb4 hp4 hm4 hg4 hws3
      go_wp2_with fail
      refine (scopes.spec_inner _ _ _ _ _ _ _ HQ3 HQ4 HZ.out).mono ?_
      rintro e w5 ⟨⟨v5, rfl, ho5, hv5⟩, hb5⟩
      rw [← HLM.out] at ho5
      obtain ⟨g5, c5, rfl, hg5, hm5⟩ := ho5.made hv5
      have HB5 : Hid _ := HB4.out.trans (hb5.mono HB4.out.size)
      have hws4 := HB4.out.size
      have M0 : Hid _ := hm5
      have hge_M0 : w.heap.size ≤ g5 := by omega
      clear hb5 hm5 hg5 hws4 ho5 hv5
      clear HQ3
      clear HQ4
      go_wp2_with fail
      refine (pairs.mk_DeclS _ _ _ _ (HL0.out.below (Nat.le_refl _) HB5.out) HS0.out.len).mono ?_
      rintro e w6 ⟨⟨g6, rfl, hg6, hp6, hm6⟩, hb6⟩
      have HB6 : Hid _ := HB5.out.trans (hb6.mono HB5.out.size)
      have hws5 := HB5.out.size
      have M0n : Hid _ := M0.out.below hb6
      have M0l := M0.out.lt
      clear M0
      have M0 : Hid _ := M0n
      clear M0n
      have MX0 : Hid _ := hm6
      have HQ6 : Hid _ := hp6
      have hne_MX0_M0 : g6 ≠ g5 := by omega
      have hge_MX0 : w.heap.size ≤ g6 := by omega
      clear M0l
      clear hb6 hp6 hm6 hg6 hws5
      go_wp2_with fail
      refine (pairs.mk_DeclS _ _ _ _ (HL1.out.below (Nat.le_refl _) HB6.out) HS1.out.len).mono ?_
      rintro e w7 ⟨⟨g7, rfl, hg7, hp7, hm7⟩, hb7⟩
      have HB7 : Hid _ := HB6.out.trans (hb7.mono HB6.out.size)
      have hws6 := HB6.out.size
      have M0n : Hid _ := M0.out.below hb7
      have M0l := M0.out.lt
      clear M0
      have M0 : Hid _ := M0n
      clear M0n
      have MX0n : Hid _ := MX0.out.below hb7
      have MX0l := MX0.out.lt
      clear MX0
      have MX0 : Hid _ := MX0n
      clear MX0n
      have HQ6n : Hid _ := HQ6.out.below (Nat.le_refl _) hb7
      clear HQ6
      have HQ6 : Hid _ := HQ6n
      clear HQ6n
      have MX1 : Hid _ := hm7
      have HQ7 : Hid _ := hp7
      have hne_MX1_M0 : g7 ≠ g5 := by omega
      have hne_MX1_MX0 : g7 ≠ g6 := by omega
      have hge_MX1 : w.heap.size ≤ g7 := by omega
      clear M0l
      clear MX0l
      clear hb7 hp7 hm7 hg7 hws6
      by_cases hne : LM = []
      · subst hne
        go_wp2_with fail
        refine (scopes.impl_inner _ _ _ _ _ _ _ HQ6.out HQ7.out HZ.out).mono ?_
        rintro e w8 ⟨⟨v8, rfl, ho8, hn8⟩, hb8⟩
        obtain rfl := hn8.2 HLM.out.symm
        have HB8 : Hid _ := HB7.out.trans (hb8.mono HB7.out.size)
        have hws7 := HB7.out.size
        have M0n : Hid _ := M0.out.below hb8
        have M0l := M0.out.lt
        clear M0
        have M0 : Hid _ := M0n
        clear M0n
        have MX0n : Hid _ := MX0.out.below hb8
        have MX0l := MX0.out.lt
        clear MX0
        have MX0 : Hid _ := MX0n
        clear MX0n
        have MX1n : Hid _ := MX1.out.below hb8
        have MX1l := MX1.out.lt
        clear MX1
        have MX1 : Hid _ := MX1n
        clear MX1n
        clear M0l
        clear MX0l
        clear MX1l
        clear hb8 hws7 ho8 hn8
        clear HQ6
        clear HQ7
        go_wp2_with fail
        refine (pairs.eq_DeclS _ _ _ _ _ _ (pairs.nil_pairs _) (M0.out.pairs HLN.out HTX.out)).mono ?_
        rintro e w9 ⟨rfl, hb9⟩
        have HB9 : Hid _ := HB8.out.trans (hb9.mono HB8.out.size)
        have M0n : Hid _ := M0.out.below hb9
        clear M0
        have M0 : Hid _ := M0n
        clear M0n
        have MX0n : Hid _ := MX0.out.below hb9
        clear MX0
        have MX0 : Hid _ := MX0n
        clear MX0n
        have MX1n : Hid _ := MX1.out.below hb9
        clear MX1
        have MX1 : Hid _ := MX1n
        clear MX1n
        clear hb9
        go_wp2_with fail
        refine (pairs.mk_DeclS _ _ _ _ (HL0.out.below (Nat.le_refl _) HB9.out) HS0.out.len).mono ?_
        rintro e w10 ⟨⟨g10, rfl, hg10, hp10, hm10⟩, hb10⟩
        have HB10 : Hid _ := HB9.out.trans (hb10.mono HB9.out.size)
        have hws9 := HB9.out.size
        have M0n : Hid _ := M0.out.below hb10
        have M0l := M0.out.lt
        clear M0
        have M0 : Hid _ := M0n
        clear M0n
        have MX0n : Hid _ := MX0.out.below hb10
        have MX0l := MX0.out.lt
        clear MX0
        have MX0 : Hid _ := MX0n
        clear MX0n
        have MX1n : Hid _ := MX1.out.below hb10
        have MX1l := MX1.out.lt
        clear MX1
        have MX1 : Hid _ := MX1n
        clear MX1n
        have HQ10 : Hid _ := hp10
        clear M0l
        clear MX0l
        clear MX1l
        clear hb10 hp10 hm10 hg10 hws9
        go_wp2_with fail
        refine (pairs.eq_DeclS _ _ _ _ _ _ (MX0.out.pairs HL0.out.short HT0.out) (HQ10)).mono ?_
        rintro e w11 ⟨rfl, hb11⟩
        have HB11 : Hid _ := HB10.out.trans (hb11.mono HB10.out.size)
        have M0n : Hid _ := M0.out.below hb11
        clear M0
        have M0 : Hid _ := M0n
        clear M0n
        have MX0n : Hid _ := MX0.out.below hb11
        clear MX0
        have MX0 : Hid _ := MX0n
        clear MX0n
        have MX1n : Hid _ := MX1.out.below hb11
        clear MX1
        have MX1 : Hid _ := MX1n
        clear MX1n
        clear hb11
        clear HQ10
        go_wp2_with fail
        refine (pairs.mk_DeclS _ _ _ _ (HL1.out.below (Nat.le_refl _) HB11.out) HS1.out.len).mono ?_
        rintro e w12 ⟨⟨g12, rfl, hg12, hp12, hm12⟩, hb12⟩
        have HB12 : Hid _ := HB11.out.trans (hb12.mono HB11.out.size)
        have hws11 := HB11.out.size
        have M0n : Hid _ := M0.out.below hb12
        have M0l := M0.out.lt
        clear M0
        have M0 : Hid _ := M0n
        clear M0n
        have MX0n : Hid _ := MX0.out.below hb12
        have MX0l := MX0.out.lt
        clear MX0
        have MX0 : Hid _ := MX0n
        clear MX0n
        have MX1n : Hid _ := MX1.out.below hb12
        have MX1l := MX1.out.lt
        clear MX1
        have MX1 : Hid _ := MX1n
        clear MX1n
        have HQ12 : Hid _ := hp12
        clear M0l
        clear MX0l
        clear MX1l
        clear hb12 hp12 hm12 hg12 hws11
        go_wp2_with fail
        refine (pairs.eq_DeclS _ _ _ _ _ _ (MX1.out.pairs HL1.out.short HT1.out) (HQ12)).mono ?_
        rintro e w13 ⟨rfl, hb13⟩
        have HB13 : Hid _ := HB12.out.trans (hb13.mono HB12.out.size)
        have M0n : Hid _ := M0.out.below hb13
        clear M0
        have M0 : Hid _ := M0n
        clear M0n
        have MX0n : Hid _ := MX0.out.below hb13
        clear MX0
        have MX0 : Hid _ := MX0n
        clear MX0n
        have MX1n : Hid _ := MX1.out.below hb13
        clear MX1
        have MX1 : Hid _ := MX1n
        clear MX1n
        clear hb13
        clear HQ12
        go_wp2_with fail
        refine (pairs.mark_DeclS _ _ _ _ 1 (by omega) (by omega) (MX0.out.forget (pairs.marks_len _ _))).mono ?_
        rintro e w14 ⟨rfl, hm14, hgr14⟩
        have hws13 := HB13.out.size
        have HB14 : Hid _ := HB13.out.grown hgr14 hws13 (fun k hk => by cases hk; exact hge_MX0)
        have M0n : Hid _ := M0.out.other hgr14 (by omega)
        clear M0
        have M0 : Hid _ := M0n
        clear M0n
        have MX1n : Hid _ := MX1.out.other hgr14 (by omega)
        clear MX1
        have MX1 : Hid _ := MX1n
        clear MX1n
        clear MX0
        have MX0 : Hid _ := hm14
        clear hm14 hgr14 hws13
        go_wp2_with fail
        refine (pairs.mark_DeclS _ _ _ _ (1 + 2 * L0.length) (by omega) (by omega) (MX1.out.forget (pairs.marks_len _ _))).mono ?_
        rintro e w15 ⟨rfl, hm15, hgr15⟩
        have hws14 := HB14.out.size
        have HB15 : Hid _ := HB14.out.grown hgr15 hws14 (fun k hk => by cases hk; exact hge_MX1)
        have M0n : Hid _ := M0.out.other hgr15 (by omega)
        clear M0
        have M0 : Hid _ := M0n
        clear M0n
        have MX0n : Hid _ := MX0.out.other hgr15 (by omega)
        clear MX0
        have MX0 : Hid _ := MX0n
        clear MX0n
        clear MX1
        have MX1 : Hid _ := hm15
        clear hm15 hgr15 hws14
        go_wp2_with fail
        refine (pairs.eq_DeclS _ _ _ _ _ _ (pairs.nil_pairs _) (M0.out.pairs HLN.out HTX.out)).mono ?_
        rintro e w16 ⟨rfl, hb16⟩
        have HB16 : Hid _ := HB15.out.trans (hb16.mono HB15.out.size)
        have M0n : Hid _ := M0.out.below hb16
        clear M0
        have M0 : Hid _ := M0n
        clear M0n
        have MX0n : Hid _ := MX0.out.below hb16
        clear MX0
        have MX0 : Hid _ := MX0n
        clear MX0n
        have MX1n : Hid _ := MX1.out.below hb16
        clear MX1
        have MX1 : Hid _ := MX1n
        clear MX1n
        clear hb16
        go_wp2_with fail
        refine (pairs.mark_nil_Decl 1 _).mono ?_
        rintro e w17 ⟨rfl, hb17⟩
        have HB17 : Hid _ := HB16.out.trans (hb17.mono HB16.out.size)
        have M0n : Hid _ := M0.out.below hb17
        clear M0
        have M0 : Hid _ := M0n
        clear M0n
        have MX0n : Hid _ := MX0.out.below hb17
        clear MX0
        have MX0 : Hid _ := MX0n
        clear MX0n
        have MX1n : Hid _ := MX1.out.below hb17
        clear MX1
        have MX1 : Hid _ := MX1n
        clear MX1n
        clear hb17
        go_wp2_with fail
        refine (pairs.held_nil_Decl 1 _).mono ?_
        rintro e w18 ⟨rfl, hb18⟩
        have HB18 : Hid _ := HB17.out.trans (hb18.mono HB17.out.size)
        have M0n : Hid _ := M0.out.below hb18
        clear M0
        have M0 : Hid _ := M0n
        clear M0n
        have MX0n : Hid _ := MX0.out.below hb18
        clear MX0
        have MX0 : Hid _ := MX0n
        clear MX0n
        have MX1n : Hid _ := MX1.out.below hb18
        clear MX1
        have MX1 : Hid _ := MX1n
        clear MX1n
        clear hb18
        go_wp2_with fail
        refine (pairs.mk_DeclS _ _ _ _ (HL0.out.below (Nat.le_refl _) HB18.out) HS0.out.len).mono ?_
        rintro e w19 ⟨⟨g19, rfl, hg19, hp19, hm19⟩, hb19⟩
        have HB19 : Hid _ := HB18.out.trans (hb19.mono HB18.out.size)
        have hws18 := HB18.out.size
        have M0n : Hid _ := M0.out.below hb19
        have M0l := M0.out.lt
        clear M0
        have M0 : Hid _ := M0n
        clear M0n
        have MX0n : Hid _ := MX0.out.below hb19
        have MX0l := MX0.out.lt
        clear MX0
        have MX0 : Hid _ := MX0n
        clear MX0n
        have MX1n : Hid _ := MX1.out.below hb19
        have MX1l := MX1.out.lt
        clear MX1
        have MX1 : Hid _ := MX1n
        clear MX1n
        have HQ19 : Hid _ := hp19
        clear M0l
        clear MX0l
        clear MX1l
        clear hb19 hp19 hm19 hg19 hws18
        go_wp2_with fail
        refine (pairs.mk_DeclS _ _ _ _ (HL1.out.below (Nat.le_refl _) HB19.out) HS1.out.len).mono ?_
        rintro e w20 ⟨⟨g20, rfl, hg20, hp20, hm20⟩, hb20⟩
        have HB20 : Hid _ := HB19.out.trans (hb20.mono HB19.out.size)
        have hws19 := HB19.out.size
        have M0n : Hid _ := M0.out.below hb20
        have M0l := M0.out.lt
        clear M0
        have M0 : Hid _ := M0n
        clear M0n
        have MX0n : Hid _ := MX0.out.below hb20
        have MX0l := MX0.out.lt
        clear MX0
        have MX0 : Hid _ := MX0n
        clear MX0n
        have MX1n : Hid _ := MX1.out.below hb20
        have MX1l := MX1.out.lt
        clear MX1
        have MX1 : Hid _ := MX1n
        clear MX1n
        have HQ19n : Hid _ := HQ19.out.below (Nat.le_refl _) hb20
        clear HQ19
        have HQ19 : Hid _ := HQ19n
        clear HQ19n
        have HQ20 : Hid _ := hp20
        clear M0l
        clear MX0l
        clear MX1l
        clear hb20 hp20 hm20 hg20 hws19
        go_wp2_with fail
        refine (scopes.impl_inner _ _ _ _ _ _ _ HQ19.out HQ20.out HZ.out).mono ?_
        rintro e w21 ⟨⟨v21, rfl, ho21, hn21⟩, hb21⟩
        obtain rfl := hn21.2 HLM.out.symm
        have HB21 : Hid _ := HB20.out.trans (hb21.mono HB20.out.size)
        have hws20 := HB20.out.size
        have M0n : Hid _ := M0.out.below hb21
        have M0l := M0.out.lt
        clear M0
        have M0 : Hid _ := M0n
        clear M0n
        have MX0n : Hid _ := MX0.out.below hb21
        have MX0l := MX0.out.lt
        clear MX0
        have MX0 : Hid _ := MX0n
        clear MX0n
        have MX1n : Hid _ := MX1.out.below hb21
        have MX1l := MX1.out.lt
        clear MX1
        have MX1 : Hid _ := MX1n
        clear MX1n
        clear M0l
        clear MX0l
        clear MX1l
        clear hb21 hws20 ho21 hn21
        clear HQ19
        clear HQ20
        go_wp2_with fail
        refine (pairs.eq_DeclS _ _ _ _ _ _ (pairs.nil_pairs _) (M0.out.pairs HLN.out HTX.out)).mono ?_
        rintro e w22 ⟨rfl, hb22⟩
        have HB22 : Hid _ := HB21.out.trans (hb22.mono HB21.out.size)
        have M0n : Hid _ := M0.out.below hb22
        clear M0
        have M0 : Hid _ := M0n
        clear M0n
        have MX0n : Hid _ := MX0.out.below hb22
        clear MX0
        have MX0 : Hid _ := MX0n
        clear MX0n
        have MX1n : Hid _ := MX1.out.below hb22
        clear MX1
        have MX1 : Hid _ := MX1n
        clear MX1n
        clear hb22
        go_wp2_with fail
        refine (pairs.held_nil_Decl 1 _).mono ?_
        rintro e w23 ⟨rfl, hb23⟩
        have HB23 : Hid _ := HB22.out.trans (hb23.mono HB22.out.size)
        have M0n : Hid _ := M0.out.below hb23
        clear M0
        have M0 : Hid _ := M0n
        clear M0n
        have MX0n : Hid _ := MX0.out.below hb23
        clear MX0
        have MX0 : Hid _ := MX0n
        clear MX0n
        have MX1n : Hid _ := MX1.out.below hb23
        clear MX1
        have MX1 : Hid _ := MX1n
        clear MX1n
        clear hb23
        go_wp2
        go_ret
        exact ⟨rfl, HB23.out⟩
      · go_wp2_with fail
        refine (scopes.impl_inner _ _ _ _ _ _ _ HQ6.out HQ7.out HZ.out).mono ?_
        rintro e w8 ⟨⟨v8, rfl, ho8, hn8⟩, hb8⟩
        have hv8 := fun e => hne (HLM.out.trans (hn8.1 e))
        rw [← HLM.out] at ho8
        obtain ⟨g8, c8, rfl, hg8, hm8⟩ := ho8.made hv8
        have HB8 : Hid _ := HB7.out.trans (hb8.mono HB7.out.size)
        have hws7 := HB7.out.size
        have M0n : Hid _ := M0.out.below hb8
        have M0l := M0.out.lt
        clear M0
        have M0 : Hid _ := M0n
        clear M0n
        have MX0n : Hid _ := MX0.out.below hb8
        have MX0l := MX0.out.lt
        clear MX0
        have MX0 : Hid _ := MX0n
        clear MX0n
        have MX1n : Hid _ := MX1.out.below hb8
        have MX1l := MX1.out.lt
        clear MX1
        have MX1 : Hid _ := MX1n
        clear MX1n
        have M1 : Hid _ := hm8
        have hne_M1_M0 : g8 ≠ g5 := by omega
        have hne_M1_MX0 : g8 ≠ g6 := by omega
        have hne_M1_MX1 : g8 ≠ g7 := by omega
        have hge_M1 : w.heap.size ≤ g8 := by omega
        clear M0l
        clear MX0l
        clear MX1l
        clear hb8 hm8 hg8 hws7 ho8 hv8 hn8
        clear HQ6
        clear HQ7
        go_wp2_with fail
        refine (pairs.eq_DeclS _ _ _ _ _ _ (M1.out.pairs HLN.out HTX.out) (M0.out.pairs HLN.out HTX.out)).mono ?_
        rintro e w9 ⟨rfl, hb9⟩
        have HB9 : Hid _ := HB8.out.trans (hb9.mono HB8.out.size)
        have M0n : Hid _ := M0.out.below hb9
        clear M0
        have M0 : Hid _ := M0n
        clear M0n
        have MX0n : Hid _ := MX0.out.below hb9
        clear MX0
        have MX0 : Hid _ := MX0n
        clear MX0n
        have MX1n : Hid _ := MX1.out.below hb9
        clear MX1
        have MX1 : Hid _ := MX1n
        clear MX1n
        have M1n : Hid _ := M1.out.below hb9
        clear M1
        have M1 : Hid _ := M1n
        clear M1n
        clear hb9
        go_wp2_with fail
        refine (pairs.mk_DeclS _ _ _ _ (HL0.out.below (Nat.le_refl _) HB9.out) HS0.out.len).mono ?_
        rintro e w10 ⟨⟨g10, rfl, hg10, hp10, hm10⟩, hb10⟩
        have HB10 : Hid _ := HB9.out.trans (hb10.mono HB9.out.size)
        have hws9 := HB9.out.size
        have M0n : Hid _ := M0.out.below hb10
        have M0l := M0.out.lt
        clear M0
        have M0 : Hid _ := M0n
        clear M0n
        have MX0n : Hid _ := MX0.out.below hb10
        have MX0l := MX0.out.lt
        clear MX0
        have MX0 : Hid _ := MX0n
        clear MX0n
        have MX1n : Hid _ := MX1.out.below hb10
        have MX1l := MX1.out.lt
        clear MX1
        have MX1 : Hid _ := MX1n
        clear MX1n
        have M1n : Hid _ := M1.out.below hb10
        have M1l := M1.out.lt
        clear M1
        have M1 : Hid _ := M1n
        clear M1n
        have HQ10 : Hid _ := hp10
        clear M0l
        clear MX0l
        clear MX1l
        clear M1l
        clear hb10 hp10 hm10 hg10 hws9
        go_wp2_with fail
        refine (pairs.eq_DeclS _ _ _ _ _ _ (MX0.out.pairs HL0.out.short HT0.out) (HQ10)).mono ?_
        rintro e w11 ⟨rfl, hb11⟩
        have HB11 : Hid _ := HB10.out.trans (hb11.mono HB10.out.size)
        have M0n : Hid _ := M0.out.below hb11
        clear M0
        have M0 : Hid _ := M0n
        clear M0n
        have MX0n : Hid _ := MX0.out.below hb11
        clear MX0
        have MX0 : Hid _ := MX0n
        clear MX0n
        have MX1n : Hid _ := MX1.out.below hb11
        clear MX1
        have MX1 : Hid _ := MX1n
        clear MX1n
        have M1n : Hid _ := M1.out.below hb11
        clear M1
        have M1 : Hid _ := M1n
        clear M1n
        clear hb11
        clear HQ10
        go_wp2_with fail
        refine (pairs.mk_DeclS _ _ _ _ (HL1.out.below (Nat.le_refl _) HB11.out) HS1.out.len).mono ?_
        rintro e w12 ⟨⟨g12, rfl, hg12, hp12, hm12⟩, hb12⟩
        have HB12 : Hid _ := HB11.out.trans (hb12.mono HB11.out.size)
        have hws11 := HB11.out.size
        have M0n : Hid _ := M0.out.below hb12
        have M0l := M0.out.lt
        clear M0
        have M0 : Hid _ := M0n
        clear M0n
        have MX0n : Hid _ := MX0.out.below hb12
        have MX0l := MX0.out.lt
        clear MX0
        have MX0 : Hid _ := MX0n
        clear MX0n
        have MX1n : Hid _ := MX1.out.below hb12
        have MX1l := MX1.out.lt
        clear MX1
        have MX1 : Hid _ := MX1n
        clear MX1n
        have M1n : Hid _ := M1.out.below hb12
        have M1l := M1.out.lt
        clear M1
        have M1 : Hid _ := M1n
        clear M1n
        have HQ12 : Hid _ := hp12
        clear M0l
        clear MX0l
        clear MX1l
        clear M1l
        clear hb12 hp12 hm12 hg12 hws11
        go_wp2_with fail
        refine (pairs.eq_DeclS _ _ _ _ _ _ (MX1.out.pairs HL1.out.short HT1.out) (HQ12)).mono ?_
        rintro e w13 ⟨rfl, hb13⟩
        have HB13 : Hid _ := HB12.out.trans (hb13.mono HB12.out.size)
        have M0n : Hid _ := M0.out.below hb13
        clear M0
        have M0 : Hid _ := M0n
        clear M0n
        have MX0n : Hid _ := MX0.out.below hb13
        clear MX0
        have MX0 : Hid _ := MX0n
        clear MX0n
        have MX1n : Hid _ := MX1.out.below hb13
        clear MX1
        have MX1 : Hid _ := MX1n
        clear MX1n
        have M1n : Hid _ := M1.out.below hb13
        clear M1
        have M1 : Hid _ := M1n
        clear M1n
        clear hb13
        clear HQ12
        go_wp2_with fail
        refine (pairs.mark_DeclS _ _ _ _ 1 (by omega) (by omega) (MX0.out.forget (pairs.marks_len _ _))).mono ?_
        rintro e w14 ⟨rfl, hm14, hgr14⟩
        have hws13 := HB13.out.size
        have HB14 : Hid _ := HB13.out.grown hgr14 hws13 (fun k hk => by cases hk; exact hge_MX0)
        have M0n : Hid _ := M0.out.other hgr14 (by omega)
        clear M0
        have M0 : Hid _ := M0n
        clear M0n
        have MX1n : Hid _ := MX1.out.other hgr14 (by omega)
        clear MX1
        have MX1 : Hid _ := MX1n
        clear MX1n
        have M1n : Hid _ := M1.out.other hgr14 (by omega)
        clear M1
        have M1 : Hid _ := M1n
        clear M1n
        clear MX0
        have MX0 : Hid _ := hm14
        clear hm14 hgr14 hws13
        go_wp2_with fail
        refine (pairs.mark_DeclS _ _ _ _ (1 + 2 * L0.length) (by omega) (by omega) (MX1.out.forget (pairs.marks_len _ _))).mono ?_
        rintro e w15 ⟨rfl, hm15, hgr15⟩
        have hws14 := HB14.out.size
        have HB15 : Hid _ := HB14.out.grown hgr15 hws14 (fun k hk => by cases hk; exact hge_MX1)
        have M0n : Hid _ := M0.out.other hgr15 (by omega)
        clear M0
        have M0 : Hid _ := M0n
        clear M0n
        have MX0n : Hid _ := MX0.out.other hgr15 (by omega)
        clear MX0
        have MX0 : Hid _ := MX0n
        clear MX0n
        have M1n : Hid _ := M1.out.other hgr15 (by omega)
        clear M1
        have M1 : Hid _ := M1n
        clear M1n
        clear MX1
        have MX1 : Hid _ := hm15
        clear hm15 hgr15 hws14
        go_wp2_with fail
        refine (pairs.eq_DeclS _ _ _ _ _ _ (M1.out.pairs HLN.out HTX.out) (M0.out.pairs HLN.out HTX.out)).mono ?_
        rintro e w16 ⟨rfl, hb16⟩
        have HB16 : Hid _ := HB15.out.trans (hb16.mono HB15.out.size)
        have M0n : Hid _ := M0.out.below hb16
        clear M0
        have M0 : Hid _ := M0n
        clear M0n
        have MX0n : Hid _ := MX0.out.below hb16
        clear MX0
        have MX0 : Hid _ := MX0n
        clear MX0n
        have MX1n : Hid _ := MX1.out.below hb16
        clear MX1
        have MX1 : Hid _ := MX1n
        clear MX1n
        have M1n : Hid _ := M1.out.below hb16
        clear M1
        have M1 : Hid _ := M1n
        clear M1n
        clear hb16
        go_wp2_with fail
        refine (pairs.mark_DeclS _ _ _ _ 1 (by omega) (by omega) (M1.out.forget (pairs.marks_len _ _))).mono ?_
        rintro e w17 ⟨rfl, hm17, hgr17⟩
        have hws16 := HB16.out.size
        have HB17 : Hid _ := HB16.out.grown hgr17 hws16 (fun k hk => by cases hk; exact hge_M1)
        have M0n : Hid _ := M0.out.other hgr17 (by omega)
        clear M0
        have M0 : Hid _ := M0n
        clear M0n
        have MX0n : Hid _ := MX0.out.other hgr17 (by omega)
        clear MX0
        have MX0 : Hid _ := MX0n
        clear MX0n
        have MX1n : Hid _ := MX1.out.other hgr17 (by omega)
        clear MX1
        have MX1 : Hid _ := MX1n
        clear MX1n
        clear M1
        have M1 : Hid _ := hm17
        clear hm17 hgr17 hws16
        go_wp2_with fail
        refine (pairs.held_DeclS _ _ _ _ 1 (by omega) (by omega) M1).mono ?_
        rintro e w18 ⟨rfl, hb18⟩
        have HB18 : Hid _ := HB17.out.trans (hb18.mono HB17.out.size)
        have M0n : Hid _ := M0.out.below hb18
        clear M0
        have M0 : Hid _ := M0n
        clear M0n
        have MX0n : Hid _ := MX0.out.below hb18
        clear MX0
        have MX0 : Hid _ := MX0n
        clear MX0n
        have MX1n : Hid _ := MX1.out.below hb18
        clear MX1
        have MX1 : Hid _ := MX1n
        clear MX1n
        have M1n : Hid _ := M1.out.below hb18
        clear M1
        have M1 : Hid _ := M1n
        clear M1n
        clear hb18
        go_wp2_with fail
        refine (pairs.mk_DeclS _ _ _ _ (HL0.out.below (Nat.le_refl _) HB18.out) HS0.out.len).mono ?_
        rintro e w19 ⟨⟨g19, rfl, hg19, hp19, hm19⟩, hb19⟩
        have HB19 : Hid _ := HB18.out.trans (hb19.mono HB18.out.size)
        have hws18 := HB18.out.size
        have M0n : Hid _ := M0.out.below hb19
        have M0l := M0.out.lt
        clear M0
        have M0 : Hid _ := M0n
        clear M0n
        have MX0n : Hid _ := MX0.out.below hb19
        have MX0l := MX0.out.lt
        clear MX0
        have MX0 : Hid _ := MX0n
        clear MX0n
        have MX1n : Hid _ := MX1.out.below hb19
        have MX1l := MX1.out.lt
        clear MX1
        have MX1 : Hid _ := MX1n
        clear MX1n
        have M1n : Hid _ := M1.out.below hb19
        have M1l := M1.out.lt
        clear M1
        have M1 : Hid _ := M1n
        clear M1n
        have HQ19 : Hid _ := hp19
        clear M0l
        clear MX0l
        clear MX1l
        clear M1l
        clear hb19 hp19 hm19 hg19 hws18
        go_wp2_with fail
        refine (pairs.mk_DeclS _ _ _ _ (HL1.out.below (Nat.le_refl _) HB19.out) HS1.out.len).mono ?_
        rintro e w20 ⟨⟨g20, rfl, hg20, hp20, hm20⟩, hb20⟩
        have HB20 : Hid _ := HB19.out.trans (hb20.mono HB19.out.size)
        have hws19 := HB19.out.size
        have M0n : Hid _ := M0.out.below hb20
        have M0l := M0.out.lt
        clear M0
        have M0 : Hid _ := M0n
        clear M0n
        have MX0n : Hid _ := MX0.out.below hb20
        have MX0l := MX0.out.lt
        clear MX0
        have MX0 : Hid _ := MX0n
        clear MX0n
        have MX1n : Hid _ := MX1.out.below hb20
        have MX1l := MX1.out.lt
        clear MX1
        have MX1 : Hid _ := MX1n
        clear MX1n
        have M1n : Hid _ := M1.out.below hb20
        have M1l := M1.out.lt
        clear M1
        have M1 : Hid _ := M1n
        clear M1n
        have HQ19n : Hid _ := HQ19.out.below (Nat.le_refl _) hb20
        clear HQ19
        have HQ19 : Hid _ := HQ19n
        clear HQ19n
        have HQ20 : Hid _ := hp20
        clear M0l
        clear MX0l
        clear MX1l
        clear M1l
        clear hb20 hp20 hm20 hg20 hws19
        go_wp2_with fail
        refine (scopes.impl_inner _ _ _ _ _ _ _ HQ19.out HQ20.out HZ.out).mono ?_
        rintro e w21 ⟨⟨v21, rfl, ho21, hn21⟩, hb21⟩
        have hv21 := fun e => hne (HLM.out.trans (hn21.1 e))
        rw [← HLM.out] at ho21
        obtain ⟨g21, c21, rfl, hg21, hm21⟩ := ho21.made hv21
        have HB21 : Hid _ := HB20.out.trans (hb21.mono HB20.out.size)
        have hws20 := HB20.out.size
        have M0n : Hid _ := M0.out.below hb21
        have M0l := M0.out.lt
        clear M0
        have M0 : Hid _ := M0n
        clear M0n
        have MX0n : Hid _ := MX0.out.below hb21
        have MX0l := MX0.out.lt
        clear MX0
        have MX0 : Hid _ := MX0n
        clear MX0n
        have MX1n : Hid _ := MX1.out.below hb21
        have MX1l := MX1.out.lt
        clear MX1
        have MX1 : Hid _ := MX1n
        clear MX1n
        have M1n : Hid _ := M1.out.below hb21
        have M1l := M1.out.lt
        clear M1
        have M1 : Hid _ := M1n
        clear M1n
        have M2 : Hid _ := hm21
        have hne_M2_M0 : g21 ≠ g5 := by omega
        have hne_M2_MX0 : g21 ≠ g6 := by omega
        have hne_M2_MX1 : g21 ≠ g7 := by omega
        have hne_M2_M1 : g21 ≠ g8 := by omega
        have hge_M2 : w.heap.size ≤ g21 := by omega
        clear M0l
        clear MX0l
        clear MX1l
        clear M1l
        clear hb21 hm21 hg21 hws20 ho21 hv21 hn21
        clear HQ19
        clear HQ20
        go_wp2_with fail
        refine (pairs.eq_DeclS _ _ _ _ _ _ (M2.out.pairs HLN.out HTX.out) (M0.out.pairs HLN.out HTX.out)).mono ?_
        rintro e w22 ⟨rfl, hb22⟩
        have HB22 : Hid _ := HB21.out.trans (hb22.mono HB21.out.size)
        have M0n : Hid _ := M0.out.below hb22
        clear M0
        have M0 : Hid _ := M0n
        clear M0n
        have MX0n : Hid _ := MX0.out.below hb22
        clear MX0
        have MX0 : Hid _ := MX0n
        clear MX0n
        have MX1n : Hid _ := MX1.out.below hb22
        clear MX1
        have MX1 : Hid _ := MX1n
        clear MX1n
        have M1n : Hid _ := M1.out.below hb22
        clear M1
        have M1 : Hid _ := M1n
        clear M1n
        have M2n : Hid _ := M2.out.below hb22
        clear M2
        have M2 : Hid _ := M2n
        clear M2n
        clear hb22
        go_wp2_with fail
        refine (pairs.held_DeclS _ _ _ _ 1 (by omega) (by omega) M1).mono ?_
        rintro e w23 ⟨rfl, hb23⟩
        have HB23 : Hid _ := HB22.out.trans (hb23.mono HB22.out.size)
        have M0n : Hid _ := M0.out.below hb23
        clear M0
        have M0 : Hid _ := M0n
        clear M0n
        have MX0n : Hid _ := MX0.out.below hb23
        clear MX0
        have MX0 : Hid _ := MX0n
        clear MX0n
        have MX1n : Hid _ := MX1.out.below hb23
        clear MX1
        have MX1 : Hid _ := MX1n
        clear MX1n
        have M1n : Hid _ := M1.out.below hb23
        clear M1
        have M1 : Hid _ := M1n
        clear M1n
        have M2n : Hid _ := M2.out.below hb23
        clear M2
        have M2 : Hid _ := M2n
        clear M2n
        clear hb23
        go_wp2
        go_ret
        exact ⟨rfl, HB23.out⟩

/-! ### The row -/
set_option maxRecDepth 100000 in
theorem lifted (os : Os) (started : os.Started) (H : Type) (enc : TypeId × Value → H) :
    ReturnsInHanded {} Try.checked os 4 .any (Rows.fnExactInnerSpec.pre6 enc Try.prog Try.f4 Rows.fnExactInnerRow.domain false) (Rows.fnExactInnerSpec.post enc Try.prog Try.f4 false true false false) := by
  refine returnsInHanded_of_change (C := Try.checked) own started (by kernel_rfl) Try.func4
    (ChangeSpec.witness6 (enc := enc) (C := Try.checked) false ⟨#[], #[.slice none 0 0, .slice none 0 0], []⟩ 8 (by kernel_rfl) (by kernel_rfl) (by kernel_rfl) (by kernel_rfl)) ?_
  intro W base args ds gs before hval0 hW hcnd _
  have hval : ∀ (j : Nat) t v, Try.f4.params[j]? = some t → args[j]? = some v → Value.okWide Try.prog W .any base t v := hval0
  have hW' := hW
  obtain ⟨p, q, hA0, hV, rfl, hfz, hnd⟩ := hW
  have hA : DataW.TrodAll enc Try.prog W 0 (fun _ => true) true Try.f4.params.toList args.toList ds p := hA0
  rw [Try.params4] at hA hval
  obtain ⟨v0, vs0, d0, ds0, p0, q0, hargs, rfl, rfl, h0, r0⟩ := trodAll_cons hA
  obtain ⟨v1, vs1, d1, ds1, p1, q1, rfl, rfl, rfl, h1, r1⟩ := trodAll_cons r0
  obtain ⟨rfl, rfl, rfl⟩ := trodAll_nil r1
  obtain rfl : args = #[v0, v1] := by cases args; simp_all
  obtain ⟨rfl, rfl⟩ := trodVars_none hV
  obtain ⟨a0, len0, cap0, rfl⟩ := okWide_slice Try.underlying22 (hval 0 22 v0 rfl rfl)
  have k0 := h0
  have lt0 : ∀ x ∈ p0, x.block < W.heap.size := by obtain ⟨m, hm⟩ := k0; exact DataW.trod_lt m _ _ _ hm
  obtain ⟨L0, hl0, w0⟩ : ∃ L : List pairs.Pair, len0 = L.length ∧ pairs.PairsAt W a0 L := by
    obtain ⟨fuel, hf⟩ := h0
    obtain ⟨a', c', L, hcs, hp⟩ := pairs.open_Decl hf
    simp [Value.cells] at hcs
    obtain ⟨rfl, rfl, rfl⟩ := hcs
    exact ⟨L, rfl, hp⟩
  subst hl0
  obtain ⟨a1, len1, cap1, rfl⟩ := okWide_slice Try.underlying22 (hval 1 22 v1 rfl rfl)
  have k1 := h1
  have lt1 : ∀ x ∈ p1, x.block < W.heap.size := by obtain ⟨m, hm⟩ := k1; exact DataW.trod_lt m _ _ _ hm
  obtain ⟨L1, hl1, w1⟩ : ∃ L : List pairs.Pair, len1 = L.length ∧ pairs.PairsAt W a1 L := by
    obtain ⟨fuel, hf⟩ := h1
    obtain ⟨a', c', L, hcs, hp⟩ := pairs.open_Decl hf
    simp [Value.cells] at hcs
    obtain ⟨rfl, rfl, rfl⟩ := hcs
    exact ⟨L, rfl, hp⟩
  subst hl1
  clear hA0 hval0
  simp only [List.append_nil] at hW'
  refine (walk a0 cap0 L0 a1 cap1 L1 W w0 w1).mono fun e W' ⟨he, bel⟩ => ?_
  subst he
  exact ⟨_, rfl, _, _, _, [], _, [], hW', (trodAll_cons_mk (shut_bool Try.underlying4 _) trodAll_mk0), (trodAll_cons_mk (Below.trod laidOut (by kernel_rfl) (of_decide_eq_true (by kernel_rfl)) k0 bel lt0) (trodAll_cons_mk (Below.trod laidOut (by kernel_rfl) (of_decide_eq_true (by kernel_rfl)) k1 bel lt1) trodAll_mk0)), rfl, bel.frame _, fun h => by cases h⟩

/-- The statement. -/
theorem proved : Rows.FnExactInnerSaid :=
  OpenClaim.holds_of_wide 4 Try.f4 rfl rfl rfl rfl rfl rfl rfl ⟨rfl, rfl, rfl, rfl, rfl⟩ rfl rfl rfl rfl rfl (by kernel_rfl) Try.func4 (by kernel_rfl)
    (of_decide_eq_true (by kernel_rfl)) (by unfold Func.isWrapper; first | (rw [if_pos (by decide +kernel)]; kernel_rfl) | (rw [if_neg (by decide +kernel)]; exact ⟨rfl, rfl⟩))
    (fun os started H enc _ => lifted os started H enc)
#print axioms proved
end Go.Proofs.Ytifeikodjinpdaa.fnExactInner
