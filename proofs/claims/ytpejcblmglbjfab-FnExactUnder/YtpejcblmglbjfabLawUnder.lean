/-
  At every argument the law FnExactUnder returns true: Under answers as its specification at every argument, and writes nothing into it. No condition.
  The frame is after the kit's own program (proof-skeleton.mjs); the walk is ours.
-/
import Derived.Test.YtpejcblmglbjfabRows
import Derived.Test.YtpejcblmglbjfabPathQ
import Derived.WalkKit
import Derived.ProofKit
import Derived.OpenShut
import Derived.ShutString
import Derived.ChangeOld
import Derived.Below
import Derived.LaidMore
import Derived.OpenVars
namespace Go.Proofs.Ytpejcblmglbjfab.fnExactUnder
open Go.ChangeShapes Go.WideShapes Go.ChangeAt Go.RowKit Go.WideMaps Go.WideElems
open Go.ChangeMaps (open_string shut_string)
set_option linter.unusedVariables false

theorem own : ownKnob Try.prog.godebug = none := by kernel_rfl
theorem laidOut : laidOutB Try.prog = true := by kernel_rfl

theorem to_flat {cap : Nat} {L : List Int} {a : Option Addr} {w : World} (hz : L.length ≤ 1048576) (hn : ints.IntsAt w a L) : Calls Try.prog 6 #[.slice a L.length cap] w fun e w' => (∃ g, e = .returned (.slice (some ⟨g, 0, none⟩) L.length L.length) ∧ ints.IntsAt w' (some ⟨g, 0, none⟩) L) ∧ Below w.heap.size w w' :=
  (ints.to_ints w a L cap hn hz).mono fun e w' ⟨⟨g, he, _, hp, _⟩, hb⟩ => ⟨⟨g, he, hp⟩, hb⟩

/-! ### The walk: the law returns true, and nothing that was there has turned -/
set_option maxRecDepth 100000 in
set_option maxHeartbeats 4000000 in
theorem walk (a0 : Option Addr) (cap0 : Nat) (L0 : List Int) (a1 : Option Addr) (cap1 : Nat) (L1 : List Int) (w : World) (w0 : ints.IntsAt w a0 L0) (w1 : ints.IntsAt w a1 L1) :
    Calls Try.prog 4 #[.slice a0 L0.length cap0, .slice a1 L1.length cap1] w fun e w' => e = .returned (.bool true) ∧ Below w.heap.size w w' := by
  have HL_0 : Hid (ints.IntsAt w a0 L0) := w0
  have HM_0 : Hid (ints.IntsAt w a1 L1) := w1
  clear w0 w1
  obtain ⟨u, hu⟩ : ∃ u, paths.underB L0 L1 = u := ⟨_, rfl⟩
  have HU : Hid _ := hu
  clear hu
  have hxx : (u != u) = false := by simp
  by_cases hn1 : (1048576 : Int) < L0.length
  · go_enter Try.func4, Try.ntmps4
    go_wp2
    go_ret
    exact ⟨rfl, Below.refl _ _⟩
  by_cases hn2 : (1048576 : Int) < L1.length
  · go_enter Try.func4, Try.ntmps4
    go_wp2
    go_ret
    exact ⟨rfl, Below.refl _ _⟩
  have HZ1 : Hid (L0.length ≤ 1048576) := by show _ ≤ _; omega
  have HZ2 : Hid (L1.length ≤ 1048576) := by show _ ≤ _; omega
  have HB0 : Hid (Below w.heap.size w w) := Below.refl _ _
  go_enter Try.func4, Try.ntmps4
  go_wp2_with fail
  refine Calls.mono (to_flat HZ1.out HL_0.out) ?_
  rintro e z1 ⟨⟨g1, rfl, hp⟩, hb⟩
  have HB1 : Hid (Below w.heap.size w z1) := HB0.out.trans (hb.mono HB0.out.size)
  have HL_1 : Hid _ := ints.IntsAt.below HL_0.out (Nat.le_refl _) hb
  have HM_1 : Hid _ := ints.IntsAt.below HM_0.out (Nat.le_refl _) hb
  have HA_1 : Hid _ := hp
  clear hb HL_0 HM_0 hp
  go_wp2_with fail
  refine Calls.mono (to_flat HZ2.out HM_1.out) ?_
  rintro e z2 ⟨⟨g2, rfl, hp⟩, hb⟩
  have HB2 : Hid (Below w.heap.size w z2) := HB1.out.trans (hb.mono HB1.out.size)
  have HL_2 : Hid _ := ints.IntsAt.below HL_1.out (Nat.le_refl _) hb
  have HM_2 : Hid _ := ints.IntsAt.below HM_1.out (Nat.le_refl _) hb
  have HA_2 : Hid _ := ints.IntsAt.below HA_1.out (Nat.le_refl _) hb
  have HB_2 : Hid _ := hp
  clear hb HL_1 HM_1 HA_1 hp
  go_wp2_with fail
  have hc := paths.spec_under _ _ _ _ _ L0.length L1.length HA_2.out HB_2.out
  rw [HU.out] at hc
  refine Calls.mono hc ?_
  rintro e z3 ⟨rfl, hb⟩
  have HB3 : Hid (Below w.heap.size w z3) := HB2.out.trans (hb.mono HB2.out.size)
  have HL_3 : Hid _ := ints.IntsAt.below HL_2.out (Nat.le_refl _) hb
  have HM_3 : Hid _ := ints.IntsAt.below HM_2.out (Nat.le_refl _) hb
  have HA_3 : Hid _ := ints.IntsAt.below HA_2.out (Nat.le_refl _) hb
  have HB_3 : Hid _ := ints.IntsAt.below HB_2.out (Nat.le_refl _) hb
  clear hb hc HL_2 HM_2 HA_2 HB_2
  clear HA_3
  clear HB_3
  go_wp2_with fail
  refine Calls.mono (to_flat HZ1.out HL_3.out) ?_
  rintro e z4 ⟨⟨g3, rfl, hp⟩, hb⟩
  have HB4 : Hid (Below w.heap.size w z4) := HB3.out.trans (hb.mono HB3.out.size)
  have HL_4 : Hid _ := ints.IntsAt.below HL_3.out (Nat.le_refl _) hb
  have HM_4 : Hid _ := ints.IntsAt.below HM_3.out (Nat.le_refl _) hb
  have HX_4 : Hid _ := hp
  clear hb HL_3 HM_3 hp
  go_wp2_with fail
  refine Calls.mono (to_flat HZ2.out HM_4.out) ?_
  rintro e z5 ⟨⟨g4, rfl, hp⟩, hb⟩
  have HB5 : Hid (Below w.heap.size w z5) := HB4.out.trans (hb.mono HB4.out.size)
  have HL_5 : Hid _ := ints.IntsAt.below HL_4.out (Nat.le_refl _) hb
  have HM_5 : Hid _ := ints.IntsAt.below HM_4.out (Nat.le_refl _) hb
  have HX_5 : Hid _ := ints.IntsAt.below HX_4.out (Nat.le_refl _) hb
  have HY_5 : Hid _ := hp
  clear hb HL_4 HM_4 HX_4 hp
  go_wp2_with fail
  have hc := paths.impl_under _ _ _ _ _ L0.length L1.length (Nat.le_refl _) HX_5.out HY_5.out
  rw [HU.out] at hc
  refine Calls.mono hc ?_
  rintro e z6 ⟨rfl, hb⟩
  have HB6 : Hid (Below w.heap.size w z6) := HB5.out.trans (hb.mono HB5.out.size)
  have HL_6 : Hid _ := ints.IntsAt.below HL_5.out (Nat.le_refl _) hb
  have HM_6 : Hid _ := ints.IntsAt.below HM_5.out (Nat.le_refl _) hb
  have HX_6 : Hid _ := ints.IntsAt.below HX_5.out (Nat.le_refl _) hb
  have HY_6 : Hid _ := ints.IntsAt.below HY_5.out (Nat.le_refl _) hb
  clear hb hc HL_5 HM_5 HX_5 HY_5
  go_wp2_with fail
  refine Calls.mono (to_flat HZ1.out HL_6.out) ?_
  rintro e z7 ⟨⟨g5, rfl, hp⟩, hb⟩
  have HB7 : Hid (Below w.heap.size w z7) := HB6.out.trans (hb.mono HB6.out.size)
  have HL_7 : Hid _ := ints.IntsAt.below HL_6.out (Nat.le_refl _) hb
  have HM_7 : Hid _ := ints.IntsAt.below HM_6.out (Nat.le_refl _) hb
  have HX_7 : Hid _ := ints.IntsAt.below HX_6.out (Nat.le_refl _) hb
  have HY_7 : Hid _ := ints.IntsAt.below HY_6.out (Nat.le_refl _) hb
  have HC_7 : Hid _ := hp
  clear hb HL_6 HM_6 HX_6 HY_6 hp
  go_wp2_with fail
  refine Calls.mono (ints.eq_ints _ _ _ _ _ _ HX_7.out HC_7.out) ?_
  rintro e z8 ⟨rfl, hb⟩
  have HB8 : Hid (Below w.heap.size w z8) := HB7.out.trans (hb.mono HB7.out.size)
  have HL_8 : Hid _ := ints.IntsAt.below HL_7.out (Nat.le_refl _) hb
  have HM_8 : Hid _ := ints.IntsAt.below HM_7.out (Nat.le_refl _) hb
  have HX_8 : Hid _ := ints.IntsAt.below HX_7.out (Nat.le_refl _) hb
  have HY_8 : Hid _ := ints.IntsAt.below HY_7.out (Nat.le_refl _) hb
  have HC_8 : Hid _ := ints.IntsAt.below HC_7.out (Nat.le_refl _) hb
  clear hb HL_7 HM_7 HX_7 HY_7 HC_7
  clear HC_8
  clear HX_8
  go_wp2_with fail
  refine Calls.mono (to_flat HZ2.out HM_8.out) ?_
  rintro e z9 ⟨⟨g6, rfl, hp⟩, hb⟩
  have HB9 : Hid (Below w.heap.size w z9) := HB8.out.trans (hb.mono HB8.out.size)
  have HL_9 : Hid _ := ints.IntsAt.below HL_8.out (Nat.le_refl _) hb
  have HM_9 : Hid _ := ints.IntsAt.below HM_8.out (Nat.le_refl _) hb
  have HY_9 : Hid _ := ints.IntsAt.below HY_8.out (Nat.le_refl _) hb
  have HD_9 : Hid _ := hp
  clear hb HL_8 HM_8 HY_8 hp
  go_wp2_with fail
  refine Calls.mono (ints.eq_ints _ _ _ _ _ _ HY_9.out HD_9.out) ?_
  rintro e z10 ⟨rfl, hb⟩
  have HB10 : Hid (Below w.heap.size w z10) := HB9.out.trans (hb.mono HB9.out.size)
  have HL_10 : Hid _ := ints.IntsAt.below HL_9.out (Nat.le_refl _) hb
  have HM_10 : Hid _ := ints.IntsAt.below HM_9.out (Nat.le_refl _) hb
  have HY_10 : Hid _ := ints.IntsAt.below HY_9.out (Nat.le_refl _) hb
  have HD_10 : Hid _ := ints.IntsAt.below HD_9.out (Nat.le_refl _) hb
  clear hb HL_9 HM_9 HY_9 HD_9
  go_wp2
  go_ret
  exact ⟨rfl, HB10.out⟩

/-! ### The row -/
set_option maxRecDepth 100000 in
theorem lifted (os : Os) (started : os.Started) (H : Type) (enc : TypeId × Value → H) :
    ReturnsInHanded {} Try.checked os 4 .any (Rows.fnExactUnderSpec.pre6 enc Try.prog Try.f4 Rows.fnExactUnderRow.domain false) (Rows.fnExactUnderSpec.post enc Try.prog Try.f4 false true false false) := by
  refine returnsInHanded_of_change (C := Try.checked) own started (by kernel_rfl) Try.func4
    (ChangeSpec.witness6 (enc := enc) (C := Try.checked) false ⟨#[], #[.slice none 0 0, .slice none 0 0], []⟩ 8 (by kernel_rfl) (by kernel_rfl) (by kernel_rfl) (by kernel_rfl)) ?_
  intro W base args ds gs before hval0 hW hcnd _
  have hval : ∀ (j : Nat) t v, Try.f4.params[j]? = some t → args[j]? = some v → Value.okWide Try.prog W .any base t v := hval0
  have hW' := hW
  obtain ⟨p, q, hA0, hV, rfl, hfz, hnd⟩ := hW
  have hA : DataW.TrodAll enc Try.prog W 0 (fun _ => true) true Try.f4.params.toList args.toList ds p := hA0
  rw [Try.params4] at hA hval
  obtain ⟨v0, vs0, d0, ds0, p0, q0, hargs, rfl, rfl, h0, r0⟩ := trodAll_cons hA
  obtain ⟨v1, vs1, d1, ds1, p1, q1, rfl, rfl, rfl, h1, r1⟩ := trodAll_cons r0
  obtain ⟨rfl, rfl, rfl⟩ := trodAll_nil r1
  obtain rfl : args = #[v0, v1] := by cases args; simp_all
  obtain ⟨rfl, rfl⟩ := trodVars_none hV
  obtain ⟨a0, len0, cap0, rfl⟩ := okWide_slice Try.underlying22 (hval 0 22 v0 rfl rfl)
  have k0 := h0
  have lt0 : ∀ x ∈ p0, x.block < W.heap.size := by obtain ⟨m, hm⟩ := k0; exact DataW.trod_lt m _ _ _ hm
  obtain ⟨L0, hl0, w0⟩ : ∃ L : List Int, len0 = L.length ∧ ints.IntsAt W a0 L := by
    obtain ⟨fuel, hf⟩ := h0
    obtain ⟨a', c', L, hcs, hp⟩ := ints.open_intS Try.underlying22 Try.underlying3 (by kernel_rfl) hf
    simp [Value.cells] at hcs
    obtain ⟨rfl, rfl, rfl⟩ := hcs
    exact ⟨L, rfl, hp⟩
  subst hl0
  obtain ⟨a1, len1, cap1, rfl⟩ := okWide_slice Try.underlying22 (hval 1 22 v1 rfl rfl)
  have k1 := h1
  have lt1 : ∀ x ∈ p1, x.block < W.heap.size := by obtain ⟨m, hm⟩ := k1; exact DataW.trod_lt m _ _ _ hm
  obtain ⟨L1, hl1, w1⟩ : ∃ L : List Int, len1 = L.length ∧ ints.IntsAt W a1 L := by
    obtain ⟨fuel, hf⟩ := h1
    obtain ⟨a', c', L, hcs, hp⟩ := ints.open_intS Try.underlying22 Try.underlying3 (by kernel_rfl) hf
    simp [Value.cells] at hcs
    obtain ⟨rfl, rfl, rfl⟩ := hcs
    exact ⟨L, rfl, hp⟩
  subst hl1
  clear hA0 hval0
  simp only [List.append_nil] at hW'
  refine (walk a0 cap0 L0 a1 cap1 L1 W w0 w1).mono fun e W' ⟨he, bel⟩ => ?_
  subst he
  exact ⟨_, rfl, _, _, _, [], _, [], hW', (trodAll_cons_mk (shut_bool Try.underlying4 _) trodAll_mk0), (trodAll_cons_mk (Below.trod laidOut (by kernel_rfl) (of_decide_eq_true (by kernel_rfl)) k0 bel lt0) (trodAll_cons_mk (Below.trod laidOut (by kernel_rfl) (of_decide_eq_true (by kernel_rfl)) k1 bel lt1) trodAll_mk0)), rfl, bel.frame _, fun h => by cases h⟩

/-- The statement. -/
theorem proved : Rows.FnExactUnderSaid :=
  OpenClaim.holds_of_wide 4 Try.f4 rfl rfl rfl rfl rfl rfl rfl ⟨rfl, rfl, rfl, rfl, rfl⟩ rfl rfl rfl rfl rfl (by kernel_rfl) Try.func4 (by kernel_rfl)
    (of_decide_eq_true (by kernel_rfl)) (by unfold Func.isWrapper; first | (rw [if_pos (by decide +kernel)]; kernel_rfl) | (rw [if_neg (by decide +kernel)]; exact ⟨rfl, rfl⟩))
    (fun os started H enc _ => lifted os started H enc)
#print axioms proved
end Go.Proofs.Ytpejcblmglbjfab.fnExactUnder
