/-
  At every argument the law FnExactDefOf returns true: DefOf answers as its specification at every argument, and writes nothing into it. No condition.
  The frame is after the kit's own program (proof-skeleton.mjs); the walk is ours.
-/
import Derived.Test.YtfcmcclpcebgdabRows
import Derived.Test.YtfcmcclpcebgdabDefFns
import Derived.Test.YtfcmcclpcebgdabDefOpen
import Derived.Test.YtfcmcclpcebgdabImplDef
import Derived.WalkKit
import Derived.ProofKit
import Derived.OpenShut
import Derived.ShutString
import Derived.ChangeOld
import Derived.Below
import Derived.LaidMore
import Derived.OpenVars
namespace Go.Proofs.Ytfcmcclpcebgdab.fnExactDefOf
open Go.ChangeShapes Go.WideShapes Go.ChangeAt Go.RowKit Go.WideMaps Go.WideElems
open Go.ChangeMaps (open_string shut_string)
set_option linter.unusedVariables false

theorem own : ownKnob Try.prog.godebug = none := by kernel_rfl
theorem laidOut : laidOutB Try.prog = true := by kernel_rfl

theorem box_kept {w w' : World} {o : Obj} (hb : Below (w.alloc o).heap.size (w.alloc o) w') : w'.heap[w.heap.size]? = some o := (hb.block w.heap.size (by simp)).trans (heap_alloc_new w _)
theorem box_under {w w' : World} {o : Obj} (hb : Below (w.alloc o).heap.size (w.alloc o) w') : Below w.heap.size w w' := ((Below.refl _ _).alloc (Nat.le_refl _) o).trans (hb.mono (by simp))
theorem box_below {w w' : World} {b : Nat} {o : Obj} (h : w.heap[b]? = some o) (hb : Below w.heap.size w w') : w'.heap[b]? = some o := (hb.block b (pairs.lt_heap h)).trans h

/-! ### The walk: the law returns true, and nothing that was there has turned -/
set_option maxRecDepth 100000 in
set_option maxHeartbeats 4000000 in
theorem walk (a0 : Option Addr) (cap0 : Nat) (L0 : List heads.Df) (a1 : ByteArray) (a2 : ByteArray) (w : World) (w0 : heads.DfsAt w a0 L0) (w1 : a1.size ≤ maxLen) (w2 : a2.size ≤ maxLen) :
    Calls Try.prog 3 #[.slice a0 L0.length cap0, .string a1, .string a2] w fun e w' => e = .returned (.bool true) ∧ Below w.heap.size w w' := by
  have HN : Hid (heads.DfsAt w a0 L0) := w0
  clear w0
  unfold maxLen at w1 w2
  obtain ⟨d, ok, hR⟩ : ∃ d ok, heads.dfR L0 a1 a2 = (d, ok) := ⟨_, _, rfl⟩
  have H1 : Hid (∀ (a : Option Addr) (cap : Nat) (w : World), heads.DfsAt w a L0 → _) := fun a cap w h => heads.spec_def a L0 cap a1 a2 d ok hR w h
  have H2 : Hid (∀ (a : Option Addr) (cap : Nat) (w : World), heads.DfsAt w a L0 → _) := fun a cap w h => heads.impl_def a L0 cap a1 a2 d ok hR w h
  have hoo : (ok != ok) = false := by cases ok <;> rfl
  clear hR
  by_cases hn1 : (1048576 : Int) < a1.size
  · go_enter Try.func3, Try.ntmps3
    go_wp2
    go_ret
    exact ⟨rfl, Below.refl _ _⟩
  · by_cases hn2 : (1048576 : Int) < a2.size
    · go_enter Try.func3, Try.ntmps3
      go_wp2
      go_ret
      exact ⟨rfl, Below.refl _ _⟩
    · go_enter Try.func3, Try.ntmps3
      go_wp2_with fail
      refine (heads.sz_dfs w a0 L0 cap0 1048576 (Nat.le_refl _) HN).mono ?_
      rintro e w1 ⟨⟨r0, rfl, hr0⟩, hb⟩
      have HB1 : Hid (Below w.heap.size w w1) := hb
      clear hb
      by_cases hneg : r0 < 0
      · go_wp2
        go_ret
        exact ⟨rfl, HB1.out⟩
      · have hz : L0.length ≤ 1048576 := by have := hr0 (by omega); unfold heads.smallF at this; omega
        clear hr0
        go_wp2_with fail
        refine (heads.mk_dfs _ _ _ _ (HN.out.below (Nat.le_refl _) HB1.out) hz).mono ?_
        rintro e w2 ⟨⟨g1, rfl, -, hp, -⟩, hb⟩
        have HB2 : Hid (Below w.heap.size w w2) := HB1.out.trans (hb.mono HB1.out.size)
        have HP2 : Hid _ := hp
        clear hb hp HB1
        go_wp2_with fail
        refine (H1.out _ _ _ HP2.out).mono ?_
        rintro e w3 ⟨rfl, hb⟩
        have HB3 : Hid (Below w.heap.size w w3) := HB2.out.trans (hb.mono HB2.out.size)
        clear hb HP2 HB2 H1
        go_wp2_with fail
        refine (heads.mk_dfs _ _ _ _ (HN.out.below (Nat.le_refl _) (HB3.out.alloc HB3.out.size _)) hz).mono ?_
        rintro e w4 ⟨⟨g2, rfl, -, hp, -⟩, hb⟩
        have hu := box_under hb
        have HB4 : Hid (Below w.heap.size w w4) := HB3.out.trans (hu.mono HB3.out.size)
        have HX4 : Hid (w4.heap[w3.heap.size]? = _) := box_kept hb
        have HP4 : Hid _ := hp
        clear hb hu hp HB3
        go_wp2_with fail
        refine (H2.out _ _ _ HP4.out).mono ?_
        rintro e w5 ⟨rfl, hb⟩
        have HB5 : Hid (Below w.heap.size w w5) := HB4.out.trans (hb.mono HB4.out.size)
        have HX5 : Hid _ := box_below HX4.out hb
        have HP5 : Hid _ := HP4.out.below (Nat.le_refl _) hb
        clear hb HX4 HP4 HB4 H2
        have HY5 : Hid (∀ o, (w5.alloc o).heap[w3.heap.size]? = _) := fun o => box_below HX5.out ((Below.refl _ _).alloc (Nat.le_refl _) o)
        obtain ⟨⟨x0, x1, x2, x3, x4⟩, -⟩ := heads.box5 (HY5.out (.cells #[.string d.el, .string d.at_, .bool d.id, .bool d.has, .string d.val] 25))
        go_wp2_with fail
        refine (heads.eq_df d _).mono ?_
        rintro e w6 ⟨rfl, hb⟩
        have hu := box_under hb
        have HB6 : Hid (Below w.heap.size w w6) := HB5.out.trans (hu.mono HB5.out.size)
        have HP6 : Hid _ := HP5.out.below (Nat.le_refl _) hu
        clear hb hu HP5 HX5 HY5 x0 x1 x2 x3 x4
        go_wp2_with fail
        refine (heads.mk_dfs _ _ _ _ (HN.out.below (Nat.le_refl _) HB6.out) hz).mono ?_
        rintro e w7 ⟨⟨g3, rfl, -, hp, -⟩, hb⟩
        have HB7 : Hid (Below w.heap.size w w7) := HB6.out.trans (hb.mono HB6.out.size)
        have HP7 : Hid _ := HP6.out.below (Nat.le_refl _) hb
        have HQ7 : Hid _ := hp
        clear hb hp HP6 HB6
        go_wp2_with fail
        refine (heads.eq_dfs _ _ _ _ _ _ HP7 HQ7).mono ?_
        rintro e w8 ⟨rfl, hb⟩
        have HB8 : Hid (Below w.heap.size w w8) := HB7.out.trans (hb.mono HB7.out.size)
        clear hb
        go_wp2
        go_ret
        exact ⟨rfl, HB8.out⟩

/-! ### The row -/
set_option maxRecDepth 100000 in
theorem lifted (os : Os) (started : os.Started) (H : Type) (enc : TypeId × Value → H) :
    ReturnsInHanded {} Try.checked os 3 .any (Rows.fnExactDefOfSpec.pre6 enc Try.prog Try.f3 Rows.fnExactDefOfRow.domain false) (Rows.fnExactDefOfSpec.post enc Try.prog Try.f3 false true false false) := by
  refine returnsInHanded_of_change (C := Try.checked) own started (by kernel_rfl) Try.func3
    (ChangeSpec.witness6 (enc := enc) (C := Try.checked) false ⟨#[], #[.slice none 0 0, .string ByteArray.empty, .string ByteArray.empty], []⟩ 8 (by kernel_rfl) (by kernel_rfl) (by kernel_rfl) (by kernel_rfl)) ?_
  intro W base args ds gs before hval0 hW hcnd _
  have hval : ∀ (j : Nat) t v, Try.f3.params[j]? = some t → args[j]? = some v → Value.okWide Try.prog W .any base t v := hval0
  have hW' := hW
  obtain ⟨p, q, hA0, hV, rfl, hfz, hnd⟩ := hW
  have hA : DataW.TrodAll enc Try.prog W 0 (fun _ => true) true Try.f3.params.toList args.toList ds p := hA0
  rw [Try.params3] at hA hval
  obtain ⟨v0, vs0, d0, ds0, p0, q0, hargs, rfl, rfl, h0, r0⟩ := trodAll_cons hA
  obtain ⟨v1, vs1, d1, ds1, p1, q1, rfl, rfl, rfl, h1, r1⟩ := trodAll_cons r0
  obtain ⟨v2, vs2, d2, ds2, p2, q2, rfl, rfl, rfl, h2, r2⟩ := trodAll_cons r1
  obtain ⟨rfl, rfl, rfl⟩ := trodAll_nil r2
  obtain rfl : args = #[v0, v1, v2] := by cases args; simp_all
  obtain ⟨rfl, rfl⟩ := trodVars_none hV
  obtain ⟨a0, len0, cap0, rfl⟩ := okWide_slice Try.underlying22 (hval 0 22 v0 rfl rfl)
  have k0 := h0
  have lt0 : ∀ x ∈ p0, x.block < W.heap.size := by obtain ⟨m, hm⟩ := k0; exact DataW.trod_lt m _ _ _ hm
  obtain ⟨L0, hl0, w0⟩ : ∃ L : List heads.Df, len0 = L.length ∧ heads.DfsAt W a0 L := by
    obtain ⟨fuel, hf⟩ := h0
    obtain ⟨a', c', L, hcs, hp⟩ := heads.open_dfs hf
    simp [Value.cells] at hcs
    obtain ⟨rfl, rfl, rfl⟩ := hcs
    exact ⟨L, rfl, hp⟩
  subst hl0
  obtain ⟨a1, rfl, rfl, rfl, w1⟩ := open_string Try.underlying9 (hval 1 9 v1 rfl rfl) h1
  obtain ⟨a2, rfl, rfl, rfl, w2⟩ := open_string Try.underlying9 (hval 2 9 v2 rfl rfl) h2
  clear hA0 hval0
  simp only [List.append_nil] at hW'
  refine (walk a0 cap0 L0 a1 a2 W w0 w1 w2).mono fun e W' ⟨he, bel⟩ => ?_
  subst he
  exact ⟨_, rfl, _, _, _, [], _, [], hW', (trodAll_cons_mk (shut_bool Try.underlying4 _) trodAll_mk0), (trodAll_cons_mk (Below.trod laidOut (by kernel_rfl) (of_decide_eq_true (by kernel_rfl)) k0 bel lt0) (trodAll_cons_mk (shut_string Try.underlying9 w1) (trodAll_cons_mk (shut_string Try.underlying9 w2) trodAll_mk0))), rfl, bel.frame _, fun h => by cases h⟩

/-- The statement. -/
theorem proved : Rows.FnExactDefOfSaid :=
  OpenClaim.holds_of_wide 3 Try.f3 rfl rfl rfl rfl rfl rfl rfl ⟨rfl, rfl, rfl, rfl, rfl⟩ rfl rfl rfl rfl rfl (by kernel_rfl) Try.func3 (by kernel_rfl)
    (of_decide_eq_true (by kernel_rfl)) (by unfold Func.isWrapper; first | (rw [if_pos (by decide +kernel)]; kernel_rfl) | (rw [if_neg (by decide +kernel)]; exact ⟨rfl, rfl⟩))
    (fun os started H enc _ => lifted os started H enc)
#print axioms proved
end Go.Proofs.Ytfcmcclpcebgdab.fnExactDefOf
