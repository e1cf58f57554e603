/-
  At every list, every text and every bool the law FnExactPreFor returns true: PreFor answers as its specification at every argument, and writes nothing into the list. No condition.
  The frame is after the kit's own program (proof-skeleton.mjs); the walk is ours.
-/
import Derived.Test.YtifeikodjinpdaaRows
import Derived.Test.YtifeikodjinpdaaImplPre
import Derived.Test.YtifeikodjinpdaaPairDecl
import Derived.Test.YtifeikodjinpdaaScope
import Derived.WalkKit
import Derived.ProofKit
import Derived.OpenShut
import Derived.ShutString
import Derived.ChangeOld
import Derived.Below
import Derived.LaidMore
import Derived.OpenVars
namespace Go.Proofs.Ytifeikodjinpdaa.fnExactPreFor
open Go.ChangeShapes Go.WideShapes Go.ChangeAt Go.RowKit Go.WideMaps Go.WideElems
open Go.ChangeMaps (open_string shut_string)
set_option linter.unusedVariables false

theorem own : ownKnob Try.prog.godebug = none := by kernel_rfl
theorem laidOut : laidOutB Try.prog = true := by kernel_rfl

theorem spec_preB (L : List pairs.Pair) (uri : ByteArray) (bare : Bool) (x : ByteArray) (ok : Bool) (h : scopes.preR L uri bare = (x, ok)) (a : Option Addr) (cap : Nat) (w : World) (hL : pairs.PairsAt w a L) : Calls Try.prog 15 #[.slice a L.length cap, .string uri, .bool bare] w fun e w' => e = .returned (.tuple #[.string x, .bool ok]) ∧ w' = w := by
  have := scopes.spec_pre a L cap uri bare w hL
  rw [h] at this
  exact this
theorem impl_preB (L : List pairs.Pair) (uri : ByteArray) (bare : Bool) (x : ByteArray) (ok : Bool) (h : scopes.preR L uri bare = (x, ok)) (a : Option Addr) (cap : Nat) (w : World) (hL : pairs.PairsAt w a L) : Calls Try.prog 16 #[.slice a L.length cap, .string uri, .bool bare] w fun e w' => e = .returned (.tuple #[.string x, .bool ok]) ∧ Below w.heap.size w w' := by
  have := scopes.impl_pre a L cap uri bare w hL
  rw [h] at this
  exact this


/-! ### The walk: the law returns true, and nothing that was there has turned -/
set_option maxRecDepth 100000 in
set_option maxHeartbeats 2000000 in
theorem walk (a0 : Option Addr) (cap0 : Nat) (L0 : List pairs.Pair) (a1 : ByteArray) (a2 : Bool) (w : World) (w0 : pairs.PairsAt w a0 L0) (w1 : a1.size ≤ maxLen)  :
    Calls Try.prog 5 #[.slice a0 L0.length cap0, .string a1, .bool a2] w fun e w' => e = .returned (.bool true) ∧ Below w.heap.size w w' := by
  have HL : Hid _ := w0
  clear w0
  by_cases hbig : 1048576 < (a1.size : Int)
  · go_enter Try.func5, Try.ntmps5
    go_wp2
    go_ret
    exact ⟨rfl, Below.refl _ _⟩
  · go_enter Try.func5, Try.ntmps5
    go_wp2_with fail
    refine (pairs.sz_DeclS _ _ _ _ 1048576 (Nat.le_refl _) HL).mono ?_
    rintro e w1 ⟨⟨r, rfl, hr⟩, hb1⟩
    have HB1 : Hid _ := hb1
    have HSM : Hid _ := hr
    clear hb1 hr
    by_cases hneg : r < 0
    · go_wp2
      go_ret
      exact ⟨rfl, HB1.out⟩
    · have HS : Hid (pairs.Small L0 1048576) := (HSM.out (by omega)).2
      obtain ⟨x, ok, hx⟩ : ∃ x ok, scopes.preR L0 a1 a2 = (x, ok) := ⟨_, _, rfl⟩
      have H1 : Hid (∀ (a : Option Addr) (cap : Nat) (w : World), _) := spec_preB L0 a1 a2 x ok hx
      have H2 : Hid (∀ (a : Option Addr) (cap : Nat) (w : World), _) := impl_preB L0 a1 a2 x ok hx
      clear hx
      go_wp2_with fail
      refine (pairs.to_DeclS _ _ _ _ (HL.out.below (Nat.le_refl _) HB1.out) HS.out.len).mono ?_
      rintro e w2 ⟨⟨g2, rfl, hg2, hp2⟩, hb2⟩
      have HP2 : Hid _ := hp2
      have HB2 : Hid _ := HB1.out.trans (hb2.mono HB1.out.size)
      clear hb2 hp2 hg2
      go_wp2_with fail
      refine (H1.out _ _ _ HP2.out).mono ?_
      rintro e w3 ⟨rfl, hw1⟩
      have hw2 := hw1.symm
      clear hw1
      subst hw2
      go_wp2_with fail
      refine (pairs.to_DeclS _ _ _ _ (HL.out.below (Nat.le_refl _) HB2.out) HS.out.len).mono ?_
      rintro e w4 ⟨⟨g4, rfl, hg4, hp4⟩, hb4⟩
      have HP4 : Hid _ := hp4
      have HB4 : Hid _ := HB2.out.trans (hb4.mono HB2.out.size)
      clear hb4 hp4 hg4
      go_wp2_with fail
      refine (H2.out _ _ _ HP4.out).mono ?_
      rintro e w5 ⟨rfl, hb5⟩
      have HB5 : Hid _ := HB4.out.trans (hb5.mono HB4.out.size)
      have HP5 : Hid _ := HP4.out.below (Nat.le_refl _) hb5
      clear hb5 HP4
      cases ok
      all_goals
        go_wp2_with fail
        refine (pairs.to_DeclS _ _ _ _ (HL.out.below (Nat.le_refl _) HB5.out) HS.out.len).mono ?_
        rintro e w6 ⟨⟨g6, rfl, hg6, hp6⟩, hb6⟩
        have HP6 : Hid _ := hp6
        have HP56 : Hid _ := HP5.out.below (Nat.le_refl _) hb6
        have HB6 : Hid _ := HB5.out.trans (hb6.mono HB5.out.size)
        clear hb6 hp6 hg6 HP5
        go_wp2_with fail
        refine (pairs.eq_DeclS _ _ _ _ _ _ HP56 HP6).mono ?_
        rintro e w7 ⟨rfl, hb7⟩
        have HB7 : Hid _ := HB6.out.trans (hb7.mono HB6.out.size)
        clear hb7
        go_wp2
        go_ret
        exact ⟨rfl, HB7.out⟩

/-! ### The row -/
set_option maxRecDepth 100000 in
theorem lifted (os : Os) (started : os.Started) (H : Type) (enc : TypeId × Value → H) :
    ReturnsInHanded {} Try.checked os 5 .any (Rows.fnExactPreForSpec.pre6 enc Try.prog Try.f5 Rows.fnExactPreForRow.domain false) (Rows.fnExactPreForSpec.post enc Try.prog Try.f5 false true false false) := by
  refine returnsInHanded_of_change (C := Try.checked) own started (by kernel_rfl) Try.func5
    (ChangeSpec.witness6 (enc := enc) (C := Try.checked) false ⟨#[], #[.slice none 0 0, .string ByteArray.empty, .bool false], []⟩ 8 (by kernel_rfl) (by kernel_rfl) (by kernel_rfl) (by kernel_rfl)) ?_
  intro W base args ds gs before hval0 hW hcnd _
  have hval : ∀ (j : Nat) t v, Try.f5.params[j]? = some t → args[j]? = some v → Value.okWide Try.prog W .any base t v := hval0
  have hW' := hW
  obtain ⟨p, q, hA0, hV, rfl, hfz, hnd⟩ := hW
  have hA : DataW.TrodAll enc Try.prog W 0 (fun _ => true) true Try.f5.params.toList args.toList ds p := hA0
  rw [Try.params5] at hA hval
  obtain ⟨v0, vs0, d0, ds0, p0, q0, hargs, rfl, rfl, h0, r0⟩ := trodAll_cons hA
  obtain ⟨v1, vs1, d1, ds1, p1, q1, rfl, rfl, rfl, h1, r1⟩ := trodAll_cons r0
  obtain ⟨v2, vs2, d2, ds2, p2, q2, rfl, rfl, rfl, h2, r2⟩ := trodAll_cons r1
  obtain ⟨rfl, rfl, rfl⟩ := trodAll_nil r2
  obtain rfl : args = #[v0, v1, v2] := by cases args; simp_all
  obtain ⟨rfl, rfl⟩ := trodVars_none hV
  obtain ⟨a0, len0, cap0, rfl⟩ := okWide_slice Try.underlying22 (hval 0 22 v0 rfl rfl)
  have k0 := h0
  have lt0 : ∀ x ∈ p0, x.block < W.heap.size := by obtain ⟨m, hm⟩ := k0; exact DataW.trod_lt m _ _ _ hm
  obtain ⟨L0, hl0, w0⟩ : ∃ L : List pairs.Pair, len0 = L.length ∧ pairs.PairsAt W a0 L := by
    obtain ⟨fuel, hf⟩ := h0
    obtain ⟨a', c', L, hcs, hp⟩ := pairs.open_Decl hf
    simp [Value.cells] at hcs
    obtain ⟨rfl, rfl, rfl⟩ := hcs
    exact ⟨L, rfl, hp⟩
  subst hl0
  obtain ⟨a1, rfl, rfl, rfl, w1⟩ := open_string Try.underlying9 (hval 1 9 v1 rfl rfl) h1
  obtain ⟨a2, rfl, rfl, rfl⟩ := open_bool Try.underlying4 (hval 2 4 v2 rfl rfl) h2
  clear hA0 hval0
  simp only [List.append_nil] at hW'
  refine (walk a0 cap0 L0 a1 a2 W w0 w1 ).mono fun e W' ⟨he, bel⟩ => ?_
  subst he
  exact ⟨_, rfl, _, _, _, [], _, [], hW', (trodAll_cons_mk (shut_bool Try.underlying4 _) trodAll_mk0), (trodAll_cons_mk (Below.trod laidOut (by kernel_rfl) (of_decide_eq_true (by kernel_rfl)) k0 bel lt0) (trodAll_cons_mk (shut_string Try.underlying9 w1) (trodAll_cons_mk (shut_bool Try.underlying4 _) trodAll_mk0))), rfl, bel.frame _, fun h => by cases h⟩

/-- The statement. -/
theorem proved : Rows.FnExactPreForSaid :=
  OpenClaim.holds_of_wide 5 Try.f5 rfl rfl rfl rfl rfl rfl rfl ⟨rfl, rfl, rfl, rfl, rfl⟩ rfl rfl rfl rfl rfl (by kernel_rfl) Try.func5 (by kernel_rfl)
    (of_decide_eq_true (by kernel_rfl)) (by unfold Func.isWrapper; first | (rw [if_pos (by decide +kernel)]; kernel_rfl) | (rw [if_neg (by decide +kernel)]; exact ⟨rfl, rfl⟩))
    (fun os started H enc _ => lifted os started H enc)
#print axioms proved
end Go.Proofs.Ytifeikodjinpdaa.fnExactPreFor
