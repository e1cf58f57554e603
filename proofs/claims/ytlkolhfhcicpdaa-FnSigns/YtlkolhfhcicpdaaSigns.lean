/-
  For every draw the law FnSigns returns true: a sign comes back of its bytes; bytes that are read as one are its own. No condition.
  The frame was written by the kit's own program (proof-skeleton.mjs); the walk is ours.
-/
import Derived.Test.YtlkolhfhcicpdaaRows
import Derived.Test.YtlkolhfhcicpdaaImplAt
import Derived.Test.YtlkolhfhcicpdaaDrawSigns
import Derived.Test.YtlkolhfhcicpdaaDecEnc
import Derived.Test.YtlkolhfhcicpdaaQuiet
import Derived.WalkKit
import Derived.ProofKit
import Derived.OpenShut
import Derived.ShutString
import Derived.ChangeOld
import Derived.Below
namespace Go.Proofs.Ytlkolhfhcicpdaa.fnSigns
open Go.ChangeShapes Go.WideShapes Go.ChangeAt Go.RowKit
open Go.ChangeMaps (open_string shut_string)
set_option linter.unusedVariables false

theorem own : ownKnob Try.prog.godebug = none := by kernel_rfl
theorem laidOut : laidOutB Try.prog = true := by kernel_rfl

/-- WHAT THE WALK IS TOLD OF A SLICE OF INTEGERS THAT CAME IN: it is nil; or it leads to a row of 'cap' cells, the numbers 'zs' (the first 'len' are its elements, the rest its spare room), each fitting its kind. -/
def IsRow (k : IntKind) (w : World) (a : Option Addr) (len cap : Nat) (zs : List Int) : Prop :=
  (a = none ∧ len = 0 ∧ cap = 0 ∧ zs = []) ∨
  ∃ x, a = some x ∧ len ≤ cap ∧ cap ≤ maxLen ∧ zs.length = cap ∧ (∀ i, i < zs.length → w.cell? (x.add i) = some (.int k (zs.getD i 0))) ∧ ∀ n ∈ zs, (Lit.int k n).wf = true

open signs in
theorem at_ways (t : ByteArray) (i : Int) (ht : t.size ≤ maxLen) :
    ((∀ w, Calls Try.prog 7 #[.string t, .int .i64 i] w fun e w' => e = .returned nil3 ∧ Below w.heap.size w w') ∧ (∀ w, Calls Try.prog 9 #[.string t, .int .i64 i] w fun e w' => e = .returned nil3 ∧ w' = w)) ∨
    ∃ v m : Int, 0 ≤ i ∧ i ≤ m ∧ m ≤ t.size ∧ texts.stx v = t.extract i.toNat m.toNat ∧
      (∀ w, Calls Try.prog 7 #[.string t, .int .i64 i] w fun e w' => e = .returned (yes3 v m) ∧ Below w.heap.size w w') ∧ (∀ w, Calls Try.prog 9 #[.string t, .int .i64 i] w fun e w' => e = .returned (yes3 v m) ∧ w' = w) := by
  by_cases ho : i < 0 ∨ (t.size : Int) ≤ i
  · exact .inl ⟨fun w => (impl_out t i w ht ho).mono fun e w' ⟨he, hw⟩ => ⟨he, by rw [hw]; exact Below.refl _ _⟩, fun w => spec_out t i w ht ho⟩
  · obtain ⟨j, rfl⟩ : ∃ j : Nat, i = j := ⟨i.toNat, by omega⟩
    have hj : j < t.size := by omega
    by_cases hb : Utf8.decode t j = (65533, 1)
    · refine .inl ⟨fun w => ?_, fun w => ?_⟩
      · have := impl_in t j w ht hj; rw [satV_no hb] at this; exact this
      · have := spec_in t j w ht hj; rw [satV_no hb] at this; exact this
    · obtain ⟨h1, h2⟩ := dec.back t j hj hb
      refine .inr ⟨((Utf8.decode t j).1 : Int), (j : Int) + ((Utf8.decode t j).2 : Int), by omega, by omega, by omega, ?_, fun w => ?_, fun w => ?_⟩
      · rw [h2]; congr 1
      · have := impl_in t j w ht hj; unfold satV at this; rw [if_neg hb] at this; exact this
      · have := spec_in t j w ht hj; unfold satV at this; rw [if_neg hb] at this; exact this
open signs in
theorem text_back (n : Int) :
    (texts.stx n = ⟨#[]⟩ ∧ (n < 0 ∨ (55296 ≤ n ∧ n ≤ 57343) ∨ 1114111 < n) ∧ ∀ w, Calls Try.prog 7 #[.string (texts.stx n), .int .i64 0] w fun e w' => e = .returned nil3 ∧ Below w.heap.size w w') ∨
    (0 < (texts.stx n).size ∧ (texts.stx n).size ≤ 4 ∧ ∀ w, Calls Try.prog 7 #[.string (texts.stx n), .int .i64 0] w fun e w' => e = .returned (yes3 n (texts.stx n).size) ∧ Below w.heap.size w w') := by
  by_cases h : n < 0 ∨ (55296 ≤ n ∧ n ≤ 57343) ∨ 1114111 < n
  · refine .inl ⟨texts.stx_no h, h, fun w => ?_⟩
    rw [texts.stx_no h]
    exact (impl_out ⟨#[]⟩ 0 w (Nat.zero_le _) (.inr (by decide))).mono fun e w' ⟨he, hw⟩ => ⟨he, by rw [hw]; exact Below.refl _ _⟩
  · have hv : Utf8.valid n = true := by rw [validRune_eq]; simp [validRune]; omega
    obtain ⟨h1, h2, h3, h4⟩ := dec.enc_dec n hv
    rw [texts.stx_yes hv]
    have hle : (Utf8.encode n).size ≤ 4 := by
      unfold Utf8.encode
      rw [hv]
      simp only [if_true]
      split
      · show 1 ≤ 4; omega
      · split
        · show 2 ≤ 4; omega
        · split
          · show 3 ≤ 4; omega
          · show 4 ≤ 4; omega
    refine .inr ⟨h3, hle, fun w => ?_⟩
    have := impl_in (Utf8.encode n) 0 w (by unfold maxLen; omega) h3
    unfold satV at this
    rw [if_neg h4, h1, h2] at this
    simpa using this

theorem big_no (w : World) (a : Option Addr) (len cap : Nat) (h : len ≤ 1048576) : Calls Try.prog 4 #[.slice a len cap] w fun e w' => e = .returned (.bool false) ∧ w' = w := by
  have h' : ¬ (1048576 : Int) < len := by omega
  go_enter Try.func4, Try.ntmps4
  go_wp2
  go_ret
  exact ⟨by simp, rfl⟩
theorem big_yes (w : World) (a : Option Addr) (len cap : Nat) (h : ¬ len ≤ 1048576) : Calls Try.prog 4 #[.slice a len cap] w fun e w' => e = .returned (.bool true) ∧ w' = w := by
  have h' : (1048576 : Int) < len := by omega
  go_enter Try.func4, Try.ntmps4
  go_wp2
  go_ret
  exact ⟨by simp, rfl⟩
theorem isEmpty_no {s : ByteArray} (h : 0 < s.size) : s.toList.isEmpty = false := by
  rw [ByteArray.toList_eq]
  have hl : s.data.toList.length = s.size := Array.length_toList
  cases e : s.data.toList with
  | nil => rw [e] at hl; simp at hl; omega
  | cons x r => rfl
theorem row_below {w w' : World} {a : Option Addr} {len : Nat} (h : draws.RowAt w a len) (hb : Below w.heap.size w w') : draws.RowAt w' a len := h.stays hb.size fun _ b _ _ hlt => hb.block b hlt

/-! ### STEP 1: THE WALK: the Go text returns true, AND WRITES NOTHING THAT WAS THERE: 'Below w.heap.size w w'' (Derived/Below.lean: '.refl', '.alloc', '.drew', '.setCell' at a new block, '.trans'). Open each 'IsRow' by 'rcases' AHEAD of 'go_enter'; part every test ahead of the walk. -/
set_option maxRecDepth 100000 in
set_option maxHeartbeats 2000000 in
theorem walk (a0 : Option Addr) (len0 cap0 : Nat) (z0 : List Int) (w : World) (w0 : IsRow .u8 w a0 len0 cap0 z0) :
    Calls Try.prog 3 #[.slice a0 len0 cap0] w fun e w' => e = .returned (.bool true) ∧ Below w.heap.size w w' := by
  have hr : Hid (draws.RowAt w a0 len0) := draws.rowAt_of w0
  clear w0
  by_cases hz : len0 ≤ 1048576
  · go_enter Try.func3, Try.ntmps3
    go_wp2_with fail
    refine (big_no _ _ _ _ hz).mono ?_
    rintro e w' ⟨rfl, rfl⟩
    go_wp2_with fail
    refine (draws.drawSignText _ _ _ _ hz hr).mono ?_
    rintro e w1 ⟨n, rfl, hb1⟩
    have HB1 : Hid _ := hb1
    have HR1 : Hid _ := row_below hr.out hb1
    clear hb1
    go_wp2_with fail
    refine (texts.impl_any _ _).mono ?_
    rintro e w' ⟨rfl, rfl⟩
    rcases text_back n with ⟨hs0, hs1, hs2⟩ | ⟨hs0, hs1, hs2⟩
    · have HS : Hid (∀ w, _) := hs2
      have hse : (texts.stx n).toList.isEmpty = true := by rw [hs0, ByteArray.toList_eq]; rfl
      have HSE : Hid ((texts.stx n).toList.isEmpty = true) := hse
      have HS1 : Hid (n < 0 ∨ (55296 ≤ n ∧ n ≤ 57343) ∨ 1114111 < n) := hs1
      clear hs0 hs1 hs2 hse
      go_wp2_with fail
      refine (HS.out _).mono ?_
      rintro e w2 ⟨rfl, hb2⟩
      have HB2 : Hid _ := HB1.out.trans (hb2.mono HB1.out.size)
      have HR2 : Hid _ := row_below HR1.out hb2
      clear hb2
      go_wp2_with fail
      refine (draws.drawSignAt _ _ _ _ hz HR2).mono ?_
      rintro e w3 ⟨t, i, rfl, ht, hb3⟩
      have HB3 : Hid _ := HB2.out.trans (hb3.mono HB2.out.size)
      clear hb3
      rcases at_ways t i (by unfold maxLen; omega) with ⟨hA, hB⟩ | ⟨v, m, hi0, him, hmt, hstx, hA, hB⟩
      · have HA : Hid (∀ w, _) := hA
        have HB : Hid (∀ w, _) := hB
        clear hA hB
        go_wp2_with fail
        refine (HA.out _).mono ?_
        rintro e w4 ⟨rfl, hb4⟩
        have HB4 : Hid _ := HB3.out.trans (hb4.mono HB3.out.size)
        clear hb4
        go_wp2_with fail
        refine (HB.out _).mono ?_
        rintro e w' ⟨rfl, rfl⟩
        go_wp2_with fail
        refine quiets.wp_region_below (by kernel_rfl) (by kernel_rfl) ?_
        repeat (go_big_quiet_step ((first | (intro hq; rfl) | (intro hq; exact quiets.below_call (texts.spec_any _ _) hq) | (intro hq; exact quiets.below_same (texts.impl_any _ _) hq))))
        refine wpQuiet_nil ?_
        intro w6 hb6
        have HB6 : Hid _ := HB4.out.trans (hb6.mono HB4.out.size)
        clear hb6
        have hse := HSE.out
        rcases HS1.out with hn | ⟨hn, hn'⟩ | hn
        all_goals
          go_wp2
          go_ret
          exact ⟨rfl, HB6.out⟩
      · have HA : Hid (∀ w, _) := hA
        have HB : Hid (∀ w, _) := hB
        clear hA hB
        go_wp2_with fail
        refine (HA.out _).mono ?_
        rintro e w4 ⟨rfl, hb4⟩
        have HB4 : Hid _ := HB3.out.trans (hb4.mono HB3.out.size)
        clear hb4
        go_wp2_with fail
        refine (HB.out _).mono ?_
        rintro e w' ⟨rfl, rfl⟩
        go_wp2_with fail
        refine quiets.wp_region_below (by kernel_rfl) (by kernel_rfl) ?_
        repeat (go_big_quiet_step ((first | (intro hq; rfl) | (intro hq; exact quiets.below_call (texts.spec_any _ _) hq) | (intro hq; exact quiets.below_same (texts.impl_any _ _) hq))))
        refine wpQuiet_nil ?_
        intro w6 hb6
        have HB6 : Hid _ := HB4.out.trans (hb6.mono HB4.out.size)
        clear hb6
        have hse := HSE.out
        rcases HS1.out with hn | ⟨hn, hn'⟩ | hn
        all_goals
          go_wp2
          go_ret
          exact ⟨rfl, HB6.out⟩
    · have HS : Hid (∀ w, _) := hs2
      have hse : (texts.stx n).toList.isEmpty = false := isEmpty_no hs0
      have HSE : Hid ((texts.stx n).toList.isEmpty = false) := hse
      clear hs0 hs2 hse
      go_wp2_with fail
      refine (HS.out _).mono ?_
      rintro e w2 ⟨rfl, hb2⟩
      have HB2 : Hid _ := HB1.out.trans (hb2.mono HB1.out.size)
      have HR2 : Hid _ := row_below HR1.out hb2
      clear hb2
      go_wp2_with fail
      refine (draws.drawSignAt _ _ _ _ hz HR2).mono ?_
      rintro e w3 ⟨t, i, rfl, ht, hb3⟩
      have HB3 : Hid _ := HB2.out.trans (hb3.mono HB2.out.size)
      clear hb3
      rcases at_ways t i (by unfold maxLen; omega) with ⟨hA, hB⟩ | ⟨v, m, hi0, him, hmt, hstx, hA, hB⟩
      · have HA : Hid (∀ w, _) := hA
        have HB : Hid (∀ w, _) := hB
        clear hA hB
        go_wp2_with fail
        refine (HA.out _).mono ?_
        rintro e w4 ⟨rfl, hb4⟩
        have HB4 : Hid _ := HB3.out.trans (hb4.mono HB3.out.size)
        clear hb4
        go_wp2_with fail
        refine (HB.out _).mono ?_
        rintro e w' ⟨rfl, rfl⟩
        go_wp2_with fail
        refine quiets.wp_region_below (by kernel_rfl) (by kernel_rfl) ?_
        repeat (go_big_quiet_step ((first | (intro hq; rfl) | (intro hq; exact quiets.below_call (texts.spec_any _ _) hq) | (intro hq; exact quiets.below_same (texts.impl_any _ _) hq))))
        refine wpQuiet_nil ?_
        intro w6 hb6
        have HB6 : Hid _ := HB4.out.trans (hb6.mono HB4.out.size)
        clear hb6
        have hse := HSE.out
        go_wp2
        go_ret
        exact ⟨rfl, HB6.out⟩
      · have HA : Hid (∀ w, _) := hA
        have HB : Hid (∀ w, _) := hB
        clear hA hB
        go_wp2_with fail
        refine (HA.out _).mono ?_
        rintro e w4 ⟨rfl, hb4⟩
        have HB4 : Hid _ := HB3.out.trans (hb4.mono HB3.out.size)
        clear hb4
        go_wp2_with fail
        refine (HB.out _).mono ?_
        rintro e w' ⟨rfl, rfl⟩
        go_wp2_with fail
        refine quiets.wp_region_below (by kernel_rfl) (by kernel_rfl) ?_
        repeat (go_big_quiet_step ((first | (intro hq; rfl) | (intro hq; exact quiets.below_call (texts.spec_any _ _) hq) | (intro hq; exact quiets.below_same (texts.impl_any _ _) hq))))
        refine wpQuiet_nil ?_
        intro w6 hb6
        have HB6 : Hid _ := HB4.out.trans (hb6.mono HB4.out.size)
        clear hb6
        have hse := HSE.out
        go_wp2
        go_ret
        exact ⟨rfl, HB6.out⟩
  · go_enter Try.func3, Try.ntmps3
    go_wp2_with fail
    refine (big_yes _ _ _ _ hz).mono ?_
    rintro e w' ⟨rfl, rfl⟩
    go_wp2
    go_ret
    exact ⟨rfl, Below.refl _ _⟩

/-! ### THE ROW's STEP: WRITTEN OUT: LEAVE IT -/
set_option maxRecDepth 100000 in
theorem lifted (os : Os) (started : os.Started) (H : Type) (enc : TypeId × Value → H) :
    ReturnsInHanded {} Try.checked os 3 .any (Rows.fnSignsSpec.pre6 enc Try.prog Try.f3 Rows.fnSignsRow.domain false) (Rows.fnSignsSpec.post enc Try.prog Try.f3 false true false false) := by
  refine returnsInHanded_of_change (C := Try.checked) own started (by kernel_rfl) Try.func3
    (ChangeSpec.witness6 (enc := enc) (C := Try.checked) false ⟨#[], #[.slice none 0 0], []⟩ 8 (by kernel_rfl) (by kernel_rfl) (by kernel_rfl) (by kernel_rfl)) ?_
  intro W base args ds gs before hval0 hW hcnd _
  have hval : ∀ (j : Nat) t v, Try.f3.params[j]? = some t → args[j]? = some v → Value.okWide Try.prog W .any base t v := hval0
  have hW' := hW
  obtain ⟨p, q, hA0, hV, rfl, hfz, hnd⟩ := hW
  have hA : DataW.TrodAll enc Try.prog W 0 (fun _ => true) true Try.f3.params.toList args.toList ds p := hA0
  rw [Try.params3] at hA hval
  obtain ⟨v0, vs0, d0, ds0, p0, q0, hargs, rfl, rfl, h0, r0⟩ := trodAll_cons hA
  obtain ⟨rfl, rfl, rfl⟩ := trodAll_nil r0
  obtain rfl : args = #[v0] := by cases args; simp_all
  obtain ⟨rfl, rfl⟩ := trodVars_none hV
  obtain ⟨a0, len0, cap0, rfl⟩ := okWide_slice Try.underlying22 (hval 0 22 v0 rfl rfl)
  have k0 := h0
  have lt0 : ∀ x ∈ p0, x.block < W.heap.size := by obtain ⟨m, hm⟩ := k0; exact DataW.trod_lt m _ _ _ hm
  obtain ⟨z0, w0⟩ : ∃ zs, IsRow .u8 W a0 len0 cap0 zs := by
    obtain ⟨fuel, hf⟩ := h0
    rcases open_ints Try.underlying22 Try.underlying5 (by kernel_rfl) hf with ⟨hcs, _⟩ | ⟨x, l, c, zs, hcs, _, hl, hm, hz, _, hcell, hwz⟩
    · simp [Value.cells] at hcs
      obtain ⟨rfl, rfl, rfl⟩ := hcs
      exact ⟨[], .inl ⟨rfl, rfl, rfl, rfl⟩⟩
    · simp [Value.cells] at hcs
      obtain ⟨rfl, rfl, rfl⟩ := hcs
      exact ⟨zs, .inr ⟨_, rfl, hl, hm, by simpa using hz, hcell, hwz⟩⟩
  clear hA0 hval0
  refine (walk a0 len0 cap0 z0 W w0).mono fun e W' ⟨he, bel⟩ => ?_
  subst he
  exact ⟨_, rfl, _, _, _, [], _, [], hW', trodAll_mk1 (shut_bool Try.underlying4 _), (trodAll_cons_mk (Below.trod laidOut (by kernel_rfl) (of_decide_eq_true (by kernel_rfl)) k0 bel lt0) trodAll_mk0), rfl, bel.frame _, fun h => by cases h⟩

theorem over : Rows.fnSignsRow.holds Try.pinned (OpenSpec.ofChange Rows.fnSignsSpec) :=
  OpenClaim.holds_of_wide 3 Try.f3 rfl rfl rfl rfl rfl rfl rfl ⟨rfl, rfl, rfl, rfl, rfl⟩ rfl rfl rfl rfl rfl (by kernel_rfl) Try.func3 (by kernel_rfl)
    (of_decide_eq_true (by kernel_rfl)) (by unfold Func.isWrapper; first | (rw [if_pos (by decide +kernel)]; kernel_rfl) | (rw [if_neg (by decide +kernel)]; exact ⟨rfl, rfl⟩))
    (fun os started H enc _ => lifted os started H enc)

/-- ████ THE STATEMENT ████ -/
theorem proved : Rows.FnSignsSaid := over
#print axioms proved
end Go.Proofs.Ytlkolhfhcicpdaa.fnSigns
