/-
  For every draw the law FnClasses returns true: what may begin a name may stand in one, and what may stand in a name may stand in a text; a blank may stand in no name; the program's tables being what its text lays, utf8's table what Go pins (the tied card). No condition.
  The frame is after the kit's guide (MapyProofs, UptoLaidToy); the walk is ours.
-/
import Derived.Test.YtlkolhfhcicpdaaDoorCards
import Derived.Test.YtlkolhfhcicpdaaDoorTie
import Derived.Test.YtlkolhfhcicpdaaDoorScan
import Derived.Test.YtlkolhfhcicpdaaDoorBlank
import Derived.Test.YtlkolhfhcicpdaaDoorDrawSigns
import Derived.Test.YtlkolhfhcicpdaaDoorQuiet
import Derived.WalkKit
import Derived.ProofKit
import Derived.OpenShut
import Derived.ShutString
import Derived.ChangeOld
import Derived.Below
import Derived.LaidMore
import Derived.OpenVars
import Derived.Stop.Joined
namespace Go.Proofs.YtlkolhfhcicpdaaDoor.fnClasses
open Go.ChangeShapes Go.WideShapes Go.ChangeAt Go.RowKit Go.WideMaps Go.WideElems
open Go.ChangeMaps (open_string shut_string)
set_option linter.unusedVariables false

theorem own : ownKnob Tryd.prog.godebug = none := by kernel_rfl
theorem laidOut : laidOutB Tryd.prog = true := by kernel_rfl

/-- What the walk is told of a slice of bytes that came in. -/
def IsRow (k : IntKind) (w : World) (a : Option Addr) (len cap : Nat) (zs : List Int) : Prop :=
  (a = none ∧ len = 0 ∧ cap = 0 ∧ zs = []) ∨
  ∃ x, a = some x ∧ len ≤ cap ∧ cap ≤ maxLen ∧ zs.length = cap ∧ (∀ i, i < zs.length → w.cell? (x.add i) = some (.int k (zs.getD i 0))) ∧ ∀ n ∈ zs, (Lit.int k n).wf = true

theorem tables {W : World} (h : laidMetH Tryd.prog Rows.fnClassesRow.laid W) : scans.Tabs W ∧ (∃ b off cap, spans.SpansAt W 2 spans.signL b off cap) ∧ (∃ b off cap, spans.SpansAt W 1 spans.startL b off cap) ∧ ∃ b off cap, spans.SpansAt W 0 spans.partL b off cap := by
  rw [MakeChecks.laidMetH_plain _ _ _ (by kernel_rfl)] at h
  refine ⟨scans.tabs_of (D := Rows.laid_unicode_utf8_acceptRanges) (F := Rows.laid_unicode_utf8_first) (by kernel_rfl) (by kernel_rfl) (Lib.laidMet.reads h (.tail _ (.tail _ (.tail _ (.tail _ (.head _)))))) (Lib.laidMet.reads h (.head _)),
    scans.signs_of (D := Rows.laid_loop_example_g00484_impl_signSpans) rfl (Lib.laidMet.reads h (.tail _ (.head _))), ?_, ?_⟩
  · obtain ⟨g, t, cs, fuel, p, hg, ht, hv, hd⟩ := Lib.laidMet.reads h (.tail _ (.tail _ (.head _)))
    obtain rfl := Option.some.inj ((show Tryd.prog.globalNamed "loop.example/g00484/impl.startSpans" = some 1 by kernel_rfl).symm.trans hg)
    obtain rfl := Option.some.inj ((show (Tryd.prog.globals[1]?).map (·.type) = some 38 by kernel_rfl).symm.trans ht)
    exact spans.spans_of hg hv (by decide) (by decide) hd
  · obtain ⟨g, t, cs, fuel, p, hg, ht, hv, hd⟩ := Lib.laidMet.reads h (.tail _ (.tail _ (.tail _ (.head _))))
    obtain rfl := Option.some.inj ((show Tryd.prog.globalNamed "loop.example/g00484/impl.partSpans" = some 0 by kernel_rfl).symm.trans hg)
    obtain rfl := Option.some.inj ((show (Tryd.prog.globals[0]?).map (·.type) = some 38 by kernel_rfl).symm.trans ht)
    exact spans.spans_of hg hv (by decide) (by decide) hd
theorem big_no (w : World) (a : Option Addr) (len cap : Nat) (h : len ≤ 1048576) : Calls Tryd.prog 4 #[.slice a len cap] w fun e w' => e = .returned (.bool false) ∧ w' = w := by
  have h' : ¬ (1048576 : Int) < len := by omega
  go_enter Tryd.func4, Tryd.ntmps4
  go_wp2
  go_ret
  exact ⟨by simp, rfl⟩
theorem big_yes (w : World) (a : Option Addr) (len cap : Nat) (h : ¬ len ≤ 1048576) : Calls Tryd.prog 4 #[.slice a len cap] w fun e w' => e = .returned (.bool true) ∧ w' = w := by
  have h' : (1048576 : Int) < len := by omega
  go_enter Tryd.func4, Tryd.ntmps4
  go_wp2
  go_ret
  exact ⟨by simp, rfl⟩
theorem row_below {w w' : World} {a : Option Addr} {len : Nat} (h : draws.RowAt w a len) (hb : Below w.heap.size w w') : draws.RowAt w' a len := h.stays hb.size fun _ b _ _ hlt => hb.block b hlt
/-- A byte of the draw, the same in every later world. -/
theorem at_fix (w : World) (a : Option Addr) (len cap : Nat) (hz : len ≤ 1048576) (hr : draws.RowAt w a len) :
    ∃ x : Int, 0 ≤ x ∧ x ≤ 255 ∧ ∀ W, Below w.heap.size w W → Calls Tryd.prog 21 #[.slice a len cap, .int .i64 2] W fun e w' => e = .returned (.int .i64 x) ∧ w' = W := by
  by_cases h : 2 < len
  · obtain ⟨b, off, ha, hb, hc⟩ := hr.row (by omega)
    obtain ⟨z, hz2, z0, z1⟩ := hc 2 h
    refine ⟨z, z0, z1, fun W hW => ?_⟩
    have hz3 : W.cell? ⟨b, off + 2, none⟩ = some (.int .u8 z) := (hW.cell (p := ⟨b, off + 2, none⟩) hb).trans hz2
    subst ha
    have h' : (2 : Int) < len := by omega
    clear hc hz2 hr hW
    go_enter Tryd.func21, Tryd.ntmps21
    go_wp2
    go_ret
    exact ⟨rfl, rfl⟩
  · refine ⟨(62 + (len : Int) * 7) % 256, by omega, by omega, fun W hW => ?_⟩
    have h' : ¬ (2 : Int) < len := by omega
    clear hr hW
    go_enter Tryd.func21, Tryd.ntmps21
    go_wp2
    go_ret
    exact ⟨by simp, rfl⟩
theorem part_sign (n : Int) (h : (spans.inB spans.partL n || spans.inB spans.startL n) = true) : spans.inB spans.signL n = true := by
  simp [spans.inB, spans.partL, spans.startL, spans.inOne] at h
  rw [spans.signL_eq]
  simp
  omega
theorem blank_part (n : Int) (h : blanks.blkB n = true) : (spans.inB spans.partL n || spans.inB spans.startL n) = false := by
  simp [blanks.blkB] at h
  rcases h with rfl | rfl | rfl | rfl <;> decide


/-! ### The walk: the law returns true, and nothing that was there has turned -/
set_option maxRecDepth 100000 in
set_option maxHeartbeats 4000000 in
theorem walk (a0 : Option Addr) (len0 cap0 : Nat) (z0 : List Int) (w : World) (w0 : IsRow .u8 w a0 len0 cap0 z0) (hL : laidMetH Tryd.prog Rows.fnClassesRow.laid w) :
    Calls Tryd.prog 3 #[.slice a0 len0 cap0] w fun e w' => e = .returned (.bool true) ∧ Below w.heap.size w w' := by
  obtain ⟨hT, ⟨b1, o1, k1, hS1⟩, ⟨b2, o2, k2, hS2⟩, b3, o3, k3, hS3⟩ := tables hL
  have hr : Hid (draws.RowAt w a0 len0) := draws.rowAt_of w0
  have HT : Hid _ := hT
  have H1 : Hid _ := hS1
  have H2 : Hid _ := hS2
  have H3 : Hid _ := hS3
  clear w0 hL hT hS1 hS2 hS3
  by_cases hz : len0 ≤ 1048576
  · go_enter Tryd.func3, Tryd.ntmps3
    go_wp2_with fail
    refine (big_no _ _ _ _ hz).mono ?_
    rintro e w' ⟨rfl, rfl⟩
    go_wp2_with fail
    refine (draws.drawIsPart _ _ _ _ hz hr).mono ?_
    rintro e w1 ⟨n, rfl, hb1⟩
    have HB1 : Hid _ := hb1
    have HR1 : Hid _ := row_below hr.out hb1
    clear hb1
    go_wp2_with fail
    refine (draws.drawIsStart _ _ _ _ hz HR1).mono ?_
    rintro e w2 ⟨m, rfl, hb2⟩
    have HB2 : Hid _ := HB1.out.trans (hb2.mono HB1.out.size)
    have HR2 : Hid _ := row_below HR1.out hb2
    clear hb2 HB1 HR1
    go_wp2_with fail
    refine (draws.drawIsSign _ _ _ _ hz HR2).mono ?_
    rintro e w3 ⟨k, rfl, hb3⟩
    have HB3 : Hid _ := HB2.out.trans (hb3.mono HB2.out.size)
    have HR3 : Hid _ := row_below HR2.out hb3
    clear hb3 HB2 HR2
    go_wp2_with fail
    refine (draws.drawTextOk _ _ _ _ hz HR3).mono ?_
    rintro e w4 ⟨s, rfl, hs, hb4⟩
    have HB4 : Hid _ := HB3.out.trans (hb4.mono HB3.out.size)
    have HR4 : Hid _ := row_below HR3.out hb4
    clear hb4 HB3 HR3
    go_wp2_with fail
    refine (draws.drawAllBlank _ _ _ _ hz HR4).mono ?_
    rintro e w5 ⟨u, rfl, hu, hb5⟩
    have HB5 : Hid _ := HB4.out.trans (hb5.mono HB4.out.size)
    have HR5 : Hid _ := row_below HR4.out hb5
    clear hb5 HB4 HR4
    obtain ⟨x, hx0, hx1, hAt⟩ := at_fix w5 a0 len0 cap0 hz HR5.out
    have HT5 := scans.tabs_below HT.out HB5.out
    have hS1 := H1.out.below (Nat.le_refl _) HB5.out
    have hS2 := H2.out.below (Nat.le_refl _) HB5.out
    have hS3 := H3.out.below (Nat.le_refl _) HB5.out
    have hPi := fun (n : Int) W (h : Below w5.heap.size w5 W) => quiets.below_call (spans.impl_part n spans.partL b3 o3 k3 spans.startL b2 o2 k2 W (hS3.below (Nat.le_refl _) h) (hS2.below (Nat.le_refl _) h)) h
    have hPs := fun (n : Int) W (h : Below w5.heap.size w5 W) => quiets.below_call (spans.spec_part n W) h
    have hMi := fun (n : Int) W (h : Below w5.heap.size w5 W) => quiets.below_call (spans.impl_start n spans.startL b2 o2 k2 W (hS2.below (Nat.le_refl _) h)) h
    have hMs := fun (n : Int) W (h : Below w5.heap.size w5 W) => quiets.below_call (spans.spec_start n W) h
    have hKi := fun (n : Int) W (h : Below w5.heap.size w5 W) => quiets.below_call (spans.impl_sign n spans.signL b1 o1 k1 W (hS1.below (Nat.le_refl _) h)) h
    have hKs := fun (n : Int) W (h : Below w5.heap.size w5 W) => quiets.below_same (spans.spec_sign n W) h
    have hBi := fun (n : Int) W (h : Below w5.heap.size w5 W) => quiets.below_same (blanks.impl_blank n W) h
    have hBs := fun (n : Int) W (h : Below w5.heap.size w5 W) => quiets.below_same (blanks.spec_blank n W) h
    have hXi := fun W (h : Below w5.heap.size w5 W) => quiets.below_call (scans.impl_text s b1 o1 k1 W (by unfold maxLen; omega) (scans.tabs_below HT5 h) (hS1.below (Nat.le_refl _) h)) h
    have hXs := fun W (h : Below w5.heap.size w5 W) => quiets.below_same (scans.spec_text s W (by unfold maxLen; omega)) h
    have hUi := fun W (h : Below w5.heap.size w5 W) => quiets.below_call (blanks.impl_all u W (by unfold maxLen; omega)) h
    have hUs := fun W (h : Below w5.heap.size w5 W) => quiets.below_same (blanks.spec_all u W (by unfold maxLen; omega)) h
    have hA := fun W (h : Below w5.heap.size w5 W) => quiets.below_same (hAt W h) h
    have hPn := hPi n
    have hPm := hPi m
    have hPsn := hPs n
    have hMim := hMi m
    have hMsm := hMs m
    have hKik := hKi k
    have hKsk := hKs k
    have hKin := hKi n
    have hBin := hBi n
    clear hPi hPs hMi hMs hKi hKs hAt HT5 hS1 hS2 hS3 HT H1 H2 H3 HR5
    have hps := part_sign n
    have hbp := blank_part n
    have hsm : spans.inB spans.startL m = true → (spans.inB spans.partL m || spans.inB spans.startL m) = true := fun h => by rw [h]; simp
    generalize (spans.inB spans.partL n || spans.inB spans.startL n) = pN at hPn hPsn hps hbp
    generalize (spans.inB spans.partL m || spans.inB spans.startL m) = qM at hPm hsm
    generalize spans.inB spans.startL m = sM at hMim hMsm hsm
    generalize spans.inB spans.signL n = vN at hKin hps
    generalize spans.inB spans.signL k = vK at hKik hKsk
    generalize blanks.blkB n = bN at hBin hbp
    generalize (decide (s.size ≤ 600) && scans.signs s) = tS at hXi hXs
    generalize blanks.allBlank u = aU at hUi hUs
    have HPn : Hid _ := hPn
    have HPm : Hid _ := hPm
    have HPsn : Hid _ := hPsn
    have HMim : Hid _ := hMim
    have HMsm : Hid _ := hMsm
    have HKik : Hid _ := hKik
    have HKsk : Hid _ := hKsk
    have HKin : Hid _ := hKin
    have HBin : Hid _ := hBin
    have HBi : Hid _ := hBi
    have HBs : Hid _ := hBs
    have HXi : Hid _ := hXi
    have HXs : Hid _ := hXs
    have HUi : Hid _ := hUi
    have HUs : Hid _ := hUs
    have HA : Hid _ := hA
    clear hPn hPm hPsn hMim hMsm hKik hKsk hKin hBin hBi hBs hXi hXs hUi hUs hA
    have hq : Hid (Below w5.heap.size w5 w5) := Below.refl _ _
    cases pN <;> cases bN <;> cases sM
    all_goals first
      | (exfalso; have := hbp rfl; cases this; done)
      | (try (obtain rfl : vN = true := hps rfl)
         try (obtain rfl : qM = true := hsm rfl)
         clear hps hbp hsm
         go_wp2_with (first
           | (go_at_call_of 10 n; refine (HPn.out _ hq.out).mono ?_; rintro e w6 ⟨rfl, hq1⟩; clear hq; have hq : Hid (Below w5.heap.size w5 w6) := hq1; clear hq1)
           | (go_at_call_of 10 m; refine (HPm.out _ hq.out).mono ?_; rintro e w6 ⟨rfl, hq1⟩; clear hq; have hq : Hid (Below w5.heap.size w5 w6) := hq1; clear hq1)
           | (go_at_call 11; refine (HPsn.out _ hq.out).mono ?_; rintro e w6 ⟨rfl, hq1⟩; clear hq; have hq : Hid (Below w5.heap.size w5 w6) := hq1; clear hq1)
           | (go_at_call 12; refine (HMim.out _ hq.out).mono ?_; rintro e w6 ⟨rfl, hq1⟩; clear hq; have hq : Hid (Below w5.heap.size w5 w6) := hq1; clear hq1)
           | (go_at_call 13; refine (HMsm.out _ hq.out).mono ?_; rintro e w6 ⟨rfl, hq1⟩; clear hq; have hq : Hid (Below w5.heap.size w5 w6) := hq1; clear hq1)
           | (go_at_call_of 14 k; refine (HKik.out _ hq.out).mono ?_; rintro e w6 ⟨rfl, hq1⟩; clear hq; have hq : Hid (Below w5.heap.size w5 w6) := hq1; clear hq1)
           | (go_at_call_of 14 n; refine (HKin.out _ hq.out).mono ?_; rintro e w6 ⟨rfl, hq1⟩; clear hq; have hq : Hid (Below w5.heap.size w5 w6) := hq1; clear hq1)
           | (go_at_call 15; refine (HKsk.out _ hq.out).mono ?_; rintro e w6 ⟨rfl, hq1⟩; clear hq; have hq : Hid (Below w5.heap.size w5 w6) := hq1; clear hq1)
           | (go_at_call_of 16 n; refine (HBin.out _ hq.out).mono ?_; rintro e w6 ⟨rfl, hq1⟩; clear hq; have hq : Hid (Below w5.heap.size w5 w6) := hq1; clear hq1)
           | (go_at_call 17; refine (HXi.out _ hq.out).mono ?_; rintro e w6 ⟨rfl, hq1⟩; clear hq; have hq : Hid (Below w5.heap.size w5 w6) := hq1; clear hq1)
           | (go_at_call 18; refine (HXs.out _ hq.out).mono ?_; rintro e w6 ⟨rfl, hq1⟩; clear hq; have hq : Hid (Below w5.heap.size w5 w6) := hq1; clear hq1)
           | (go_at_call 19; refine (HUi.out _ hq.out).mono ?_; rintro e w6 ⟨rfl, hq1⟩; clear hq; have hq : Hid (Below w5.heap.size w5 w6) := hq1; clear hq1)
           | (go_at_call 20; refine (HUs.out _ hq.out).mono ?_; rintro e w6 ⟨rfl, hq1⟩; clear hq; have hq : Hid (Below w5.heap.size w5 w6) := hq1; clear hq1)
           | (go_at_call 21; refine (HA.out _ hq.out).mono ?_; rintro e w6 ⟨rfl, hq1⟩; clear hq; have hq : Hid (Below w5.heap.size w5 w6) := hq1; clear hq1)
           | (go_at_call 16; refine (HBi.out _ _ hq.out).mono ?_; rintro e w6 ⟨rfl, hq1⟩; clear hq; have hq : Hid (Below w5.heap.size w5 w6) := hq1; clear hq1)
           | (go_at_call 22; refine (HBs.out _ _ hq.out).mono ?_; rintro e w6 ⟨rfl, hq1⟩; clear hq; have hq : Hid (Below w5.heap.size w5 w6) := hq1; clear hq1))
         go_ret
         exact ⟨rfl, HB5.out.trans (hq.out.mono HB5.out.size)⟩)
  · go_enter Tryd.func3, Tryd.ntmps3
    go_wp2_with fail
    refine (big_yes _ _ _ _ hz).mono ?_
    rintro e w' ⟨rfl, rfl⟩
    go_wp2
    go_ret
    exact ⟨rfl, Below.refl _ _⟩

/-! ### The row -/
theorem vars_len {H : Type} {enc : TypeId × Value → H} {P : Program} {w : World} {sp : Nat → Bool} : ∀ {ns : List String} {gs : List (DataW H)} {ps : List MemPlace}, DataW.TrodVars enc P w sp ns gs ps → gs.length = ns.length
  | [], [], _, _ => rfl
  | [], _ :: _, _, h => h.elim
  | _ :: _, [], _, h => h.elim
  | _ :: ns, _ :: gs, _, h => by
    obtain ⟨_, _, _, _, _, _, _, _, _, _, h, _⟩ := h
    simp [vars_len h]
theorem list_len {α : Type} {l : List α} (h : l.length = 3) : ∃ g1 g2 g3, l = [g1, g2, g3] := by
  match l, h with
  | [g1, g2, g3], _ => exact ⟨g1, g2, g3, rfl⟩
set_option maxRecDepth 100000 in
theorem door_met (os : Os) (args : Array Value) : laidMetH Tryd.prog Rows.fnClassesRow.laid ({ World.doorLaid Tryd.prog 400 os with heap := (World.doorLaid Tryd.prog 400 os).heap.modify 3 fun
    | .cells _ t fz => .cells (Lib.firstTab.map fun z => Value.int .u8 z).toArray t fz
    | o => o }.forCall (fun _ _ => 0) ⟨#[], args, []⟩).memory :=
  laidMetH_of_parts3 (fuel := 8) (laidMet_of_run' 8 (by kernel_rfl) (by kernel_rfl)) (by kernel_rfl) (by kernel_rfl)
set_option maxRecDepth 100000 in
theorem lifted (os : Os) (started : os.Started) (H : Type) (enc : TypeId × Value → H) :
    ReturnsInHanded {} Tryd.checked os 3 .any (fun w args => (Rows.fnClassesSpec.pre enc Tryd.prog Tryd.f3 [] false w args ∧ laidMetH Tryd.prog Rows.fnClassesRow.laid w) ∧ sizedMet enc Tryd.prog Tryd.f3 (OpenSpec.ofChange Rows.fnClassesSpec) false w args)
      (Rows.fnClassesSpec.post enc Tryd.prog Tryd.f3 false true false false) := by
  refine returnsInHanded_of_change_and (C := Tryd.checked) (X := fun w _ => laidMetH Tryd.prog Rows.fnClassesRow.laid w) (fun _ _ _ hh h => h.of_heap hh) own started (by kernel_rfl) Tryd.func3
    (ChangeSpec.witness_shaped (enc := enc) (C := Tryd.checked) (os := os) (X := fun w _ => laidMetH Tryd.prog Rows.fnClassesRow.laid w) false { World.doorLaid Tryd.prog 400 os with heap := (World.doorLaid Tryd.prog 400 os).heap.modify 3 fun
    | .cells _ t fz => .cells (Lib.firstTab.map fun z => Value.int .u8 z).toArray t fz
    | o => o } #[.slice none 0 0] 8 rfl (World.shaped_of_RefB (by kernel_rfl) (by kernel_rfl)) (by kernel_rfl) (by kernel_rfl) (by kernel_rfl) (door_met os _)) ?_
  intro W base args ds gs before hval0 hW _ _ hL _
  have hval : ∀ (j : Nat) t v, Tryd.f3.params[j]? = some t → args[j]? = some v → Value.okWide Tryd.prog W .any base t v := hval0
  have hW' := hW
  obtain ⟨p, q, hA0, hV, rfl, hfz, hnd⟩ := hW
  have hA : DataW.TrodAll enc Tryd.prog W 0 (fun _ => true) true Tryd.f3.params.toList args.toList ds p := hA0
  rw [Tryd.params3] at hA hval
  obtain ⟨v0, vs0, d0, ds0, p0, q0, hargs, rfl, rfl, h0, r0⟩ := trodAll_cons hA
  obtain ⟨rfl, rfl, rfl⟩ := trodAll_nil r0
  obtain rfl : args = #[v0] := by cases args; simp_all
  obtain ⟨g1, g2, g3, rfl⟩ := list_len (vars_len hV)
  obtain ⟨a0, len0, cap0, rfl⟩ := okWide_slice Tryd.underlying22 (hval 0 22 v0 rfl rfl)
  have k0 := h0
  have lt0 : ∀ x ∈ p0, x.block < W.heap.size := by obtain ⟨m, hm⟩ := k0; exact DataW.trod_lt m _ _ _ hm
  obtain ⟨z0, w0⟩ : ∃ zs, IsRow .u8 W a0 len0 cap0 zs := by
    obtain ⟨fuel, hf⟩ := h0
    rcases open_ints Tryd.underlying22 Tryd.underlying5 (by kernel_rfl) hf with ⟨hcs, _⟩ | ⟨x, l, c, zs, hcs, _, hl, hm, hz, _, hcell, hwz⟩
    · simp [Value.cells] at hcs
      obtain ⟨rfl, rfl, rfl⟩ := hcs
      exact ⟨[], .inl ⟨rfl, rfl, rfl, rfl⟩⟩
    · simp [Value.cells] at hcs
      obtain ⟨rfl, rfl, rfl⟩ := hcs
      exact ⟨zs, .inr ⟨_, rfl, hl, hm, by simpa using hz, hcell, hwz⟩⟩
  clear hA0 hval0
  refine (walk a0 len0 cap0 z0 W w0 hL).mono fun e W' ⟨he, bel⟩ => ?_
  subst he
  exact ⟨_, rfl, _, _, _, [], _, _, hW', trodAll_mk1 (shut_bool Tryd.underlying4 _), (trodAll_cons_mk (Below.trod laidOut (by kernel_rfl) (of_decide_eq_true (by kernel_rfl)) k0 bel lt0) trodAll_mk0), Below.trodVars laidOut bel (by kernel_rfl) hV, bel.frame _, fun h => by cases h⟩

theorem said : Rows.FnClassesSaid :=
  OpenClaim.holds_of_wide 3 Tryd.f3 rfl rfl rfl rfl rfl rfl rfl ⟨rfl, rfl, rfl, rfl, rfl⟩ rfl rfl rfl rfl rfl (by kernel_rfl) Tryd.func3 (by kernel_rfl)
    (of_decide_eq_true (by kernel_rfl)) (by unfold Func.isWrapper; first | (rw [if_pos (by decide +kernel)]; kernel_rfl) | (rw [if_neg (by decide +kernel)]; exact ⟨rfl, rfl⟩))
    (fun os started H enc _ => lifted os started H enc)

/-! ### The card -/
theorem plain (f : FuncId) (fn : Func) (hf : Tryd.pinned.checked.prog.funcNamed "loop.example/g00484/laws.FnClasses" = some f) (hfn : Tryd.pinned.checked.prog.funcs[f]? = some fn) :
    false = Tryd.pinned.checked.prog.looks [] ∧ ∀ (j : Nat) t, fn.params[j]? = some t → Tryd.pinned.checked.prog.wantsStandIn t = false := by
  obtain rfl : f = 3 := Option.some.inj ((show Tryd.prog.funcNamed "loop.example/g00484/laws.FnClasses" = some 3 by kernel_rfl).symm.trans hf) |>.symm
  obtain rfl : fn = Tryd.f3 := (Option.some.inj (Tryd.func3.symm.trans hfn)).symm
  refine ⟨by kernel_rfl, fun j t ht => ?_⟩
  rw [Tryd.params3] at ht
  have hm : t ∈ [22] := by simpa using Array.mem_of_getElem? ht
  have hall : ([22].all fun u => !Tryd.prog.wantsStandIn u) = true := by kernel_rfl
  exact (show Tryd.prog.wantsStandIn t = false by simpa using List.all_eq_true.1 hall t hm)

/-- The statement. -/
theorem card : Rows.FnClassesCardSaid :=
  Claim7.holds_tied_plain_at .later [] _ _ _ _ said (fun _ h => by cases h) (by kernel_rfl) (fun _ h => by cases h) fnClasses_row_tie rfl ⟨rfl, rfl⟩ (by kernel_rfl) rfl plain (by kernel_rfl)
#print axioms card
end Go.Proofs.YtlkolhfhcicpdaaDoor.fnClasses
