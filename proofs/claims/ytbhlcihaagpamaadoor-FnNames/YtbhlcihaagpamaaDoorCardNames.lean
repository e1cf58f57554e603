/-
  For every draw the law FnNames returns true: a name is its parts, and its parts are it; what is read of a text as one is all that may be; the program's tables being what its text lays (the tied card). No condition.
  The frame is after the kit's guide (MapyProofs, UptoLaidToy); the walk is ours.
-/
import Derived.Test.YtbhlcihaagpamaaDoorCards
import Derived.Test.YtbhlcihaagpamaaDoorTie
import Derived.Test.YtbhlcihaagpamaaDoorImplSplit
import Derived.Test.YtbhlcihaagpamaaDoorNameFacts
import Derived.Test.YtbhlcihaagpamaaDoorDrawNames
import Derived.Test.YtbhlcihaagpamaaDoorDrawRow
import Derived.WalkKit
import Derived.ProofKit
import Derived.OpenShut
import Derived.ShutString
import Derived.ChangeOld
import Derived.Below
import Derived.LaidMore
import Derived.OpenVars
import Derived.Stop.Joined
namespace Go.Proofs.YtbhlcihaagpamaaDoor.fnNames
open Go.ChangeShapes Go.WideShapes Go.ChangeAt Go.RowKit Go.WideMaps Go.WideElems
open Go.ChangeMaps (open_string shut_string)
set_option linter.unusedVariables false

theorem own : ownKnob Tryd.prog.godebug = none := by kernel_rfl
theorem laidOut : laidOutB Tryd.prog = true := by kernel_rfl

/-- What the walk is told of a slice of bytes that came in. -/
def IsRow (k : IntKind) (w : World) (a : Option Addr) (len cap : Nat) (zs : List Int) : Prop :=
  (a = none ∧ len = 0 ∧ cap = 0 ∧ zs = []) ∨
  ∃ x, a = some x ∧ len ≤ cap ∧ cap ≤ maxLen ∧ zs.length = cap ∧ (∀ i, i < zs.length → w.cell? (x.add i) = some (.int k (zs.getD i 0))) ∧ ∀ n ∈ zs, (Lit.int k n).wf = true

theorem tables {W : World} (h : laidMetH Tryd.prog Rows.fnNamesRow.laid W) : names.Tabs W := by
  rw [MakeChecks.laidMetH_plain _ _ _ (by kernel_rfl)] at h
  obtain ⟨ps, ⟨g0, t0, cs0, f0, p0, q0, hg0, ht0, hv0, hd0, ⟨g1, t1, cs1, f1, p1, q1, hg1, ht1, hv1, hd1, _, _⟩, _⟩, _, _⟩ := h
  obtain rfl := Option.some.inj ((show Tryd.prog.globalNamed "loop.example/g00484/impl.startSpans" = some 1 by kernel_rfl).symm.trans hg0)
  obtain rfl := Option.some.inj ((show (Tryd.prog.globals[1]?).map (·.type) = some 55 by kernel_rfl).symm.trans ht0)
  obtain rfl := Option.some.inj ((show Tryd.prog.globalNamed "loop.example/g00484/impl.partSpans" = some 0 by kernel_rfl).symm.trans hg1)
  obtain rfl := Option.some.inj ((show (Tryd.prog.globals[0]?).map (·.type) = some 55 by kernel_rfl).symm.trans ht1)
  exact ⟨spans.spans_of hg0 hv0 (by decide) (by decide) hd0, spans.spans_of hg1 hv1 (by decide) (by decide) hd1⟩

theorem big_no (w : World) (a : Option Addr) (len cap : Nat) (h : len ≤ 1048576) : Calls Tryd.prog 8 #[.slice a len cap] w fun e w' => e = .returned (.bool false) ∧ w' = w := by
  have h' : ¬ (1048576 : Int) < len := by omega
  go_enter Tryd.func8, Tryd.ntmps8
  go_wp2
  go_ret
  exact ⟨by simp, rfl⟩
theorem big_yes (w : World) (a : Option Addr) (len cap : Nat) (h : ¬ len ≤ 1048576) : Calls Tryd.prog 8 #[.slice a len cap] w fun e w' => e = .returned (.bool true) ∧ w' = w := by
  have h' : (1048576 : Int) < len := by omega
  go_enter Tryd.func8, Tryd.ntmps8
  go_wp2
  go_ret
  exact ⟨by simp, rfl⟩
theorem row_below {w w' : World} {a : Option Addr} {len : Nat} (h : draws.RowAt w a len) (hb : Below w.heap.size w w') : draws.RowAt w' a len := h.stays hb.size fun _ b _ _ hlt => hb.block b hlt
theorem name_both (s : ByteArray) (z : Int) (hs : s.size ≤ maxLen) : ∃ (r : ByteArray) (n : Int), (∀ w, Calls Tryd.prog 15 #[.string s, .int .i64 z] w fun e w' => e = .returned (.tuple #[.string r, .int .i64 n]) ∧ Below w.heap.size w w') ∧ (∀ w, names.Tabs w → Calls Tryd.prog 14 #[.string s, .int .i64 z] w fun e w' => e = .returned (.tuple #[.string r, .int .i64 n]) ∧ Below w.heap.size w w') := by
  by_cases h : z < 0 ∨ (s.size : Int) < z
  · exact ⟨_, _, fun w => (names.spec_name_out s z w hs h).mono fun _ _ ⟨he, hw⟩ => ⟨he, by rw [hw]; exact Below.refl _ _⟩, fun w _ => (names.impl_name_out s z w hs (by omega)).mono fun _ _ ⟨he, hw⟩ => ⟨he, by rw [hw]; exact Below.refl _ _⟩⟩
  · obtain ⟨i, rfl⟩ : ∃ i : Nat, z = i := ⟨z.toNat, by omega⟩
    exact ⟨_, _, fun w => names.spec_name_in s i w hs (by omega), fun w h => names.impl_name_in s i w hs (by omega) h⟩
theorem join_of (p l r : ByteArray) (h : names.joinR p l = r) (hp : p.size ≤ 1048576) (hl : l.size ≤ 1048576) (w : World) (hT : names.Tabs w) : Calls Tryd.prog 12 #[.string p, .string l] w fun e w' => e = .returned (.string r) ∧ Below w.heap.size w w' := by
  have := names.impl_join p l w hp hl hT
  rw [h] at this
  exact this
theorem spec_join_of (p l r : ByteArray) (h : names.joinR p l = r) (hp : p.size ≤ 1048576) (hl : l.size ≤ 1048576) (w : World) : Calls Tryd.prog 16 #[.string p, .string l] w fun e w' => e = .returned (.string r) ∧ Below w.heap.size w w' := by
  have := names.spec_join p l w hp hl
  rw [h] at this
  exact this
theorem plain_of (p : ByteArray) (b : Bool) (h : names.plainB p = b) (hp : p.size ≤ 1048576) (w : World) (hT : names.Tabs w) : Calls Tryd.prog 17 #[.string p] w fun e w' => e = .returned (.bool b) ∧ Below w.heap.size w w' := by
  have := names.impl_plain p w (by unfold maxLen; omega) hT
  rw [h] at this
  exact this
theorem name_end {w0 w : World} {b : Bool} (h : b = true) (hb : Below w0.heap.size w0 w) : Ending.returned (.bool b) = .returned (.bool true) ∧ Below w0.heap.size w0 w := ⟨by rw [h], hb⟩


/-! ### The walk: the law returns true, and nothing that was there has turned -/
set_option maxRecDepth 100000 in
set_option maxHeartbeats 4000000 in
theorem walk (a0 : Option Addr) (len0 cap0 : Nat) (z0 : List Int) (w : World) (w0 : IsRow .u8 w a0 len0 cap0 z0) (hL : laidMetH Tryd.prog Rows.fnNamesRow.laid w) :
    Calls Tryd.prog 3 #[.slice a0 len0 cap0] w fun e w' => e = .returned (.bool true) ∧ Below w.heap.size w w' := by
  have HT : Hid (names.Tabs w) := tables hL
  have hr : Hid (draws.RowAt w a0 len0) := draws.rowAt_of w0
  clear hL w0
  by_cases hz : len0 ≤ 1048576
  · go_enter Tryd.func3, Tryd.ntmps3
    go_wp2_with fail
    refine (big_no _ _ _ _ hz).mono ?_
    rintro e w' ⟨rfl, hw'⟩
    have hw2 := hw'.symm
    clear hw'
    subst hw2
    go_wp2_with fail
    refine (draws.drawSplitName _ _ _ _ hz hr).mono ?_
    rintro e w1 ⟨s, rfl, hs, hb1⟩
    have HB1 : Hid _ := hb1
    have HR1 : Hid _ := row_below hr.out hb1
    clear hb1
    obtain ⟨p, l, ok, hSp⟩ : ∃ p l ok, names.splitT s = (p, l, ok) := ⟨_, _, _, rfl⟩
    go_wp2_with fail
    refine (names.impl_split_t3 s p l ok hSp (by unfold maxLen; omega) _ (HT.out.below HB1.out)).mono ?_
    rintro e w2 ⟨rfl, hb2⟩
    have HB2 : Hid _ := HB1.out.trans (hb2.mono HB1.out.size)
    have HR2 : Hid _ := row_below HR1.out hb2
    clear hb2 HB1 HR1
    have HSp : Hid _ := hSp
    clear hSp
    go_wp2_with fail
    refine (draws.drawJoinName _ _ _ _ hz HR2).mono ?_
    rintro e w3 ⟨a, b, rfl, ha, hb, hb3⟩
    have HB3 : Hid _ := HB2.out.trans (hb3.mono HB2.out.size)
    have HR3 : Hid _ := row_below HR2.out hb3
    clear hb3 HB2 HR2
    obtain ⟨j, hj⟩ : ∃ j, names.joinR a b = j := ⟨_, rfl⟩
    have HJ : Hid _ := hj
    clear hj
    go_wp2_with fail
    refine (join_of a b j HJ.out (by omega) (by omega) _ (HT.out.below HB3.out)).mono ?_
    rintro e w4 ⟨rfl, hb4⟩
    have HB4 : Hid _ := HB3.out.trans (hb4.mono HB3.out.size)
    have HR4 : Hid _ := row_below HR3.out hb4
    clear hb4 HB3 HR3
    have hjz : j.size ≤ maxLen := by
      unfold maxLen
      rcases names.join_cases a b with h | ⟨j', h, _, _, h'⟩
      · rw [← HJ.out, h]; decide
      · rw [← HJ.out, h]; omega
    have HJZ : Hid _ := hjz
    clear hjz
    obtain ⟨q, m, is, hSq⟩ : ∃ q m is, names.splitT j = (q, m, is) := ⟨_, _, _, rfl⟩
    have HSq : Hid _ := hSq
    clear hSq
    go_wp2_with fail
    refine (names.impl_split_t3 j q m is HSq.out HJZ.out _ (HT.out.below HB4.out)).mono ?_
    rintro e w5 ⟨rfl, hb5⟩
    have HB5 : Hid _ := HB4.out.trans (hb5.mono HB4.out.size)
    have HR5 : Hid _ := row_below HR4.out hb5
    clear hb5 HB4 HR4
    go_wp2_with fail
    refine (draws.drawNameAt _ _ _ _ hz HR5).mono ?_
    rintro e w6 ⟨t, z, rfl, ht, hb6⟩
    have HB6 : Hid _ := HB5.out.trans (hb6.mono HB5.out.size)
    clear hb6 HB5 HR5 hr
    obtain ⟨n, next, hN1, hN2⟩ := name_both t z (by unfold maxLen; omega)
    have HN1 : Hid (∀ w, _) := hN1
    have HN2 : Hid (∀ w, _) := hN2
    clear hN1 hN2
    go_wp2_with fail
    refine (HN2.out _ (HT.out.below HB6.out)).mono ?_
    rintro e w7 ⟨rfl, hb7⟩
    have HB7 : Hid _ := HB6.out.trans (hb7.mono HB6.out.size)
    clear hb7 HB6
    go_wp2_with fail
    refine (HN1.out _).mono ?_
    rintro e w8 ⟨rfl, hb8⟩
    have HB8 : Hid _ := HB7.out.trans (hb8.mono HB7.out.size)
    clear hb8 HB7 HN1 HN2
    have hJs := spec_join_of a b j HJ.out (by omega) (by omega)
    have HJs : Hid (∀ w, _) := hJs
    clear hJs
    have hjc : (j.toList.isEmpty = true ∧ is = false) ∨ (j.toList.isEmpty = false ∧ is = true ∧ (q.toList == a.toList) = true ∧ (m.toList == b.toList) = true) := by
      rcases names.join_cases a b with h | ⟨j', h, h1, h2, _⟩
      · have e : j = ⟨#[]⟩ := HJ.out.symm.trans h
        have h3 := HSq.out
        rw [e, names.nil_split] at h3
        cases h3
        exact .inl ⟨by rw [e]; exact names.isEmpty_of rfl, rfl⟩
      · have e : j = j' := HJ.out.symm.trans h
        have h3 := HSq.out
        rw [e, h1] at h3
        cases h3
        exact .inr ⟨by rw [e]; exact h2, rfl, names.beq_refl _, names.beq_refl _⟩
    clear HJ HSq HJZ
    rcases names.split_cases s with ⟨h, hpl, hjo⟩ | ⟨p', l', h, hpl, hpp, hpq, hne, hz1, hz2, hjo⟩ | ⟨h, hpl⟩
    · have h3 := HSp.out
      rw [h] at h3
      cases h3
      have HJo : Hid (∀ w, _) := join_of _ _ s hjo (by decide) (by omega)
      have HPl : Hid (∀ w, _) := plain_of s true hpl (by omega)
      clear hpl hjo HSp h
      rcases hjc with ⟨c1, rfl⟩ | ⟨c1, rfl, c2, c3⟩
      all_goals
        go_wp2_with fail
        refine (HJo.out _ (HT.out.below HB8.out)).mono ?_
        rintro e w9 ⟨rfl, hb9⟩
        have HB9 : Hid _ := HB8.out.trans (hb9.mono HB8.out.size)
        clear hb9 HB8
        go_wp2_with fail
        refine (HJs.out _).mono ?_
        rintro e w10 ⟨rfl, hb10⟩
        have HB10 : Hid _ := HB9.out.trans (hb10.mono HB9.out.size)
        clear hb10 HB9
        go_wp2_with fail
        refine (HPl.out _ (HT.out.below HB10.out)).mono ?_
        rintro e w11 ⟨rfl, hb11⟩
        have HB11 : Hid _ := HB10.out.trans (hb11.mono HB10.out.size)
        clear hb11 HB10
        go_wp2
        go_ret
        exact name_end rfl HB11.out
    · have h3 := HSp.out
      rw [h] at h3
      cases h3
      have HJo : Hid (∀ w, _) := join_of _ _ s hjo (by omega) (by omega)
      have HPl : Hid (∀ w, _) := plain_of s false hpl (by omega)
      have HPp : Hid (∀ w, _) := plain_of p true hpp (by omega)
      have HPq : Hid (∀ w, _) := plain_of l true hpq (by omega)
      clear hpl hjo HSp h hpp hpq
      rcases hjc with ⟨c1, rfl⟩ | ⟨c1, rfl, c2, c3⟩
      all_goals
        go_wp2_with fail
        refine (HJo.out _ (HT.out.below HB8.out)).mono ?_
        rintro e w9 ⟨rfl, hb9⟩
        have HB9 : Hid _ := HB8.out.trans (hb9.mono HB8.out.size)
        clear hb9 HB8
        go_wp2_with fail
        refine (HJs.out _).mono ?_
        rintro e w10 ⟨rfl, hb10⟩
        have HB10 : Hid _ := HB9.out.trans (hb10.mono HB9.out.size)
        clear hb10 HB9
        go_wp2_with fail
        refine (HPl.out _ (HT.out.below HB10.out)).mono ?_
        rintro e w11 ⟨rfl, hb11⟩
        have HB11 : Hid _ := HB10.out.trans (hb11.mono HB10.out.size)
        clear hb11 HB10
        go_wp2_with fail
        refine (HPp.out _ (HT.out.below HB11.out)).mono ?_
        rintro e w12 ⟨rfl, hb12⟩
        have HB12 : Hid _ := HB11.out.trans (hb12.mono HB11.out.size)
        clear hb12 HB11
        go_wp2_with fail
        refine (HPq.out _ (HT.out.below HB12.out)).mono ?_
        rintro e w13 ⟨rfl, hb13⟩
        have HB13 : Hid _ := HB12.out.trans (hb13.mono HB12.out.size)
        clear hb13 HB12
        go_wp2
        go_ret
        exact name_end rfl HB13.out
    · have h3 := HSp.out
      rw [h] at h3
      cases h3
      have HPl : Hid (∀ w, _) := plain_of s false hpl (by omega)
      clear hpl HSp h
      rcases hjc with ⟨c1, rfl⟩ | ⟨c1, rfl, c2, c3⟩
      all_goals
        go_wp2_with fail
        refine (HJs.out _).mono ?_
        rintro e w10 ⟨rfl, hb10⟩
        have HB10 : Hid _ := HB8.out.trans (hb10.mono HB8.out.size)
        clear hb10 HB8
        go_wp2_with fail
        refine (HPl.out _ (HT.out.below HB10.out)).mono ?_
        rintro e w11 ⟨rfl, hb11⟩
        have HB11 : Hid _ := HB10.out.trans (hb11.mono HB10.out.size)
        clear hb11 HB10
        go_wp2
        go_ret
        exact name_end rfl HB11.out
  · go_enter Tryd.func3, Tryd.ntmps3
    go_wp2_with fail
    refine (big_yes _ _ _ _ hz).mono ?_
    rintro e w' ⟨rfl, rfl⟩
    go_wp2
    go_ret
    exact ⟨rfl, Below.refl _ _⟩

/-! ### The row -/
theorem vars_len {H : Type} {enc : TypeId × Value → H} {P : Program} {w : World} {sp : Nat → Bool} : ∀ {ns : List String} {gs : List (DataW H)} {ps : List MemPlace}, DataW.TrodVars enc P w sp ns gs ps → gs.length = ns.length
  | [], [], _, _ => rfl
  | [], _ :: _, _, h => h.elim
  | _ :: _, [], _, h => h.elim
  | _ :: ns, _ :: gs, _, h => by
    obtain ⟨_, _, _, _, _, _, _, _, _, _, h, _⟩ := h
    simp [vars_len h]
theorem list_len {α : Type} {l : List α} (h : l.length = 2) : ∃ g1 g2, l = [g1, g2] := by
  match l, h with
  | [g1, g2], _ => exact ⟨g1, g2, rfl⟩
set_option maxRecDepth 100000 in
theorem door_met (os : Os) (args : Array Value) : laidMetH Tryd.prog Rows.fnNamesRow.laid ((World.doorLaid Tryd.prog 400 os).forCall (fun _ _ => 0) ⟨#[], args, []⟩).memory :=
  laidMetH_of_parts3 (fuel := 8) (laidMet_of_run' 8 (by kernel_rfl) (by kernel_rfl)) (by kernel_rfl) (by kernel_rfl)
set_option maxRecDepth 100000 in
theorem lifted (os : Os) (started : os.Started) (H : Type) (enc : TypeId × Value → H) :
    ReturnsInHanded {} Tryd.checked os 3 .any (fun w args => (Rows.fnNamesSpec.pre enc Tryd.prog Tryd.f3 [] false w args ∧ laidMetH Tryd.prog Rows.fnNamesRow.laid w) ∧ sizedMet enc Tryd.prog Tryd.f3 (OpenSpec.ofChange Rows.fnNamesSpec) false w args)
      (Rows.fnNamesSpec.post enc Tryd.prog Tryd.f3 false true false false) := by
  refine returnsInHanded_of_change_and (C := Tryd.checked) (X := fun w _ => laidMetH Tryd.prog Rows.fnNamesRow.laid w) (fun _ _ _ hh h => h.of_heap hh) own started (by kernel_rfl) Tryd.func3
    (ChangeSpec.witness_shaped (enc := enc) (C := Tryd.checked) (os := os) (X := fun w _ => laidMetH Tryd.prog Rows.fnNamesRow.laid w) false (World.doorLaid Tryd.prog 400 os) #[.slice none 0 0] 8 rfl (World.shaped_of_RefB (by kernel_rfl) (by kernel_rfl)) (by kernel_rfl) (by kernel_rfl) (by kernel_rfl) (door_met os _)) ?_
  intro W base args ds gs before hval0 hW _ _ hL _
  have hval : ∀ (j : Nat) t v, Tryd.f3.params[j]? = some t → args[j]? = some v → Value.okWide Tryd.prog W .any base t v := hval0
  have hW' := hW
  obtain ⟨p, q, hA0, hV, rfl, hfz, hnd⟩ := hW
  have hA : DataW.TrodAll enc Tryd.prog W 0 (fun _ => true) true Tryd.f3.params.toList args.toList ds p := hA0
  rw [Tryd.params3] at hA hval
  obtain ⟨v0, vs0, d0, ds0, p0, q0, hargs, rfl, rfl, h0, r0⟩ := trodAll_cons hA
  obtain ⟨rfl, rfl, rfl⟩ := trodAll_nil r0
  obtain rfl : args = #[v0] := by cases args; simp_all
  obtain ⟨g1, g2, rfl⟩ := list_len (vars_len hV)
  obtain ⟨a0, len0, cap0, rfl⟩ := okWide_slice Tryd.underlying22 (hval 0 22 v0 rfl rfl)
  have k0 := h0
  have lt0 : ∀ x ∈ p0, x.block < W.heap.size := by obtain ⟨m, hm⟩ := k0; exact DataW.trod_lt m _ _ _ hm
  obtain ⟨z0, w0⟩ : ∃ zs, IsRow .u8 W a0 len0 cap0 zs := by
    obtain ⟨fuel, hf⟩ := h0
    rcases open_ints Tryd.underlying22 Tryd.underlying5 (by kernel_rfl) hf with ⟨hcs, _⟩ | ⟨x, l, c, zs, hcs, _, hl, hm, hz, _, hcell, hwz⟩
    · simp [Value.cells] at hcs
      obtain ⟨rfl, rfl, rfl⟩ := hcs
      exact ⟨[], .inl ⟨rfl, rfl, rfl, rfl⟩⟩
    · simp [Value.cells] at hcs
      obtain ⟨rfl, rfl, rfl⟩ := hcs
      exact ⟨zs, .inr ⟨_, rfl, hl, hm, by simpa using hz, hcell, hwz⟩⟩
  clear hA0 hval0
  refine (walk a0 len0 cap0 z0 W w0 hL).mono fun e W' ⟨he, bel⟩ => ?_
  subst he
  exact ⟨_, rfl, _, _, _, [], _, _, hW', trodAll_mk1 (shut_bool Tryd.underlying4 _), (trodAll_cons_mk (Below.trod laidOut (by kernel_rfl) (of_decide_eq_true (by kernel_rfl)) k0 bel lt0) trodAll_mk0), Below.trodVars laidOut bel (by kernel_rfl) hV, bel.frame _, fun h => by cases h⟩

theorem said : Rows.FnNamesSaid :=
  OpenClaim.holds_of_wide 3 Tryd.f3 rfl rfl rfl rfl rfl rfl rfl ⟨rfl, rfl, rfl, rfl, rfl⟩ rfl rfl rfl rfl rfl (by kernel_rfl) Tryd.func3 (by kernel_rfl)
    (of_decide_eq_true (by kernel_rfl)) (by unfold Func.isWrapper; first | (rw [if_pos (by decide +kernel)]; kernel_rfl) | (rw [if_neg (by decide +kernel)]; exact ⟨rfl, rfl⟩))
    (fun os started H enc _ => lifted os started H enc)

/-! ### The card -/
theorem plain (f : FuncId) (fn : Func) (hf : Tryd.pinned.checked.prog.funcNamed "loop.example/g00484/laws.FnNames" = some f) (hfn : Tryd.pinned.checked.prog.funcs[f]? = some fn) :
    false = Tryd.pinned.checked.prog.looks [] ∧ ∀ (j : Nat) t, fn.params[j]? = some t → Tryd.pinned.checked.prog.wantsStandIn t = false := by
  obtain rfl : f = 3 := Option.some.inj ((show Tryd.prog.funcNamed "loop.example/g00484/laws.FnNames" = some 3 by kernel_rfl).symm.trans hf) |>.symm
  obtain rfl : fn = Tryd.f3 := (Option.some.inj (Tryd.func3.symm.trans hfn)).symm
  refine ⟨by kernel_rfl, fun j t ht => ?_⟩
  rw [Tryd.params3] at ht
  have hm : t ∈ [22] := by simpa using Array.mem_of_getElem? ht
  have hall : ([22].all fun u => !Tryd.prog.wantsStandIn u) = true := by kernel_rfl
  exact (show Tryd.prog.wantsStandIn t = false by simpa using List.all_eq_true.1 hall t hm)

/-- The statement. -/
theorem card : Rows.FnNamesCardSaid :=
  Claim7.holds_tied_plain_at .later [] _ _ _ _ said (fun _ h => by cases h) (by kernel_rfl) (fun _ h => by cases h) fnNames_row_tie rfl ⟨rfl, rfl⟩ (by kernel_rfl) rfl plain (by kernel_rfl)
#print axioms card
end Go.Proofs.YtbhlcihaagpamaaDoor.fnNames
