/-
  For every draw the law FnRefs returns true: what is escaped stands for itself; nothing in it begins a mark; the program's tables being what its text lays, utf8's table what Go pins (the tied card). No condition.
  The frame is after the kit's guide (MapyProofs, UptoLaidToy); the walk is ours.
-/
import Derived.Test.YtdojkaboejndiaaGreatDoorCards
import Derived.Test.YtdojkaboejndiaaGreatDoorTie
import Derived.Test.YtdojkaboejndiaaGreatDoorImplExp
import Derived.Test.YtdojkaboejndiaaGreatDoorImplEsc
import Derived.Test.YtdojkaboejndiaaGreatDoorErrLaid
import Derived.Test.YtdojkaboejndiaaGreatDoorEscFacts2
import Derived.Test.YtdojkaboejndiaaGreatDoorEscBytes
import Derived.Test.YtdojkaboejndiaaGreatDoorDrawRefs
import Derived.Test.YtdojkaboejndiaaGreatDoorDrawRow
import Derived.WalkKit
import Derived.ProofKit
import Derived.OpenShut
import Derived.ShutString
import Derived.ChangeOld
import Derived.Below
import Derived.LaidMore
import Derived.OpenVars
import Derived.Stop.Joined
namespace Go.Proofs.YtdojkaboejndiaaGreatDoor.fnRefs
open Go.ChangeShapes Go.WideShapes Go.ChangeAt Go.RowKit Go.WideMaps Go.WideElems
open Go.ChangeMaps (open_string shut_string)
set_option linter.unusedVariables false

theorem own : ownKnob Tryz.prog.godebug = none := by kernel_rfl
theorem laidOut : laidOutB Tryz.prog = true := by kernel_rfl

/-- What the walk is told of a slice of bytes that came in. -/
def IsRow (k : IntKind) (w : World) (a : Option Addr) (len cap : Nat) (zs : List Int) : Prop :=
  (a = none ∧ len = 0 ∧ cap = 0 ∧ zs = []) ∨
  ∃ x, a = some x ∧ len ≤ cap ∧ cap ≤ maxLen ∧ zs.length = cap ∧ (∀ i, i < zs.length → w.cell? (x.add i) = some (.int k (zs.getD i 0))) ∧ ∀ n ∈ zs, (Lit.int k n).wf = true

theorem tables {W : World} (h : laidMetH Tryz.prog Rows.fnRefsRow.laid W) (hsh : W.ShapedOpen Tryz.prog) : refs.XTabs W := by
  rw [MakeChecks.laidMetH_plain _ _ _ (by kernel_rfl)] at h
  refine ⟨refs.tabs_of (D1 := Rows.laid_unicode_utf8_acceptRanges) (D2 := Rows.laid_unicode_utf8_first) (D3 := Rows.laid_loop_example_g00484_impl_signSpans) (D4 := Rows.laid_loop_example_g00484_impl_startSpans) (D5 := Rows.laid_loop_example_g00484_impl_partSpans) (D6 := Rows.laid_loop_example_g00484_impl_fixedEnts) (by kernel_rfl) (by kernel_rfl) rfl rfl rfl rfl ?_ ?_ ?_ ?_ ?_ ?_, parseu.err_at h 5 rfl, frames.maxAt_of hsh⟩
  all_goals exact Lib.laidMet.reads h (by repeat (first | exact List.Mem.head _ | apply List.Mem.tail))

theorem big_no (w : World) (a : Option Addr) (len cap : Nat) (h : len ≤ 1048576) : Calls Tryz.prog 4 #[.slice a len cap] w fun e w' => e = .returned (.bool false) ∧ w' = w := by
  have h' : ¬ (1048576 : Int) < len := by omega
  go_enter Tryz.func4, Tryz.ntmps4
  go_wp2
  go_ret
  exact ⟨by simp, rfl⟩
theorem big_yes (w : World) (a : Option Addr) (len cap : Nat) (h : ¬ len ≤ 1048576) : Calls Tryz.prog 4 #[.slice a len cap] w fun e w' => e = .returned (.bool true) ∧ w' = w := by
  have h' : (1048576 : Int) < len := by omega
  go_enter Tryz.func4, Tryz.ntmps4
  go_wp2
  go_ret
  exact ⟨by simp, rfl⟩
theorem row_below {w w' : World} {a : Option Addr} {len : Nat} (h : draws.RowAt w a len) (hb : Below w.heap.size w w') : draws.RowAt w' a len := h.stays hb.size fun _ b _ _ hlt => hb.block b hlt
theorem spec_expandH (s : ByteArray) (x : ByteArray) (ok : Bool) (L : List pairs.Pair) (hs : s.size ≤ maxLen) (hv : ∀ i, i < L.length → (pairs.at0 L i).2.size ≤ 1048576) (h : refs.expandR s L = (x, ok)) (a : Option Addr) (cap : Nat) (w : World) (hL : pairs.PairsAt w a L) : Calls Tryz.prog 10 #[.string s, .slice a L.length cap] w fun e w' => e = .returned (.tuple #[.string x, .bool ok]) ∧ Below w.heap.size w w' := by
  have := refs.spec_expand s a L cap w hs hL hv
  rw [h] at this
  exact this
theorem impl_expandH (s : ByteArray) (x : ByteArray) (ok : Bool) (L : List pairs.Pair) (hs : s.size ≤ maxLen) (hv : ∀ i, i < L.length → (pairs.at0 L i).2.size ≤ 1048576) (h : refs.expandR s L = (x, ok)) (a : Option Addr) (cap : Nat) (w : World) (hT : refs.XTabs w) (hL : pairs.PairsAt w a L) : Calls Tryz.prog 9 #[.string s, .slice a L.length cap] w fun e w' => e = .returned (.tuple #[.string x, .bool ok]) ∧ Below w.heap.size w w' := by
  have := refs.impl_expand s a L cap w hs hT hL hv
  rw [h] at this
  exact this
theorem impl_textH (s : ByteArray) (b : Bool) (hs : s.size ≤ 1048576) (h : refs.textB s = b) (w : World) (hT : refs.XTabs w) : Calls Tryz.prog 15 #[.string s] w fun e w' => e = .returned (.bool b) ∧ Below w.heap.size w w' := by
  obtain ⟨b1, o, c, h1⟩ := hT.tab.sign
  have := scans.impl_text s b1 o c w (by unfold maxLen; omega) hT.tab.utf h1
  rw [show (decide (s.size ≤ 600) && scans.signs s) = b from h] at this
  exact this
theorem impl_entsH (L : List pairs.Pair) (b : Bool) (h : refs.entsB L = b) (a : Option Addr) (cap : Nat) (w : World) (hT : refs.XTabs w) (hL : pairs.PairsAt w a L) : Calls Tryz.prog 11 #[.slice a L.length cap] w fun e w' => e = .returned (.bool b) ∧ Below w.heap.size w w' := by
  have := refs.impl_ents a L cap w hT.tab hL
  rw [h] at this
  exact this
theorem spec_entsH (L : List pairs.Pair) (b : Bool) (h : refs.entsB L = b) (a : Option Addr) (cap : Nat) (w : World) (hL : pairs.PairsAt w a L) : Calls Tryz.prog 12 #[.slice a L.length cap] w fun e w' => e = .returned (.bool b) ∧ Below w.heap.size w w' := by
  have := refs.spec_ents a L cap w hL
  rw [h] at this
  exact this
theorem esc_both (s : ByteArray) (hs : s.size ≤ 1048576) : ∃ u v : ByteArray, escs.escS false s = u ∧ escs.escS true s = v ∧ (∀ w, Calls Tryz.prog 6 #[.string s] w fun e w' => e = .returned (.string u) ∧ Below w.heap.size w w') ∧ (∀ w, Calls Tryz.prog 7 #[.string s] w fun e w' => e = .returned (.string v) ∧ Below w.heap.size w w') ∧
    (∀ w, Calls Tryz.prog 13 #[.string s] w fun e w' => e = .returned (.string u) ∧ w' = w) ∧ (∀ w, Calls Tryz.prog 14 #[.string s] w fun e w' => e = .returned (.string v) ∧ w' = w) :=
  ⟨_, _, rfl, rfl, fun w => escs.impl_escText s w hs, fun w => escs.impl_escAttr s w hs, fun w => escs.spec_escText s w hs, fun w => escs.spec_escAttr s w hs⟩
theorem end_true {w0 w : World} {b : Bool} (h : b = true) (hb : Below w0.heap.size w0 w) : Ending.returned (.bool b) = .returned (.bool true) ∧ Below w0.heap.size w0 w := ⟨by rw [h], hb⟩


/-! ### The walk: the law returns true, and nothing that was there has turned -/
set_option maxRecDepth 100000 in
set_option maxHeartbeats 8000000 in
theorem walk (a0 : Option Addr) (len0 cap0 : Nat) (z0 : List Int) (w : World) (w0 : IsRow .u8 w a0 len0 cap0 z0) (hL : laidMetH Tryz.prog Rows.fnRefsRow.laid w) (hsh : w.ShapedOpen Tryz.prog) :
    Calls Tryz.prog 3 #[.slice a0 len0 cap0] w fun e w' => e = .returned (.bool true) ∧ Below w.heap.size w w' := by
  have HT : Hid (refs.XTabs w) := tables hL hsh
  have hr : Hid (draws.RowAt w a0 len0) := draws.rowAt_of w0
  clear hL hsh w0
  by_cases hz : len0 ≤ 1048576
  · go_enter Tryz.func3, Tryz.ntmps3
    go_wp2_with fail
    refine (big_no _ _ _ _ hz).mono ?_
    rintro e w' ⟨rfl, hw'⟩
    have hw2 := hw'.symm
    clear hw'
    subst hw2
    go_wp2_with fail
    refine (draws.drawEscText _ _ _ _ hz hr).mono ?_
    rintro e w1 ⟨s, rfl, hs, hb1⟩
    have HB1 : Hid _ := hb1
    have HR1 : Hid _ := row_below hr.out hb1
    clear hb1 hr
    obtain ⟨u, v, hu, hv, hU, hV, hUs, hVs⟩ := esc_both s (by omega)
    have HU : Hid (∀ w, _) := hU
    have HV : Hid (∀ w, _) := hV
    have HUs : Hid (∀ w, _) := hUs
    have HVs : Hid (∀ w, _) := hVs
    have EU : Hid _ := hu
    have EV : Hid _ := hv
    have huz : u.size ≤ 4200 := by have := escs.escT_size false s s.size; rw [← EU.out]; unfold escs.escS; omega
    have hvz : v.size ≤ 4200 := by have := escs.escT_size true s s.size; rw [← EV.out]; unfold escs.escS; omega
    clear hU hV hUs hVs hu hv
    go_wp2_with fail
    refine (HU.out _).mono ?_
    rintro e w2 ⟨rfl, hb2⟩
    have HB2 : Hid _ := HB1.out.trans (hb2.mono HB1.out.size)
    have HR2 : Hid _ := row_below HR1.out hb2
    clear hb2 HB1 HR1
    go_wp2_with fail
    refine (HV.out _).mono ?_
    rintro e w3 ⟨rfl, hb3⟩
    have HB3 : Hid _ := HB2.out.trans (hb3.mono HB2.out.size)
    have HR3 : Hid _ := row_below HR2.out hb3
    clear hb3 HB2 HR2
    go_wp2_with fail
    refine (draws.drawExpand _ _ _ _ hz HR3).mono ?_
    rintro e w4 ⟨ex, la, L, lcap, rfl, hex, hpl, hfine, hll, hb4⟩
    have HB4 : Hid _ := HB3.out.trans (hb4.mono HB3.out.size)
    have HP4 : Hid _ := hpl
    have HVZ : Hid (∀ i, i < L.length → (pairs.at0 L i).2.size ≤ 1048576) := fun i hi => by have := (hfine i hi).2; omega
    clear hb4 HB3 HR3 hpl hfine
    obtain ⟨x, ok, hx⟩ : ∃ x ok, refs.expandR ex L = (x, ok) := ⟨_, _, rfl⟩
    have H1 : Hid (∀ (a : Option Addr) (cap : Nat) (w : World), _) := spec_expandH ex x ok L (by unfold maxLen; omega) HVZ.out hx
    have H2 : Hid (∀ (a : Option Addr) (cap : Nat) (w : World), _) := impl_expandH ex x ok L (by unfold maxLen; omega) HVZ.out hx
    clear hx
    go_wp2_with fail
    refine (H2.out _ _ _ (HT.out.below HB4.out) HP4.out).mono ?_
    rintro e w5 ⟨rfl, hb5⟩
    have HB5 : Hid _ := HB4.out.trans (hb5.mono HB4.out.size)
    have HP5 : Hid _ := HP4.out.below (Nat.le_refl _) hb5
    clear hb5 HP4 HB4
    go_wp2_with fail
    refine (H1.out _ _ _ HP5.out).mono ?_
    rintro e w6 ⟨rfl, hb6⟩
    have HB6 : Hid _ := HB5.out.trans (hb6.mono HB5.out.size)
    have HP6 : Hid _ := HP5.out.below (Nat.le_refl _) hb6
    clear hb6 HP5 HB5
    obtain ⟨eb, heb⟩ : ∃ eb, refs.entsB L = eb := ⟨_, rfl⟩
    have H3 : Hid (∀ (a : Option Addr) (cap : Nat) (w : World), _) := impl_entsH L eb heb
    have H4 : Hid (∀ (a : Option Addr) (cap : Nat) (w : World), _) := spec_entsH L eb heb
    have HEB : Hid _ := heb
    clear heb H1 H2
    have hokc : (ok == ok) = true := by cases ok <;> rfl
    go_wp2_with fail
    refine (H3.out _ _ _ (HT.out.below HB6.out) HP6.out).mono ?_
    rintro e w7 ⟨rfl, hb7⟩
    have HB7 : Hid _ := HB6.out.trans (hb7.mono HB6.out.size)
    have HP7 : Hid _ := HP6.out.below (Nat.le_refl _) hb7
    clear hb7 HP6 HB6
    go_wp2_with fail
    refine (H4.out _ _ _ HP7.out).mono ?_
    rintro e w8 ⟨rfl, hb8⟩
    have HB8 : Hid _ := HB7.out.trans (hb8.mono HB7.out.size)
    have HP8 : Hid _ := HP7.out.below (Nat.le_refl _) hb8
    clear hb8 HP7 HB7
    go_wp2_with fail
    refine (HUs.out _).mono ?_
    rintro e w9 ⟨rfl, hw1⟩
    have hw2 := hw1.symm
    clear hw1
    subst hw2
    go_wp2_with fail
    refine (HVs.out _).mono ?_
    rintro e w9 ⟨rfl, hw1⟩
    have hw2 := hw1.symm
    clear hw1
    subst hw2
    clear HU HV HUs HVs H4
    have hub : ∀ i, i < u.size → refs.okB false (escs.byteAt u i) := fun i hi => by rw [← EU.out] at hi ⊢; exact refs.esc_ok false s i hi
    have hvb : ∀ i, i < v.size → refs.okB true (escs.byteAt v i) := fun i hi => by rw [← EV.out] at hi ⊢; exact refs.esc_ok true s i hi
    have HUB : Hid _ := hub
    have HVB : Hid _ := hvb
    clear hub hvb
    go_wp2
    go_loop [12] (fun t => ∃ k : Nat, k ≤ u.size ∧ t = .int .i64 k) (fun t => u.size - (intOf t).toNat)
    case atStart => exact ⟨0, Nat.zero_le _, rfl⟩
    case round =>
      obtain ⟨k, hk, rfl⟩ := hrel
      by_cases hlt : k < u.size
      · have hx := escs.idx u k hlt
        have hrg := escs.byteAt_range u k
        obtain ⟨n1, n2, _, _⟩ := HUB.out k hlt
        obtain ⟨z, ez⟩ : ∃ z, z = escs.byteAt u k := ⟨_, rfl⟩
        rw [← ez] at hx hrg n1 n2
        have e1 : (z == 60) = false := by simpa using n1
        have e2 : (z == 62) = false := by simpa using n2
        clear ez n1 n2
        go_wp2
        go_round
        case rel => exact ⟨k + 1, by omega, by go_num⟩
        case measure => simp [intOf]; omega
      · go_wp2
        go_loop [13] (fun t => ∃ k : Nat, k ≤ v.size ∧ t = .int .i64 k) (fun t => v.size - (intOf t).toNat)
        case atStart => exact ⟨0, Nat.zero_le _, rfl⟩
        case round =>
          obtain ⟨k2, hk2, rfl⟩ := hrel
          by_cases hlt2 : k2 < v.size
          · have hx := escs.idx v k2 hlt2
            have hrg := escs.byteAt_range v k2
            obtain ⟨n1, n2, n3, n4⟩ := HVB.out k2 hlt2
            obtain ⟨n5, n6, n7⟩ := n4 rfl
            obtain ⟨z, ez⟩ : ∃ z, z = escs.byteAt v k2 := ⟨_, rfl⟩
            rw [← ez] at hx hrg n1 n3 n5 n6 n7
            have e1 : (z == 60) = false := by simpa using n1
            have e3 : (z == 13) = false := by simpa using n3
            have e5 : (z == 34) = false := by simpa using n5
            have e6 : (z == 9) = false := by simpa using n6
            have e7 : (z == 10) = false := by simpa using n7
            clear ez n1 n2 n3 n4 n5 n6 n7
            go_wp2
            go_round
            case rel => exact ⟨k2 + 1, by omega, by go_num⟩
            case measure => simp [intOf]; omega
          · obtain ⟨tb, htb⟩ : ∃ tb, refs.textB s = tb := ⟨_, rfl⟩
            have H5 : Hid (∀ w, _) := impl_textH s tb (by omega) htb
            have HTB : Hid _ := htb
            clear htb HUB HVB
            cases tb
            · go_wp2_with fail
              refine (H5.out _ (HT.out.below HB8.out)).mono ?_
              rintro e w9 ⟨rfl, hb9⟩
              have HB9 : Hid _ := HB8.out.trans (hb9.mono HB8.out.size)
              clear hb9
              go_wp2
              go_ret
              exact end_true rfl HB9.out
            · go_wp2_with fail
              refine (H5.out _ (HT.out.below HB8.out)).mono ?_
              rintro e w9 ⟨rfl, hb9⟩
              have HB9 : Hid _ := HB8.out.trans (hb9.mono HB8.out.size)
              have HP9 : Hid _ := HP8.out.below (Nat.le_refl _) hb9
              clear hb9
              by_cases hlong : 1500 < v.size
              · have hlong' : (1500 : Int) < v.size := by omega
                go_wp2
                go_ret
                exact end_true rfl HB9.out
              · have hlong' : ¬ (1500 : Int) < v.size := by omega
                cases eb
                · have hxu := impl_expandH u ⟨#[]⟩ false L (by unfold maxLen; omega) HVZ.out (refs.exp_ents HEB.out)
                  have hxv := impl_expandH v ⟨#[]⟩ false L (by unfold maxLen; omega) HVZ.out (refs.exp_ents HEB.out)
                  have HXU : Hid (∀ (a : Option Addr) (cap : Nat) (w : World), _) := hxu
                  have HXV : Hid (∀ (a : Option Addr) (cap : Nat) (w : World), _) := hxv
                  clear hxu hxv
                  go_wp2_with fail
                  refine (HXU.out _ _ _ (HT.out.below HB9.out) HP9.out).mono ?_
                  rintro e w10 ⟨rfl, hb10⟩
                  have HB10 : Hid _ := HB9.out.trans (hb10.mono HB9.out.size)
                  have HP10 : Hid _ := HP9.out.below (Nat.le_refl _) hb10
                  clear hb10
                  go_wp2_with fail
                  refine (HXV.out _ _ _ (HT.out.below HB10.out) HP10.out).mono ?_
                  rintro e w11 ⟨rfl, hb11⟩
                  have HB11 : Hid _ := HB10.out.trans (hb11.mono HB10.out.size)
                  have HP11 : Hid _ := HP10.out.below (Nat.le_refl _) hb11
                  clear hb11
                  go_wp2_with fail
                  refine (H3.out _ _ _ (HT.out.below HB11.out) HP11.out).mono ?_
                  rintro e w12 ⟨rfl, hb12⟩
                  have HB12 : Hid _ := HB11.out.trans (hb12.mono HB11.out.size)
                  clear hb12
                  go_wp2
                  go_ret
                  exact end_true rfl HB12.out
                · have huv : u.size ≤ v.size := by rw [← EU.out, ← EV.out]; exact refs.esc_le s
                  have hxu := impl_expandH u s true L (by unfold maxLen; omega) HVZ.out (by rw [← EU.out]; exact refs.expand_esc false s L HTB.out (by rw [EU.out]; omega) HEB.out)
                  have hxv := impl_expandH v s true L (by unfold maxLen; omega) HVZ.out (by rw [← EV.out]; exact refs.expand_esc true s L HTB.out (by rw [EV.out]; omega) HEB.out)
                  have HXU : Hid (∀ (a : Option Addr) (cap : Nat) (w : World), _) := hxu
                  have HXV : Hid (∀ (a : Option Addr) (cap : Nat) (w : World), _) := hxv
                  clear hxu hxv
                  go_wp2_with fail
                  refine (HXU.out _ _ _ (HT.out.below HB9.out) HP9.out).mono ?_
                  rintro e w10 ⟨rfl, hb10⟩
                  have HB10 : Hid _ := HB9.out.trans (hb10.mono HB9.out.size)
                  have HP10 : Hid _ := HP9.out.below (Nat.le_refl _) hb10
                  clear hb10
                  go_wp2_with fail
                  refine (HXV.out _ _ _ (HT.out.below HB10.out) HP10.out).mono ?_
                  rintro e w11 ⟨rfl, hb11⟩
                  have HB11 : Hid _ := HB10.out.trans (hb11.mono HB10.out.size)
                  have HP11 : Hid _ := HP10.out.below (Nat.le_refl _) hb11
                  clear hb11
                  go_wp2_with fail
                  refine (H3.out _ _ _ (HT.out.below HB11.out) HP11.out).mono ?_
                  rintro e w12 ⟨rfl, hb12⟩
                  have HB12 : Hid _ := HB11.out.trans (hb12.mono HB11.out.size)
                  clear hb12
                  go_wp2
                  go_ret
                  exact end_true rfl HB12.out
  · go_enter Tryz.func3, Tryz.ntmps3
    go_wp2_with fail
    refine (big_yes _ _ _ _ hz).mono ?_
    rintro e w' ⟨rfl, rfl⟩
    go_wp2
    go_ret
    exact ⟨rfl, Below.refl _ _⟩

/-! ### The row -/
theorem vars_len {H : Type} {enc : TypeId × Value → H} {P : Program} {w : World} {sp : Nat → Bool} : ∀ {ns : List String} {gs : List (DataW H)} {ps : List MemPlace}, DataW.TrodVars enc P w sp ns gs ps → gs.length = ns.length
  | [], [], _, _ => rfl
  | [], _ :: _, _, h => h.elim
  | _ :: _, [], _, h => h.elim
  | _ :: ns, _ :: gs, _, h => by
    obtain ⟨_, _, _, _, _, _, _, _, _, _, h, _⟩ := h
    simp [vars_len h]
theorem list_len {α : Type} {l : List α} (h : l.length = 4) : ∃ g1 g2 g3 g4, l = [g1, g2, g3, g4] := by
  match l, h with
  | [g1, g2, g3, g4], _ => exact ⟨g1, g2, g3, g4, rfl⟩
set_option maxRecDepth 100000 in
theorem door_met (os : Os) (args : Array Value) : laidMetH Tryz.prog Rows.fnRefsRow.laid ({ World.doorLaid Tryz.prog 400 os with heap := (World.doorLaid Tryz.prog 400 os).heap.modify 1 fun
    | .cells _ t fz => .cells (Lib.firstTab.map fun z => Value.int .u8 z).toArray t fz
    | o => o }.forCall (fun _ _ => 0) ⟨#[], args, []⟩).memory :=
  laidMetH_of_parts3 (fuel := 8) (laidMet_of_run' 8 (by kernel_rfl) (by kernel_rfl)) (by kernel_rfl) (by kernel_rfl)
set_option maxRecDepth 100000 in
theorem lifted (os : Os) (started : os.Started) (H : Type) (enc : TypeId × Value → H) :
    ReturnsInHanded {} Tryz.checked os 3 .any (fun w args => (Rows.fnRefsSpec.pre enc Tryz.prog Tryz.f3 [] false w args ∧ laidMetH Tryz.prog Rows.fnRefsRow.laid w) ∧ sizedMet enc Tryz.prog Tryz.f3 (OpenSpec.ofChange Rows.fnRefsSpec) false w args)
      (Rows.fnRefsSpec.post enc Tryz.prog Tryz.f3 false true false false) := by
  refine frames.change_and_shaped (C := Tryz.checked) (X := fun w _ => laidMetH Tryz.prog Rows.fnRefsRow.laid w) (fun _ _ _ hh h => h.of_heap hh) own started (by kernel_rfl) Tryz.func3
    (ChangeSpec.witness_shaped (enc := enc) (C := Tryz.checked) (os := os) (X := fun w _ => laidMetH Tryz.prog Rows.fnRefsRow.laid w) false { World.doorLaid Tryz.prog 400 os with heap := (World.doorLaid Tryz.prog 400 os).heap.modify 1 fun
    | .cells _ t fz => .cells (Lib.firstTab.map fun z => Value.int .u8 z).toArray t fz
    | o => o } #[.slice none 0 0] 8 rfl (World.shaped_of_RefB (by kernel_rfl) (by kernel_rfl)) (by kernel_rfl) (by kernel_rfl) (by kernel_rfl) (door_met os _)) ?_
  intro W base args ds gs before hval0 hW hL hsh
  have hval : ∀ (j : Nat) t v, Tryz.f3.params[j]? = some t → args[j]? = some v → Value.okWide Tryz.prog W .any base t v := hval0
  have hW' := hW
  obtain ⟨p, q, hA0, hV, rfl, hfz, hnd⟩ := hW
  have hA : DataW.TrodAll enc Tryz.prog W 0 (fun _ => true) true Tryz.f3.params.toList args.toList ds p := hA0
  rw [Tryz.params3] at hA hval
  obtain ⟨v0, vs0, d0, ds0, p0, q0, hargs, rfl, rfl, h0, r0⟩ := trodAll_cons hA
  obtain ⟨rfl, rfl, rfl⟩ := trodAll_nil r0
  obtain rfl : args = #[v0] := by cases args; simp_all
  obtain ⟨g1, g2, g3, g4, rfl⟩ := list_len (vars_len hV)
  obtain ⟨a0, len0, cap0, rfl⟩ := okWide_slice Tryz.underlying22 (hval 0 22 v0 rfl rfl)
  have k0 := h0
  have lt0 : ∀ x ∈ p0, x.block < W.heap.size := by obtain ⟨m, hm⟩ := k0; exact DataW.trod_lt m _ _ _ hm
  obtain ⟨z0, w0⟩ : ∃ zs, IsRow .u8 W a0 len0 cap0 zs := by
    obtain ⟨fuel, hf⟩ := h0
    rcases open_ints Tryz.underlying22 Tryz.underlying5 (by kernel_rfl) hf with ⟨hcs, _⟩ | ⟨x, l, c, zs, hcs, _, hl, hm, hz, _, hcell, hwz⟩
    · simp [Value.cells] at hcs
      obtain ⟨rfl, rfl, rfl⟩ := hcs
      exact ⟨[], .inl ⟨rfl, rfl, rfl, rfl⟩⟩
    · simp [Value.cells] at hcs
      obtain ⟨rfl, rfl, rfl⟩ := hcs
      exact ⟨zs, .inr ⟨_, rfl, hl, hm, by simpa using hz, hcell, hwz⟩⟩
  clear hA0 hval0
  refine (walk a0 len0 cap0 z0 W w0 hL hsh).mono fun e W' ⟨he, bel⟩ => ?_
  subst he
  exact ⟨_, rfl, _, _, _, [], _, _, hW', trodAll_mk1 (shut_bool Tryz.underlying4 _), (trodAll_cons_mk (Below.trod laidOut (by kernel_rfl) (of_decide_eq_true (by kernel_rfl)) k0 bel lt0) trodAll_mk0), Below.trodVars laidOut bel (by kernel_rfl) hV, bel.frame _, fun h => by cases h⟩

theorem said : Rows.FnRefsSaid :=
  OpenClaim.holds_of_wide 3 Tryz.f3 rfl rfl rfl rfl rfl rfl rfl ⟨rfl, rfl, rfl, rfl, rfl⟩ rfl rfl rfl rfl rfl (by kernel_rfl) Tryz.func3 (by kernel_rfl)
    (of_decide_eq_true (by kernel_rfl)) (by unfold Func.isWrapper; first | (rw [if_pos (by decide +kernel)]; kernel_rfl) | (rw [if_neg (by decide +kernel)]; exact ⟨rfl, rfl⟩))
    (fun os started H enc _ => lifted os started H enc)

/-! ### The card -/
theorem plain (f : FuncId) (fn : Func) (hf : Tryz.pinned.checked.prog.funcNamed "loop.example/g00484/laws.FnRefs" = some f) (hfn : Tryz.pinned.checked.prog.funcs[f]? = some fn) :
    true = Tryz.pinned.checked.prog.looks [] ∧ ∀ (j : Nat) t, fn.params[j]? = some t → Tryz.pinned.checked.prog.wantsStandIn t = false := by
  obtain rfl : f = 3 := Option.some.inj ((show Tryz.prog.funcNamed "loop.example/g00484/laws.FnRefs" = some 3 by kernel_rfl).symm.trans hf) |>.symm
  obtain rfl : fn = Tryz.f3 := (Option.some.inj (Tryz.func3.symm.trans hfn)).symm
  refine ⟨by kernel_rfl, fun j t ht => ?_⟩
  rw [Tryz.params3] at ht
  have hm : t ∈ [22] := by simpa using Array.mem_of_getElem? ht
  have hall : ([22].all fun u => !Tryz.prog.wantsStandIn u) = true := by kernel_rfl
  exact (show Tryz.prog.wantsStandIn t = false by simpa using List.all_eq_true.1 hall t hm)

/-- The statement. -/
theorem card : Rows.FnRefsCardSaid :=
  Claim7.holds_tied_plain_at .later [] _ _ _ _ said (fun _ h => by cases h) (by kernel_rfl) (fun _ h => by cases h) fnRefs_row_tie rfl ⟨rfl, rfl⟩ (by kernel_rfl) rfl plain (by kernel_rfl)
#print axioms card
end Go.Proofs.YtdojkaboejndiaaGreatDoor.fnRefs
