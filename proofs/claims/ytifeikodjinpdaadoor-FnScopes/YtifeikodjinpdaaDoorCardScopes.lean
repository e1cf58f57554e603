/-
  For every draw the law FnScopes returns true: what stands within counts; a part ahead that means a space is found again; the program's tables being what its text lays, utf8's table what Go pins (the tied card). No condition.
  The frame is after the kit's guide (MapyProofs, UptoLaidToy); the walk is ours.
-/
import Derived.Test.YtifeikodjinpdaaDoorCards
import Derived.Test.YtifeikodjinpdaaDoorTie
import Derived.Test.YtifeikodjinpdaaDoorImplPre
import Derived.Test.YtifeikodjinpdaaDoorImplInner
import Derived.Test.YtifeikodjinpdaaDoorImplDecl
import Derived.Test.YtifeikodjinpdaaDoorScope
import Derived.Test.YtifeikodjinpdaaDoorSameDecls
import Derived.Test.YtifeikodjinpdaaDoorDrawScopes4
import Derived.Test.YtifeikodjinpdaaDoorDrawRow
import Derived.WalkKit
import Derived.ProofKit
import Derived.OpenShut
import Derived.ShutString
import Derived.ChangeOld
import Derived.Below
import Derived.LaidMore
import Derived.OpenVars
import Derived.Stop.Joined
namespace Go.Proofs.YtifeikodjinpdaaDoor.fnScopes
open Go.ChangeShapes Go.WideShapes Go.ChangeAt Go.RowKit Go.WideMaps Go.WideElems
open Go.ChangeMaps (open_string shut_string)
set_option linter.unusedVariables false

theorem own : ownKnob Tryd.prog.godebug = none := by kernel_rfl
theorem laidOut : laidOutB Tryd.prog = true := by kernel_rfl

/-- What the walk is told of a slice of bytes that came in. -/
def IsRow (k : IntKind) (w : World) (a : Option Addr) (len cap : Nat) (zs : List Int) : Prop :=
  (a = none ∧ len = 0 ∧ cap = 0 ∧ zs = []) ∨
  ∃ x, a = some x ∧ len ≤ cap ∧ cap ≤ maxLen ∧ zs.length = cap ∧ (∀ i, i < zs.length → w.cell? (x.add i) = some (.int k (zs.getD i 0))) ∧ ∀ n ∈ zs, (Lit.int k n).wf = true

theorem tables {W : World} (h : laidMetH Tryd.prog Rows.fnScopesRow.laid W) : scopes.Tabs W := by
  rw [MakeChecks.laidMetH_plain _ _ _ (by kernel_rfl)] at h
  refine ⟨scans.tabs_of (D := Rows.laid_unicode_utf8_acceptRanges) (F := Rows.laid_unicode_utf8_first) (by kernel_rfl) (by kernel_rfl) (Lib.laidMet.reads h (.tail _ (.tail _ (.tail _ (.tail _ (.head _)))))) (Lib.laidMet.reads h (.head _)),
    scans.signs_of (D := Rows.laid_loop_example_g00484_impl_signSpans) rfl (Lib.laidMet.reads h (.tail _ (.head _))), ?_, ?_⟩
  · obtain ⟨g, t, cs, fuel, p, hg, ht, hv, hd⟩ := Lib.laidMet.reads h (.tail _ (.tail _ (.head _)))
    obtain rfl := Option.some.inj ((show Tryd.prog.globalNamed "loop.example/g00484/impl.startSpans" = some 0 by kernel_rfl).symm.trans hg)
    obtain rfl := Option.some.inj ((show (Tryd.prog.globals[0]?).map (·.type) = some 80 by kernel_rfl).symm.trans ht)
    exact spans.spans_of hg hv (by decide) (by decide) hd
  · obtain ⟨g, t, cs, fuel, p, hg, ht, hv, hd⟩ := Lib.laidMet.reads h (.tail _ (.tail _ (.tail _ (.head _))))
    obtain rfl := Option.some.inj ((show Tryd.prog.globalNamed "loop.example/g00484/impl.partSpans" = some 1 by kernel_rfl).symm.trans hg)
    obtain rfl := Option.some.inj ((show (Tryd.prog.globals[1]?).map (·.type) = some 80 by kernel_rfl).symm.trans ht)
    exact spans.spans_of hg hv (by decide) (by decide) hd
theorem big_no (w : World) (a : Option Addr) (len cap : Nat) (h : len ≤ 1048576) : Calls Tryd.prog 6 #[.slice a len cap] w fun e w' => e = .returned (.bool false) ∧ w' = w := by
  have h' : ¬ (1048576 : Int) < len := by omega
  go_enter Tryd.func6, Tryd.ntmps6
  go_wp2
  go_ret
  exact ⟨by simp, rfl⟩
theorem big_yes (w : World) (a : Option Addr) (len cap : Nat) (h : ¬ len ≤ 1048576) : Calls Tryd.prog 6 #[.slice a len cap] w fun e w' => e = .returned (.bool true) ∧ w' = w := by
  have h' : (1048576 : Int) < len := by omega
  go_enter Tryd.func6, Tryd.ntmps6
  go_wp2
  go_ret
  exact ⟨by simp, rfl⟩
theorem row_below {w w' : World} {a : Option Addr} {len : Nat} (h : draws.RowAt w a len) (hb : Below w.heap.size w w') : draws.RowAt w' a len := h.stays hb.size fun _ b _ _ hlt => hb.block b hlt
theorem end_true {w0 w : World} {b : Bool} (h : b = true) (hb : Below w0.heap.size w0 w) : Ending.returned (.bool b) = .returned (.bool true) ∧ Below w0.heap.size w0 w := ⟨by rw [h], hb⟩
theorem spec_preB (L : List pairs.Pair) (uri : ByteArray) (bare : Bool) (x : ByteArray) (ok : Bool) (h : scopes.preR L uri bare = (x, ok)) (a : Option Addr) (cap : Nat) (w : World) (hL : pairs.PairsAt w a L) : Calls Tryd.prog 13 #[.slice a L.length cap, .string uri, .bool bare] w fun e w' => e = .returned (.tuple #[.string x, .bool ok]) ∧ w' = w := by
  have := scopes.spec_pre a L cap uri bare w hL
  rw [h] at this
  exact this
theorem impl_preB (L : List pairs.Pair) (uri : ByteArray) (bare : Bool) (x : ByteArray) (ok : Bool) (h : scopes.preR L uri bare = (x, ok)) (a : Option Addr) (cap : Nat) (w : World) (hL : pairs.PairsAt w a L) : Calls Tryd.prog 12 #[.slice a L.length cap, .string uri, .bool bare] w fun e w' => e = .returned (.tuple #[.string x, .bool ok]) ∧ Below w.heap.size w w' := by
  have := scopes.impl_pre a L cap uri bare w hL
  rw [h] at this
  exact this
theorem impl_declsB (L : List pairs.Pair) (b : Bool) (h : scopes.declsB L = b) (a : Option Addr) (cap : Nat) (w : World) (hT : scopes.Tabs w) (hL : pairs.PairsAt w a L) : Calls Tryd.prog 16 #[.slice a L.length cap] w fun e w' => e = .returned (.bool b) ∧ Below w.heap.size w w' := by
  have := scopes.impl_decls a L cap w hT hL
  rw [h] at this
  exact this
theorem spec_declsB (L : List pairs.Pair) (b : Bool) (h : scopes.declsB L = b) (a : Option Addr) (cap : Nat) (w : World) (hL : pairs.PairsAt w a L) : Calls Tryd.prog 17 #[.slice a L.length cap] w fun e w' => e = .returned (.bool b) ∧ Below w.heap.size w w' := by
  have := scopes.spec_decls a L cap w hL
  rw [h] at this
  exact this
theorem row_shape {t : TypeId} {w : World} {B : Nat} {v : Value} {L : List pairs.Pair} (h : pairs.OwnP t w B v L) : (v = .slice none 0 0 ∧ L = []) ∨ ∃ g c, v = .slice (some ⟨g, 0, none⟩) L.length c ∧ L.length ≤ c ∧ c ≤ 9223372036854775807 := by
  rcases h.2 with ⟨e, h0⟩ | ⟨g, c, cur, e, _, _, hc, hm, _⟩
  · exact .inl ⟨e, List.length_eq_zero_iff.1 h0⟩
  · exact .inr ⟨g, c, e, hc, hm⟩


/-! ### The walk: the law returns true, and nothing that was there has turned -/
set_option maxRecDepth 100000 in
set_option maxHeartbeats 4000000 in
theorem walk (a0 : Option Addr) (len0 cap0 : Nat) (z0 : List Int) (w : World) (w0 : IsRow .u8 w a0 len0 cap0 z0) (hL : laidMetH Tryd.prog Rows.fnScopesRow.laid w) :
    Calls Tryd.prog 3 #[.slice a0 len0 cap0] w fun e w' => e = .returned (.bool true) ∧ Below w.heap.size w w' := by
  have HT : Hid (scopes.Tabs w) := tables hL
  have hr : Hid (draws.RowAt w a0 len0) := draws.rowAt_of w0
  clear hL w0
  by_cases hz : len0 ≤ 1048576
  · go_enter Tryd.func3, Tryd.ntmps3
    go_wp2_with fail
    refine (big_no _ _ _ _ hz).mono ?_
    rintro e w' ⟨rfl, hw'⟩
    have hw2 := hw'.symm
    clear hw'
    subst hw2
    have HB : Hid (Below w.heap.size w w) := Below.refl _ _
    have HR : Hid _ := hr.out
    clear hr
    go_wp2_with fail
    refine (draws.drawInner _ _ _ _ hz HR).mono ?_
    rintro e w1 ⟨a1, a2, L, M, c1, c2, rfl, hl1, hl2, hb1⟩
    have hn1 := hl1.len
    have hn2 := hl2.len
    have HL : Hid _ := hl1.at_
    have HM : Hid _ := hl2.at_
    have HFL : Hid _ := hl1.fine
    have HFM : Hid _ := hl2.fine
    clear hl1 hl2
    have HBn : Hid _ := HB.out.trans (hb1.mono HB.out.size)
    clear HB
    have HB : Hid _ := HBn
    clear HBn
    have HRn : Hid _ := row_below HR.out hb1
    clear HR
    have HR : Hid _ := HRn
    clear HRn
    clear hb1
    go_wp2_with fail
    refine (scopes.impl_inner _ _ _ _ _ _ _ HL.out HM.out (by omega)).mono ?_
    rintro e w2 ⟨⟨v, rfl, ho, hnil⟩, hb2⟩
    obtain ⟨LM, hLM⟩ : ∃ LM, LM = L ++ M := ⟨_, rfl⟩
    rw [← hLM] at ho
    have hfm := draws.Fine.add HFL.out HFM.out
    rw [← hLM] at hfm
    have hlm : LM.length ≤ 24 := by rw [hLM, List.length_append]; omega
    obtain ⟨al, cl, rfl, hpl⟩ := pairs.OwnP.pairs ho (by unfold maxLen; omega) (fun i hi => by have := hfm i hi; unfold maxLen; omega)
    have HA : Hid _ := row_shape ho
    have HLM : Hid _ := hLM
    have HLMn : Hid _ := hlm
    clear hfm hlm ho hnil hLM
    have HBn : Hid _ := HB.out.trans (hb2.mono HB.out.size)
    clear HB
    have HB : Hid _ := HBn
    clear HBn
    have HRn : Hid _ := row_below HR.out hb2
    clear HR
    have HR : Hid _ := HRn
    clear HRn
    have HLn : Hid _ := HL.out.below (Nat.le_refl _) hb2
    clear HL
    have HL : Hid _ := HLn
    clear HLn
    have HMn : Hid _ := HM.out.below (Nat.le_refl _) hb2
    clear HM
    have HM : Hid _ := HMn
    clear HMn
    clear hb2
    have HI : Hid _ := hpl
    clear hpl
    go_wp2_with fail
    refine (draws.drawSpaceOf _ _ _ _ hz HR).mono ?_
    rintro e w3 ⟨a3, L3, c3, pre, rfl, hl3, hpz, hb3⟩
    have hp3 := hl3.at_
    have hn3 := hl3.len
    clear hl3
    have HBn : Hid _ := HB.out.trans (hb3.mono HB.out.size)
    clear HB
    have HB : Hid _ := HBn
    clear HBn
    have HRn : Hid _ := row_below HR.out hb3
    clear HR
    have HR : Hid _ := HRn
    clear HRn
    have HLn : Hid _ := HL.out.below (Nat.le_refl _) hb3
    clear HL
    have HL : Hid _ := HLn
    clear HLn
    have HMn : Hid _ := HM.out.below (Nat.le_refl _) hb3
    clear HM
    have HM : Hid _ := HMn
    clear HMn
    have HIn : Hid _ := HI.out.below (Nat.le_refl _) hb3
    clear HI
    have HI : Hid _ := HIn
    clear HIn
    clear hb3
    have HL3 : Hid _ := hp3
    clear hp3
    obtain ⟨x, ok, hx⟩ : ∃ x ok, scopes.spaceR L3 pre = (x, ok) := ⟨_, _, rfl⟩
    have HS3 : Hid (∀ (a : Option Addr) (cap : Nat) (w : World), _) := scopes.impl_spaceH L3 pre x ok hx
    have HZ3 : Hid (∀ (a : Option Addr) (cap : Nat) (w : World), _) := scopes.spec_spaceH L3 pre x ok hx
    clear hx
    go_wp2_with fail
    refine (HS3.out _ _ _ HL3.out).mono ?_
    rintro e w4 ⟨rfl, hb4⟩
    have HBn : Hid _ := HB.out.trans (hb4.mono HB.out.size)
    clear HB
    have HB : Hid _ := HBn
    clear HBn
    have HRn : Hid _ := row_below HR.out hb4
    clear HR
    have HR : Hid _ := HRn
    clear HRn
    have HLn : Hid _ := HL.out.below (Nat.le_refl _) hb4
    clear HL
    have HL : Hid _ := HLn
    clear HLn
    have HMn : Hid _ := HM.out.below (Nat.le_refl _) hb4
    clear HM
    have HM : Hid _ := HMn
    clear HMn
    have HIn : Hid _ := HI.out.below (Nat.le_refl _) hb4
    clear HI
    have HI : Hid _ := HIn
    clear HIn
    have HL3n : Hid _ := HL3.out.below (Nat.le_refl _) hb4
    clear HL3
    have HL3 : Hid _ := HL3n
    clear HL3n
    clear hb4
    go_wp2_with fail
    refine (draws.drawPreFor _ _ _ _ hz HR).mono ?_
    rintro e w5 ⟨a4, L4, c4, uri, bare, rfl, hl4, huz, hb5⟩
    have hp4 := hl4.at_
    have hn4 := hl4.len
    clear hl4
    have HBn : Hid _ := HB.out.trans (hb5.mono HB.out.size)
    clear HB
    have HB : Hid _ := HBn
    clear HBn
    have HRn : Hid _ := row_below HR.out hb5
    clear HR
    have HR : Hid _ := HRn
    clear HRn
    have HLn : Hid _ := HL.out.below (Nat.le_refl _) hb5
    clear HL
    have HL : Hid _ := HLn
    clear HLn
    have HMn : Hid _ := HM.out.below (Nat.le_refl _) hb5
    clear HM
    have HM : Hid _ := HMn
    clear HMn
    have HIn : Hid _ := HI.out.below (Nat.le_refl _) hb5
    clear HI
    have HI : Hid _ := HIn
    clear HIn
    have HL3n : Hid _ := HL3.out.below (Nat.le_refl _) hb5
    clear HL3
    have HL3 : Hid _ := HL3n
    clear HL3n
    clear hb5
    have HL4 : Hid _ := hp4
    clear hp4
    obtain ⟨p, is, hp⟩ : ∃ p is, scopes.preR L4 uri bare = (p, is) := ⟨_, _, rfl⟩
    have HS4 : Hid (∀ (a : Option Addr) (cap : Nat) (w : World), _) := impl_preB L4 uri bare p is hp
    have HZ4 : Hid (∀ (a : Option Addr) (cap : Nat) (w : World), _) := spec_preB L4 uri bare p is hp
    have HPR : Hid _ := hp
    clear hp
    go_wp2_with fail
    refine (HS4.out _ _ _ HL4.out).mono ?_
    rintro e w6 ⟨rfl, hb6⟩
    have HBn : Hid _ := HB.out.trans (hb6.mono HB.out.size)
    clear HB
    have HB : Hid _ := HBn
    clear HBn
    have HRn : Hid _ := row_below HR.out hb6
    clear HR
    have HR : Hid _ := HRn
    clear HRn
    have HLn : Hid _ := HL.out.below (Nat.le_refl _) hb6
    clear HL
    have HL : Hid _ := HLn
    clear HLn
    have HMn : Hid _ := HM.out.below (Nat.le_refl _) hb6
    clear HM
    have HM : Hid _ := HMn
    clear HMn
    have HIn : Hid _ := HI.out.below (Nat.le_refl _) hb6
    clear HI
    have HI : Hid _ := HIn
    clear HIn
    have HL3n : Hid _ := HL3.out.below (Nat.le_refl _) hb6
    clear HL3
    have HL3 : Hid _ := HL3n
    clear HL3n
    have HL4n : Hid _ := HL4.out.below (Nat.le_refl _) hb6
    clear HL4
    have HL4 : Hid _ := HL4n
    clear HL4n
    clear hb6
    go_wp2_with fail
    refine (HZ4.out _ _ _ HL4.out).mono ?_
    rintro e w7 ⟨rfl, hw7⟩
    have hw8 := hw7.symm
    clear hw7
    subst hw8
    go_wp2_with fail
    refine (draws.drawDeclsOk _ _ _ _ hz HR).mono ?_
    rintro e w8 ⟨a5, L5, c5, rfl, hl5, hb8⟩
    have hp5 := hl5.at_
    clear hl5
    clear HR
    have HBn : Hid _ := HB.out.trans (hb8.mono HB.out.size)
    clear HB
    have HB : Hid _ := HBn
    clear HBn
    have HLn : Hid _ := HL.out.below (Nat.le_refl _) hb8
    clear HL
    have HL : Hid _ := HLn
    clear HLn
    have HMn : Hid _ := HM.out.below (Nat.le_refl _) hb8
    clear HM
    have HM : Hid _ := HMn
    clear HMn
    have HIn : Hid _ := HI.out.below (Nat.le_refl _) hb8
    clear HI
    have HI : Hid _ := HIn
    clear HIn
    have HL3n : Hid _ := HL3.out.below (Nat.le_refl _) hb8
    clear HL3
    have HL3 : Hid _ := HL3n
    clear HL3n
    have HL4n : Hid _ := HL4.out.below (Nat.le_refl _) hb8
    clear HL4
    have HL4 : Hid _ := HL4n
    clear HL4n
    clear hb8
    have HL5 : Hid _ := hp5
    clear hp5
    obtain ⟨db, hdb⟩ : ∃ db, scopes.declsB L5 = db := ⟨_, rfl⟩
    have HS5 : Hid (∀ (a : Option Addr) (cap : Nat) (w : World), _) := impl_declsB L5 db hdb
    have HZ5 : Hid (∀ (a : Option Addr) (cap : Nat) (w : World), _) := spec_declsB L5 db hdb
    clear hdb
    go_wp2_with fail
    refine (HZ3.out _ _ _ HL3.out).mono ?_
    rintro e w9 ⟨rfl, hw9⟩
    have hw8 := hw9.symm
    clear hw9
    subst hw8
    clear HS3 HZ3 HL3 HS4 HZ4
    have hokc : (ok == ok) = true := by cases ok <;> rfl
    have hisc : (is == is) = true := by cases is <;> rfl
    have hdbc : (db == db) = true := by cases db <;> rfl
    have hcmp : ((LM.length : Int) != (L.length : Int) + (M.length : Int)) = false := by rw [HLM.out, List.length_append]; simp
    go_wp2_with fail
    refine (HS5.out _ _ _ (HT.out.below HB.out) HL5.out).mono ?_
    rintro e w10 ⟨rfl, hb10⟩
    have HBn : Hid _ := HB.out.trans (hb10.mono HB.out.size)
    clear HB
    have HB : Hid _ := HBn
    clear HBn
    have HLn : Hid _ := HL.out.below (Nat.le_refl _) hb10
    clear HL
    have HL : Hid _ := HLn
    clear HLn
    have HMn : Hid _ := HM.out.below (Nat.le_refl _) hb10
    clear HM
    have HM : Hid _ := HMn
    clear HMn
    have HIn : Hid _ := HI.out.below (Nat.le_refl _) hb10
    clear HI
    have HI : Hid _ := HIn
    clear HIn
    have HL4n : Hid _ := HL4.out.below (Nat.le_refl _) hb10
    clear HL4
    have HL4 : Hid _ := HL4n
    clear HL4n
    have HL5n : Hid _ := HL5.out.below (Nat.le_refl _) hb10
    clear HL5
    have HL5 : Hid _ := HL5n
    clear HL5n
    clear hb10
    go_wp2_with fail
    refine (HZ5.out _ _ _ HL5.out).mono ?_
    rintro e w11 ⟨rfl, hb11⟩
    have HBn : Hid _ := HB.out.trans (hb11.mono HB.out.size)
    clear HB
    have HB : Hid _ := HBn
    clear HBn
    have HLn : Hid _ := HL.out.below (Nat.le_refl _) hb11
    clear HL
    have HL : Hid _ := HLn
    clear HLn
    have HMn : Hid _ := HM.out.below (Nat.le_refl _) hb11
    clear HM
    have HM : Hid _ := HMn
    clear HMn
    have HIn : Hid _ := HI.out.below (Nat.le_refl _) hb11
    clear HI
    have HI : Hid _ := HIn
    clear HIn
    have HL4n : Hid _ := HL4.out.below (Nat.le_refl _) hb11
    clear HL4
    have HL4 : Hid _ := HL4n
    clear HL4n
    clear hb11
    clear HS5 HZ5 HL5
    cases is
    · go_wp2_with fail
      go_loopw [22] (fun t wr => ∃ i : Nat, i ≤ M.length ∧ t = .int .i64 i ∧ Hid (Below w.heap.size w wr) ∧ Hid (pairs.PairsAt wr a1 L) ∧ Hid (pairs.PairsAt wr a2 M) ∧ Hid (pairs.PairsAt wr al LM)) (fun t _ => M.length - (intOf t).toNat)
      case atStart => exact ⟨0, Nat.zero_le _, rfl, HB, HL, HM, HI⟩
      case round =>
        clear HB HL HM HI
        obtain ⟨i, hi, rfl, HB, HL, HM, HI⟩ := hrel
        by_cases hlt : i < M.length
        · obtain ⟨b, off, ha, hblt, hc⟩ := HM.out.row (by omega)
          obtain ⟨hc1, hc2⟩ := hc i hlt
          obtain ⟨y, hy1, hy2⟩ := scopes.space_inner L M hlt
          rw [← HLM.out] at hy1
          have hs1 := scopes.impl_spaceH LM (pairs.at0 M i).1 y true hy1
          have hs2 := scopes.impl_spaceH M (pairs.at0 M i).1 y true hy2
          subst ha
          clear hc hc2 hy1 hy2
          generalize (pairs.at0 M i).1 = n at hc1 hs1 hs2
          have HS1 : Hid (∀ (a : Option Addr) (cap : Nat) (w : World), _) := hs1
          have HS2 : Hid (∀ (a : Option Addr) (cap : Nat) (w : World), _) := hs2
          clear hs1 hs2
          go_wp2_with fail
          refine (HS1.out _ _ _ HI.out).mono ?_
          rintro e w13 ⟨rfl, hb13⟩
          have hc3 := (hb13.cell (p := ⟨b, off + i * 2, none⟩) hblt).trans hc1
          have HBn : Hid _ := HB.out.trans (hb13.mono HB.out.size)
          clear HB
          have HB : Hid _ := HBn
          clear HBn
          have HLn : Hid _ := HL.out.below (Nat.le_refl _) hb13
          clear HL
          have HL : Hid _ := HLn
          clear HLn
          have HMn : Hid _ := HM.out.below (Nat.le_refl _) hb13
          clear HM
          have HM : Hid _ := HMn
          clear HMn
          have HIn : Hid _ := HI.out.below (Nat.le_refl _) hb13
          clear HI
          have HI : Hid _ := HIn
          clear HIn
          clear hb13
          go_wp2_with fail
          refine (HS2.out _ _ _ HM.out).mono ?_
          rintro e w14 ⟨rfl, hb14⟩
          have HBn : Hid _ := HB.out.trans (hb14.mono HB.out.size)
          clear HB
          have HB : Hid _ := HBn
          clear HBn
          have HLn : Hid _ := HL.out.below (Nat.le_refl _) hb14
          clear HL
          have HL : Hid _ := HLn
          clear HLn
          have HMn : Hid _ := HM.out.below (Nat.le_refl _) hb14
          clear HM
          have HM : Hid _ := HMn
          clear HMn
          have HIn : Hid _ := HI.out.below (Nat.le_refl _) hb14
          clear HI
          have HI : Hid _ := HIn
          clear HIn
          clear hb14
          go_wp2
          go_roundw
          case rel => exact ⟨i + 1, by omega, by go_num, HB, HL, HM, HI⟩
          case measure => simp [intOf]; omega
        · rcases HA.out with ⟨hv, hnil⟩ | ⟨g, c, hv, hlc, hcm⟩
          · obtain ⟨hv1, -, hv2⟩ := Value.slice.inj hv
            subst hv1 hv2
            obtain ⟨hn1', hn2'⟩ := List.append_eq_nil_iff.1 (HLM.out.symm.trans hnil)
            subst hn1' hn2' hnil
            clear hv
            go_wp2_with fail
            refine (scopes.same_decls _ none a1 [] _ _ (pairs.nil_pairs _) HL.out).mono ?_
            rintro e w15 ⟨rfl, hb15⟩
            have HBn : Hid _ := HB.out.trans (hb15.mono HB.out.size)
            clear HB
            have HB : Hid _ := HBn
            clear HBn
            have HLn : Hid _ := HL.out.below (Nat.le_refl _) hb15
            clear HL
            have HL : Hid _ := HLn
            clear HLn
            have HMn : Hid _ := HM.out.below (Nat.le_refl _) hb15
            clear HM
            have HM : Hid _ := HMn
            clear HMn
            have HIn : Hid _ := HI.out.below (Nat.le_refl _) hb15
            clear HI
            have HI : Hid _ := HIn
            clear HIn
            clear hb15
            go_wp2_with fail
            refine (scopes.same_decls _ none a2 [] _ _ (pairs.nil_pairs _) HM.out).mono ?_
            rintro e w16 ⟨rfl, hb16⟩
            have HBn : Hid _ := HB.out.trans (hb16.mono HB.out.size)
            clear HB
            have HB : Hid _ := HBn
            clear HBn
            have HLn : Hid _ := HL.out.below (Nat.le_refl _) hb16
            clear HL
            have HL : Hid _ := HLn
            clear HLn
            clear hb16
            go_wp2
            go_ret
            exact end_true rfl HB.out
          · obtain ⟨hv1, -, hv2⟩ := Value.slice.inj hv
            subst hv1 hv2
            have hq1 : L.length ≤ LM.length := by rw [HLM.out, List.length_append]; omega
            have hq2 : L.length ≤ cl := by omega
            have hq3 : (L.length : Int) ≤ (LM.length : Int) := by omega
            have HQ : Hid (LM.length - L.length = M.length) := by show _ = _; rw [HLM.out, List.length_append]; omega
            clear hv
            go_wp2_with fail
            refine (scopes.same_decls _ _ _ L _ _ (scopes.pairs_left (by rw [← HLM.out]; exact HI.out)) HL.out).mono ?_
            rintro e w15 ⟨rfl, hb15⟩
            have HBn : Hid _ := HB.out.trans (hb15.mono HB.out.size)
            clear HB
            have HB : Hid _ := HBn
            clear HBn
            have HLn : Hid _ := HL.out.below (Nat.le_refl _) hb15
            clear HL
            have HL : Hid _ := HLn
            clear HLn
            have HMn : Hid _ := HM.out.below (Nat.le_refl _) hb15
            clear HM
            have HM : Hid _ := HMn
            clear HMn
            have HIn : Hid _ := HI.out.below (Nat.le_refl _) hb15
            clear HI
            have HI : Hid _ := HIn
            clear HIn
            clear hb15
            by_cases hcz : cl - L.length = 0
            · have HM0 : Hid (M.length = 0) := by have := HQ.out; show _ = _; omega
              go_wp2_with fail
              rw [HQ.out]
              refine (scopes.same_decls _ (some ⟨g, 0, none⟩) a2 M _ _ ⟨fun h => absurd h (by have := HM0.out; omega), HM.out.short, HM.out.texts⟩ HM.out).mono ?_
              rintro e w16 ⟨rfl, hb16⟩
              have HBn : Hid _ := HB.out.trans (hb16.mono HB.out.size)
              clear HB
              have HB : Hid _ := HBn
              clear HBn
              have HLn : Hid _ := HL.out.below (Nat.le_refl _) hb16
              clear HL
              have HL : Hid _ := HLn
              clear HLn
              clear hb16
              go_wp2
              go_ret
              exact end_true rfl HB.out
            · go_wp2_with fail
              rw [HQ.out]
              refine (scopes.same_decls _ (some ⟨g, L.length * 2, none⟩) a2 M _ _ (by have h := HI.out; rw [HLM.out] at h; have := scopes.pairs_right h; rwa [Nat.zero_add] at this) HM.out).mono ?_
              rintro e w16 ⟨rfl, hb16⟩
              have HBn : Hid _ := HB.out.trans (hb16.mono HB.out.size)
              clear HB
              have HB : Hid _ := HBn
              clear HBn
              have HLn : Hid _ := HL.out.below (Nat.le_refl _) hb16
              clear HL
              have HL : Hid _ := HLn
              clear HLn
              clear hb16
              go_wp2
              go_ret
              exact end_true rfl HB.out
    · have hsp := scopes.pre_space HPR.out
      have HS6 : Hid (∀ (a : Option Addr) (cap : Nat) (w : World), _) := scopes.impl_spaceH L4 p uri true hsp
      clear hsp
      go_wp2_with fail
      refine (HS6.out _ _ _ HL4.out).mono ?_
      rintro e w12 ⟨rfl, hb12⟩
      have HBn : Hid _ := HB.out.trans (hb12.mono HB.out.size)
      clear HB
      have HB : Hid _ := HBn
      clear HBn
      have HLn : Hid _ := HL.out.below (Nat.le_refl _) hb12
      clear HL
      have HL : Hid _ := HLn
      clear HLn
      have HMn : Hid _ := HM.out.below (Nat.le_refl _) hb12
      clear HM
      have HM : Hid _ := HMn
      clear HMn
      have HIn : Hid _ := HI.out.below (Nat.le_refl _) hb12
      clear HI
      have HI : Hid _ := HIn
      clear HIn
      clear hb12
      go_wp2_with fail
      go_loopw [22] (fun t wr => ∃ i : Nat, i ≤ M.length ∧ t = .int .i64 i ∧ Hid (Below w.heap.size w wr) ∧ Hid (pairs.PairsAt wr a1 L) ∧ Hid (pairs.PairsAt wr a2 M) ∧ Hid (pairs.PairsAt wr al LM)) (fun t _ => M.length - (intOf t).toNat)
      case atStart => exact ⟨0, Nat.zero_le _, rfl, HB, HL, HM, HI⟩
      case round =>
        clear HB HL HM HI
        obtain ⟨i, hi, rfl, HB, HL, HM, HI⟩ := hrel
        by_cases hlt : i < M.length
        · obtain ⟨b, off, ha, hblt, hc⟩ := HM.out.row (by omega)
          obtain ⟨hc1, hc2⟩ := hc i hlt
          obtain ⟨y, hy1, hy2⟩ := scopes.space_inner L M hlt
          rw [← HLM.out] at hy1
          have hs1 := scopes.impl_spaceH LM (pairs.at0 M i).1 y true hy1
          have hs2 := scopes.impl_spaceH M (pairs.at0 M i).1 y true hy2
          subst ha
          clear hc hc2 hy1 hy2
          generalize (pairs.at0 M i).1 = n at hc1 hs1 hs2
          have HS1 : Hid (∀ (a : Option Addr) (cap : Nat) (w : World), _) := hs1
          have HS2 : Hid (∀ (a : Option Addr) (cap : Nat) (w : World), _) := hs2
          clear hs1 hs2
          go_wp2_with fail
          refine (HS1.out _ _ _ HI.out).mono ?_
          rintro e w13 ⟨rfl, hb13⟩
          have hc3 := (hb13.cell (p := ⟨b, off + i * 2, none⟩) hblt).trans hc1
          have HBn : Hid _ := HB.out.trans (hb13.mono HB.out.size)
          clear HB
          have HB : Hid _ := HBn
          clear HBn
          have HLn : Hid _ := HL.out.below (Nat.le_refl _) hb13
          clear HL
          have HL : Hid _ := HLn
          clear HLn
          have HMn : Hid _ := HM.out.below (Nat.le_refl _) hb13
          clear HM
          have HM : Hid _ := HMn
          clear HMn
          have HIn : Hid _ := HI.out.below (Nat.le_refl _) hb13
          clear HI
          have HI : Hid _ := HIn
          clear HIn
          clear hb13
          go_wp2_with fail
          refine (HS2.out _ _ _ HM.out).mono ?_
          rintro e w14 ⟨rfl, hb14⟩
          have HBn : Hid _ := HB.out.trans (hb14.mono HB.out.size)
          clear HB
          have HB : Hid _ := HBn
          clear HBn
          have HLn : Hid _ := HL.out.below (Nat.le_refl _) hb14
          clear HL
          have HL : Hid _ := HLn
          clear HLn
          have HMn : Hid _ := HM.out.below (Nat.le_refl _) hb14
          clear HM
          have HM : Hid _ := HMn
          clear HMn
          have HIn : Hid _ := HI.out.below (Nat.le_refl _) hb14
          clear HI
          have HI : Hid _ := HIn
          clear HIn
          clear hb14
          go_wp2
          go_roundw
          case rel => exact ⟨i + 1, by omega, by go_num, HB, HL, HM, HI⟩
          case measure => simp [intOf]; omega
        · rcases HA.out with ⟨hv, hnil⟩ | ⟨g, c, hv, hlc, hcm⟩
          · obtain ⟨hv1, -, hv2⟩ := Value.slice.inj hv
            subst hv1 hv2
            obtain ⟨hn1', hn2'⟩ := List.append_eq_nil_iff.1 (HLM.out.symm.trans hnil)
            subst hn1' hn2' hnil
            clear hv
            go_wp2_with fail
            refine (scopes.same_decls _ none a1 [] _ _ (pairs.nil_pairs _) HL.out).mono ?_
            rintro e w15 ⟨rfl, hb15⟩
            have HBn : Hid _ := HB.out.trans (hb15.mono HB.out.size)
            clear HB
            have HB : Hid _ := HBn
            clear HBn
            have HLn : Hid _ := HL.out.below (Nat.le_refl _) hb15
            clear HL
            have HL : Hid _ := HLn
            clear HLn
            have HMn : Hid _ := HM.out.below (Nat.le_refl _) hb15
            clear HM
            have HM : Hid _ := HMn
            clear HMn
            have HIn : Hid _ := HI.out.below (Nat.le_refl _) hb15
            clear HI
            have HI : Hid _ := HIn
            clear HIn
            clear hb15
            go_wp2_with fail
            refine (scopes.same_decls _ none a2 [] _ _ (pairs.nil_pairs _) HM.out).mono ?_
            rintro e w16 ⟨rfl, hb16⟩
            have HBn : Hid _ := HB.out.trans (hb16.mono HB.out.size)
            clear HB
            have HB : Hid _ := HBn
            clear HBn
            have HLn : Hid _ := HL.out.below (Nat.le_refl _) hb16
            clear HL
            have HL : Hid _ := HLn
            clear HLn
            clear hb16
            go_wp2
            go_ret
            exact end_true rfl HB.out
          · obtain ⟨hv1, -, hv2⟩ := Value.slice.inj hv
            subst hv1 hv2
            have hq1 : L.length ≤ LM.length := by rw [HLM.out, List.length_append]; omega
            have hq2 : L.length ≤ cl := by omega
            have hq3 : (L.length : Int) ≤ (LM.length : Int) := by omega
            have HQ : Hid (LM.length - L.length = M.length) := by show _ = _; rw [HLM.out, List.length_append]; omega
            clear hv
            go_wp2_with fail
            refine (scopes.same_decls _ _ _ L _ _ (scopes.pairs_left (by rw [← HLM.out]; exact HI.out)) HL.out).mono ?_
            rintro e w15 ⟨rfl, hb15⟩
            have HBn : Hid _ := HB.out.trans (hb15.mono HB.out.size)
            clear HB
            have HB : Hid _ := HBn
            clear HBn
            have HLn : Hid _ := HL.out.below (Nat.le_refl _) hb15
            clear HL
            have HL : Hid _ := HLn
            clear HLn
            have HMn : Hid _ := HM.out.below (Nat.le_refl _) hb15
            clear HM
            have HM : Hid _ := HMn
            clear HMn
            have HIn : Hid _ := HI.out.below (Nat.le_refl _) hb15
            clear HI
            have HI : Hid _ := HIn
            clear HIn
            clear hb15
            by_cases hcz : cl - L.length = 0
            · have HM0 : Hid (M.length = 0) := by have := HQ.out; show _ = _; omega
              go_wp2_with fail
              rw [HQ.out]
              refine (scopes.same_decls _ (some ⟨g, 0, none⟩) a2 M _ _ ⟨fun h => absurd h (by have := HM0.out; omega), HM.out.short, HM.out.texts⟩ HM.out).mono ?_
              rintro e w16 ⟨rfl, hb16⟩
              have HBn : Hid _ := HB.out.trans (hb16.mono HB.out.size)
              clear HB
              have HB : Hid _ := HBn
              clear HBn
              have HLn : Hid _ := HL.out.below (Nat.le_refl _) hb16
              clear HL
              have HL : Hid _ := HLn
              clear HLn
              clear hb16
              go_wp2
              go_ret
              exact end_true rfl HB.out
            · go_wp2_with fail
              rw [HQ.out]
              refine (scopes.same_decls _ (some ⟨g, L.length * 2, none⟩) a2 M _ _ (by have h := HI.out; rw [HLM.out] at h; have := scopes.pairs_right h; rwa [Nat.zero_add] at this) HM.out).mono ?_
              rintro e w16 ⟨rfl, hb16⟩
              have HBn : Hid _ := HB.out.trans (hb16.mono HB.out.size)
              clear HB
              have HB : Hid _ := HBn
              clear HBn
              have HLn : Hid _ := HL.out.below (Nat.le_refl _) hb16
              clear HL
              have HL : Hid _ := HLn
              clear HLn
              clear hb16
              go_wp2
              go_ret
              exact end_true rfl HB.out
  · go_enter Tryd.func3, Tryd.ntmps3
    go_wp2_with fail
    refine (big_yes _ _ _ _ hz).mono ?_
    rintro e w' ⟨rfl, rfl⟩
    go_wp2
    go_ret
    exact ⟨rfl, Below.refl _ _⟩

/-! ### The row -/
theorem vars_len {H : Type} {enc : TypeId × Value → H} {P : Program} {w : World} {sp : Nat → Bool} : ∀ {ns : List String} {gs : List (DataW H)} {ps : List MemPlace}, DataW.TrodVars enc P w sp ns gs ps → gs.length = ns.length
  | [], [], _, _ => rfl
  | [], _ :: _, _, h => h.elim
  | _ :: _, [], _, h => h.elim
  | _ :: ns, _ :: gs, _, h => by
    obtain ⟨_, _, _, _, _, _, _, _, _, _, h, _⟩ := h
    simp [vars_len h]
theorem list_len {α : Type} {l : List α} (h : l.length = 3) : ∃ g1 g2 g3, l = [g1, g2, g3] := by
  match l, h with
  | [g1, g2, g3], _ => exact ⟨g1, g2, g3, rfl⟩
set_option maxRecDepth 100000 in
theorem door_met (os : Os) (args : Array Value) : laidMetH Tryd.prog Rows.fnScopesRow.laid ({ World.doorLaid Tryd.prog 400 os with heap := (World.doorLaid Tryd.prog 400 os).heap.modify 2 fun
    | .cells _ t fz => .cells (Lib.firstTab.map fun z => Value.int .u8 z).toArray t fz
    | o => o }.forCall (fun _ _ => 0) ⟨#[], args, []⟩).memory :=
  laidMetH_of_parts3 (fuel := 8) (laidMet_of_run' 8 (by kernel_rfl) (by kernel_rfl)) (by kernel_rfl) (by kernel_rfl)
set_option maxRecDepth 100000 in
theorem lifted (os : Os) (started : os.Started) (H : Type) (enc : TypeId × Value → H) :
    ReturnsInHanded {} Tryd.checked os 3 .any (fun w args => (Rows.fnScopesSpec.pre enc Tryd.prog Tryd.f3 [] false w args ∧ laidMetH Tryd.prog Rows.fnScopesRow.laid w) ∧ sizedMet enc Tryd.prog Tryd.f3 (OpenSpec.ofChange Rows.fnScopesSpec) false w args)
      (Rows.fnScopesSpec.post enc Tryd.prog Tryd.f3 false true false false) := by
  refine returnsInHanded_of_change_and (C := Tryd.checked) (X := fun w _ => laidMetH Tryd.prog Rows.fnScopesRow.laid w) (fun _ _ _ hh h => h.of_heap hh) own started (by kernel_rfl) Tryd.func3
    (ChangeSpec.witness_shaped (enc := enc) (C := Tryd.checked) (os := os) (X := fun w _ => laidMetH Tryd.prog Rows.fnScopesRow.laid w) false { World.doorLaid Tryd.prog 400 os with heap := (World.doorLaid Tryd.prog 400 os).heap.modify 2 fun
    | .cells _ t fz => .cells (Lib.firstTab.map fun z => Value.int .u8 z).toArray t fz
    | o => o } #[.slice none 0 0] 8 rfl (World.shaped_of_RefB (by kernel_rfl) (by kernel_rfl)) (by kernel_rfl) (by kernel_rfl) (by kernel_rfl) (door_met os _)) ?_
  intro W base args ds gs before hval0 hW _ _ hL _
  have hval : ∀ (j : Nat) t v, Tryd.f3.params[j]? = some t → args[j]? = some v → Value.okWide Tryd.prog W .any base t v := hval0
  have hW' := hW
  obtain ⟨p, q, hA0, hV, rfl, hfz, hnd⟩ := hW
  have hA : DataW.TrodAll enc Tryd.prog W 0 (fun _ => true) true Tryd.f3.params.toList args.toList ds p := hA0
  rw [Tryd.params3] at hA hval
  obtain ⟨v0, vs0, d0, ds0, p0, q0, hargs, rfl, rfl, h0, r0⟩ := trodAll_cons hA
  obtain ⟨rfl, rfl, rfl⟩ := trodAll_nil r0
  obtain rfl : args = #[v0] := by cases args; simp_all
  obtain ⟨g1, g2, g3, rfl⟩ := list_len (vars_len hV)
  obtain ⟨a0, len0, cap0, rfl⟩ := okWide_slice Tryd.underlying22 (hval 0 22 v0 rfl rfl)
  have k0 := h0
  have lt0 : ∀ x ∈ p0, x.block < W.heap.size := by obtain ⟨m, hm⟩ := k0; exact DataW.trod_lt m _ _ _ hm
  obtain ⟨z0, w0⟩ : ∃ zs, IsRow .u8 W a0 len0 cap0 zs := by
    obtain ⟨fuel, hf⟩ := h0
    rcases open_ints Tryd.underlying22 Tryd.underlying5 (by kernel_rfl) hf with ⟨hcs, _⟩ | ⟨x, l, c, zs, hcs, _, hl, hm, hz, _, hcell, hwz⟩
    · simp [Value.cells] at hcs
      obtain ⟨rfl, rfl, rfl⟩ := hcs
      exact ⟨[], .inl ⟨rfl, rfl, rfl, rfl⟩⟩
    · simp [Value.cells] at hcs
      obtain ⟨rfl, rfl, rfl⟩ := hcs
      exact ⟨zs, .inr ⟨_, rfl, hl, hm, by simpa using hz, hcell, hwz⟩⟩
  clear hA0 hval0
  refine (walk a0 len0 cap0 z0 W w0 hL).mono fun e W' ⟨he, bel⟩ => ?_
  subst he
  exact ⟨_, rfl, _, _, _, [], _, _, hW', trodAll_mk1 (shut_bool Tryd.underlying4 _), (trodAll_cons_mk (Below.trod laidOut (by kernel_rfl) (of_decide_eq_true (by kernel_rfl)) k0 bel lt0) trodAll_mk0), Below.trodVars laidOut bel (by kernel_rfl) hV, bel.frame _, fun h => by cases h⟩

theorem said : Rows.FnScopesSaid :=
  OpenClaim.holds_of_wide 3 Tryd.f3 rfl rfl rfl rfl rfl rfl rfl ⟨rfl, rfl, rfl, rfl, rfl⟩ rfl rfl rfl rfl rfl (by kernel_rfl) Tryd.func3 (by kernel_rfl)
    (of_decide_eq_true (by kernel_rfl)) (by unfold Func.isWrapper; first | (rw [if_pos (by decide +kernel)]; kernel_rfl) | (rw [if_neg (by decide +kernel)]; exact ⟨rfl, rfl⟩))
    (fun os started H enc _ => lifted os started H enc)

/-! ### The card -/
theorem plain (f : FuncId) (fn : Func) (hf : Tryd.pinned.checked.prog.funcNamed "loop.example/g00484/laws.FnScopes" = some f) (hfn : Tryd.pinned.checked.prog.funcs[f]? = some fn) :
    false = Tryd.pinned.checked.prog.looks [] ∧ ∀ (j : Nat) t, fn.params[j]? = some t → Tryd.pinned.checked.prog.wantsStandIn t = false := by
  obtain rfl : f = 3 := Option.some.inj ((show Tryd.prog.funcNamed "loop.example/g00484/laws.FnScopes" = some 3 by kernel_rfl).symm.trans hf) |>.symm
  obtain rfl : fn = Tryd.f3 := (Option.some.inj (Tryd.func3.symm.trans hfn)).symm
  refine ⟨by kernel_rfl, fun j t ht => ?_⟩
  rw [Tryd.params3] at ht
  have hm : t ∈ [22] := by simpa using Array.mem_of_getElem? ht
  have hall : ([22].all fun u => !Tryd.prog.wantsStandIn u) = true := by kernel_rfl
  exact (show Tryd.prog.wantsStandIn t = false by simpa using List.all_eq_true.1 hall t hm)

/-- The statement. -/
theorem card : Rows.FnScopesCardSaid :=
  Claim7.holds_tied_plain_at .later [] _ _ _ _ said (fun _ h => by cases h) (by kernel_rfl) (fun _ h => by cases h) fnScopes_row_tie rfl ⟨rfl, rfl⟩ (by kernel_rfl) rfl plain (by kernel_rfl)
#print axioms card
end Go.Proofs.YtifeikodjinpdaaDoor.fnScopes
