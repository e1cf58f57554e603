/-
  What the specification's NodeAt answers.
  (Texts of ours laid as one: SpecAt, ImplCopy, ImplAt, NodeEq, NeqStruct, SpecSame, ImplSame, ImplCount, ImplPlaces.)
-/
import Derived.Test.YtpejcblmglbjfaaPathP
import Derived.Test.YtpejcblmglbjfaaSpecCopy
import Derived.Test.YtpejcblmglbjfaaCopyP
import Derived.Deep.RegionWith
import Derived.Test.YtpejcblmglbjfaaNodeFns
import Derived.Test.YtpejcblmglbjfaaRows
import Derived.Laws.StructEq
import Derived.WalkKit
import Derived.Test.YtpejcblmglbjfaaSpecPart
import Derived.Deep.QuietTactic
import Derived.BigQuiet
import Derived.Test.YtpejcblmglbjfaaCountP
import Derived.Test.YtpejcblmglbjfaaLayP
namespace Go.Proofs.Ytpejcblmglbjfaa.paths
open Go.ChangeShapes Go.WideShapes Go.ChangeAt Go.RowKit
open trees (Tree Hdr vals noTree kid nsz nszs tsize ksize NodeIn NodesAt OwnN Rng Out T3 box8 box_froz CopyOk)
open ints (IntsAt int0 okI)
set_option linter.unusedVariables false
def noHdr : Hdr := ⟨none, 0, none, 0, none, 0⟩
/-- What NodeAt answers, in memory. -/
def AtAns (r : Tree × Bool) (w w' : World) (e : Ending) : Prop := ∃ h', e = .returned (.tuple #[.agg (vals r.1 h'), .bool r.2]) ∧ OwnN w' r.1 h' (Rng w w')
def AtOk (f : FuncId) (t : Tree) (h : Hdr) (P : List Int) (a : Option Addr) (cap : Nat) (w : World) : Prop :=
  Calls Try.prog f #[.agg (vals t h), .slice a P.length cap] w fun e w' => AtAns (atR t P) w w' e ∧ Below w.heap.size w w'
theorem none_own (w : World) (F : trees.Bset) : OwnN w noTree noHdr F := by
  unfold noTree
  rw [OwnN]
  refine ⟨⟨⟨⟨by decide, by decide, by decide, by decide, by decide, by decide⟩, by decide⟩, ⟨by decide, fun i hi => by cases hi⟩, ⟨by decide, fun i hi => by cases hi⟩⟩, fun _ => False, fun _ => False, fun _ => False, ⟨fun _ h => h.elim, fun _ h => h.elim, fun _ h => h.elim⟩, ⟨fun _ h => h.elim, fun _ h => h.elim, fun _ h => h.elim⟩, fun h => absurd h (by decide), fun h => absurd h (by decide), fun h => absurd h (by decide)⟩
theorem put8 {α : Type} (c0 c1 c2 c3 c4 c5 c6 c7 u0 u1 u2 u3 u4 u5 u6 u7 : α) : (((((((#[c0, c1, c2, c3, c4, c5, c6, c7].setIfInBounds 0 u0).setIfInBounds 1 u1).setIfInBounds 2 u2).setIfInBounds 3 u3).setIfInBounds 4 u4).setIfInBounds 5 u5).setIfInBounds 6 u6).setIfInBounds 7 u7 = #[u0, u1, u2, u3, u4, u5, u6, u7] := by simp
theorem T3.put {w W : World} {P : Array Value} {c0 c1 c2 c3 c4 c5 c6 c7 : Value} (h : T3 w W P #[c0, c1, c2, c3, c4, c5, c6, c7]) (u0 u1 u2 u3 u4 u5 u6 u7 : Value) : T3 w ((((((((W.setCell ⟨w.heap.size + 1 + 1, 0, none⟩ u0).setCell ⟨w.heap.size + 1 + 1, 1, none⟩ u1).setCell ⟨w.heap.size + 1 + 1, 2, none⟩ u2).setCell ⟨w.heap.size + 1 + 1, 3, none⟩ u3).setCell ⟨w.heap.size + 1 + 1, 4, none⟩ u4).setCell ⟨w.heap.size + 1 + 1, 5, none⟩ u5).setCell ⟨w.heap.size + 1 + 1, 6, none⟩ u6).setCell ⟨w.heap.size + 1 + 1, 7, none⟩ u7) P #[u0, u1, u2, u3, u4, u5, u6, u7] := by
  have h8 := (((((((h.set 0 u0).set 1 u1).set 2 u2).set 3 u3).set 4 u4).set 5 u5).set 6 u6).set 7 u7
  rw [put8] at h8
  exact h8
theorem out8 {F : trees.Bset} {w w' : World} {g : Nat} (h : Out F w w') (hg : F g) (u0 u1 u2 u3 u4 u5 u6 u7 : Value) : Out F w (((((((((w').setCell ⟨g, 0, none⟩ u0).setCell ⟨g, 1, none⟩ u1).setCell ⟨g, 2, none⟩ u2).setCell ⟨g, 3, none⟩ u3).setCell ⟨g, 4, none⟩ u4).setCell ⟨g, 5, none⟩ u5).setCell ⟨g, 6, none⟩ u6).setCell ⟨g, 7, none⟩ u7) := ((((((((h).set hg 0 u0).set hg 1 u1).set hg 2 u2).set hg 3 u3).set hg 4 u4).set hg 5 u5).set hg 6 u6).set hg 7 u7
theorem below8 {B : Nat} {w w' : World} {g : Nat} (h : Below B w w') (hg : B ≤ g) (u0 u1 u2 u3 u4 u5 u6 u7 : Value) : Below B w (((((((((w').setCell ⟨g, 0, none⟩ u0).setCell ⟨g, 1, none⟩ u1).setCell ⟨g, 2, none⟩ u2).setCell ⟨g, 3, none⟩ u3).setCell ⟨g, 4, none⟩ u4).setCell ⟨g, 5, none⟩ u5).setCell ⟨g, 6, none⟩ u6).setCell ⟨g, 7, none⟩ u7) := (pairs.below_set (pairs.below_set (pairs.below_set (pairs.below_set (pairs.below_set (pairs.below_set (pairs.below_set (pairs.below_set h hg) hg) hg) hg) hg) hg) hg) hg)
/-- A Kid's cells, for as long as nothing old turns. -/
theorem kid_cells {w : World} {B : Nat} {kd : Int} {p l u x : ByteArray} {ds : List pairs.Pair} {ats : List trees.Att} {ks : List Tree} {h : Hdr} {n : Nat} (hn : NodeIn w B (.mk kd p l u x ds ats ks) h) (hk : n < ks.length) : ∃ (rb ro : Nat) (kd' : Int) (p' l' u' x' : ByteArray) (ds' : List pairs.Pair) (ats' : List trees.Att) (ks' : List Tree) (da : Option Addr) (dc : Nat) (aa : Option Addr) (ac : Nat) (ka : Option Addr) (kc : Nat),
    h.ka = some ⟨rb, ro, none⟩ ∧ kid ks n = .mk kd' p' l' u' x' ds' ats' ks' ∧ NodeIn w B (.mk kd' p' l' u' x' ds' ats' ks') ⟨da, dc, aa, ac, ka, kc⟩ ∧ ∀ W, Below w.heap.size w W →
      (W.cell? ⟨rb, ro + n * 8, none⟩ = some (.int .i64 kd') ∧ W.cell? ⟨rb, ro + n * 8 + 1, none⟩ = some (.string p') ∧ W.cell? ⟨rb, ro + n * 8 + 2, none⟩ = some (.string l') ∧ W.cell? ⟨rb, ro + n * 8 + 3, none⟩ = some (.string u')) ∧
      W.cell? ⟨rb, ro + n * 8 + 4, none⟩ = some (.slice da ds'.length dc) ∧ W.cell? ⟨rb, ro + n * 8 + 5, none⟩ = some (.slice aa ats'.length ac) ∧ W.cell? ⟨rb, ro + n * 8 + 6, none⟩ = some (.slice ka ks'.length kc) ∧ W.cell? ⟨rb, ro + n * 8 + 7, none⟩ = some (.string x') := by
  have hrow := (trees.kids_at hn).row (by show 0 < ks.length; omega)
  obtain ⟨rb, ro, hra, hrlt, hrc⟩ := hrow
  obtain ⟨h', hnode, c0, c1, c2, c3, c4, c5, c6, c7⟩ := hrc n hk
  obtain ⟨kd', p', l', u', x', ds', ats', ks', hkid⟩ : ∃ a b c d e f g i, kid ks n = .mk a b c d e f g i := by
    cases kid ks n
    exact ⟨_, _, _, _, _, _, _, _, rfl⟩
  obtain ⟨da, dc, aa, ac, ka, kc⟩ := h'
  simp only [Tree.kids, hkid, Tree.kind, Tree.pre, Tree.loc, Tree.uri, Tree.text, Tree.ds, Tree.ats] at hnode c0 c1 c2 c3 c4 c5 c6 c7
  refine ⟨rb, ro, kd', p', l', u', x', ds', ats', ks', da, dc, aa, ac, ka, kc, hra, hkid, hnode, fun W hb => ?_⟩
  rw [hb.cell (p := ⟨rb, ro + n * 8, none⟩) hrlt, hb.cell (p := ⟨rb, ro + n * 8 + 1, none⟩) hrlt, hb.cell (p := ⟨rb, ro + n * 8 + 2, none⟩) hrlt, hb.cell (p := ⟨rb, ro + n * 8 + 3, none⟩) hrlt, hb.cell (p := ⟨rb, ro + n * 8 + 4, none⟩) hrlt, hb.cell (p := ⟨rb, ro + n * 8 + 5, none⟩) hrlt, hb.cell (p := ⟨rb, ro + n * 8 + 6, none⟩) hrlt, hb.cell (p := ⟨rb, ro + n * 8 + 7, none⟩) hrlt]
  exact ⟨⟨c0, c1, c2, c3⟩, c4, c5, c6, c7⟩
set_option maxRecDepth 100000 in
set_option maxHeartbeats 8000000 in
theorem spec_nodeAt (B : Nat) (t : Tree) (h : Hdr) (P : List Int) (a : Option Addr) (cap : Nat) (w : World) (hz : nsz t ≤ 1048576) (hn : NodeIn w B t h) (hP : IntsAt w a P) : AtOk 14 t h P a cap w := by
  have HN : Hid (NodeIn w B t h) := hn
  have HZ : Hid (nsz t ≤ 1048576) := hz
  have HP : Hid (IntsAt w a P) := hP
  have hlen := hP.short
  unfold maxLen at hlen
  clear hn hz hP
  unfold AtOk
  have HT0 : Hid (T3 w _ (vals t h) (vals t h)) := T3.new w _ _
  obtain ⟨k0, p0, l0, u0, x0, ds0, ats0, ks0⟩ := t
  obtain ⟨da0, dc0, aa0, ac0, ka0, kc0⟩ := h
  simp only [vals, Tree.kind, Tree.pre, Tree.loc, Tree.uri, Tree.text, Tree.ds, Tree.ats, Tree.kids] at HT0 ⊢
  obtain ⟨T, hT⟩ : ∃ T : Tree, T = .mk k0 p0 l0 u0 x0 ds0 ats0 ks0 := ⟨_, rfl⟩
  obtain ⟨H, hH⟩ : ∃ H : Hdr, H = ⟨da0, dc0, aa0, ac0, ka0, kc0⟩ := ⟨_, rfl⟩
  rw [← hT] at HN HZ ⊢
  rw [← hH] at HN
  go_enter Try.func14, Try.ntmps14
  obtain ⟨W3, hW3⟩ : ∃ W3, ((w.alloc (.cells #[.int .i64 k0, .string p0, .string l0, .string u0, .slice da0 ds0.length dc0, .slice aa0 ats0.length ac0, .slice ka0 ks0.length kc0, .string x0] 28)).alloc (.cells #[.int .i64 0, .string ⟨#[]⟩, .string ⟨#[]⟩, .string ⟨#[]⟩, .slice none 0 0, .slice none 0 0, .slice none 0 0, .string ⟨#[]⟩] 28)).alloc (.cells #[.int .i64 k0, .string p0, .string l0, .string u0, .slice da0 ds0.length dc0, .slice aa0 ats0.length ac0, .slice ka0 ks0.length kc0, .string x0] 28) = W3 := ⟨_, rfl⟩
  rw [hW3] at HT0
  go_wp2_with fail
  clear hW3
  have HR0 : Hid (atT T (P.take 0) = some T ∧ NodeIn w B T H) := ⟨rfl, HN.out⟩
  rw [show some T = some (Tree.mk k0 p0 l0 u0 x0 ds0 ats0 ks0) by rw [hT], hH] at HR0
  rw [show NodeIn w B T = NodeIn w B (Tree.mk k0 p0 l0 u0 x0 ds0 ats0 ks0) by rw [hT]] at HR0
  have HTH : Hid (T = .mk k0 p0 l0 u0 x0 ds0 ats0 ks0) := hT
  clear hT hH
  go_loopw [7] (fun t wr => ∃ (k : Nat) (kd : Int) (p l u x : ByteArray) (ds : List pairs.Pair) (ats : List trees.Att) (ks : List Tree) (da : Option Addr) (dc : Nat) (aa : Option Addr) (ac : Nat) (ka : Option Addr) (kc : Nat), k ≤ P.length ∧ t = .int .i64 k ∧ Hid (atT T (P.take k) = some (.mk kd p l u x ds ats ks) ∧ NodeIn w B (.mk kd p l u x ds ats ks) ⟨da, dc, aa, ac, ka, kc⟩) ∧
    Hid (T3 w wr #[.int .i64 k0, .string p0, .string l0, .string u0, .slice da0 ds0.length dc0, .slice aa0 ats0.length ac0, .slice ka0 ks0.length kc0, .string x0] #[.int .i64 kd, .string p, .string l, .string u, .slice da ds.length dc, .slice aa ats.length ac, .slice ka ks.length kc, .string x])) (fun t _ => P.length - (intOf t).toNat)
  case atStart => exact ⟨0, k0, p0, l0, u0, x0, ds0, ats0, ks0, da0, dc0, aa0, ac0, ka0, kc0, Nat.zero_le _, rfl, HR0, HT0⟩
  case round =>
    obtain ⟨k, kd, p, l, u, x, ds, ats, ks, da, dc, aa, ac, ka, kc, hk, rfl, hR, hT⟩ := hrel
    by_cases hlt : k < P.length
    · obtain ⟨b, off, ha, hblt, hc⟩ := (HP.out.below (Nat.le_refl _) hT.out.bel).row (by omega)
      have hl := hc k hlt
      subst ha
      obtain ⟨i, hi⟩ : ∃ i, int0 P k = i := ⟨_, rfl⟩
      have HI : Hid (int0 P k = i ∧ okI i) := ⟨hi, by rw [← hi]; exact HP.out.fit k hlt⟩
      have hok := HI.out.2
      unfold okI at hok
      rw [hi] at hl
      clear hc hi
      obtain ⟨o0, o1, o2, o3, o4, o5, o6, o7⟩ := box8 hT.out.out
      have hkl : ks.length ≤ 1048576 := by
        have h1 := at_nsz _ _ _ hR.out.1
        have h2 := HZ.out
        rw [nsz] at h1
        have h3 := trees.nszs_eq ks
        omega
      by_cases hin : 0 ≤ i ∧ i < ks.length
      · have hib : inB 0 ((ks.length : Int) - 1) i = true := decide_eq_true ⟨hin.1, by omega⟩
        obtain ⟨n, rfl⟩ : ∃ n : Nat, i = n := ⟨i.toNat, by omega⟩
        have hst := step_yes (t := .mk kd p l u x ds ats ks) (i := (n : Int)) hin
        have hat := at_next hlt hR.out.1
        rw [HI.out.1, hst] at hat
        have hnk : n < ks.length := by omega
        obtain ⟨rb, ro, kd', p', l', u', x', ds', ats', ks', da', dc', aa', ac', ka', kc', hra, hkid, hnode, hcells⟩ := kid_cells hR.out.2 hnk
        obtain ⟨⟨c0, c1, c2, c3⟩, c4, c5, c6, c7⟩ := hcells wr hT.out.bel
        have HAT : Hid (atT T (P.take (k + 1)) = some (.mk kd' p' l' u' x' ds' ats' ks') ∧ NodeIn w B (.mk kd' p' l' u' x' ds' ats' ks') ⟨da', dc', aa', ac', ka', kc'⟩) := ⟨by rw [hat]; show some (kid ks ((n : Int)).toNat) = _; rw [Int.toNat_natCast, hkid], hnode⟩
        have hra' : ka = some ⟨rb, ro, none⟩ := hra
        subst hra'
        obtain ⟨f0, f1, f2, f3, f4, f5, f6, f7⟩ := box_froz hT.out.out
        clear hat hst hnode hcells hkid hra
        have HIB : Hid _ := hib
        clear hib
        go_wp2_with fail
        go_quiet ((go_at_call 53; exact Calls.quiet_of_same (in_is HIB.out _)))
        go_wp2_with fail
        go_region
        all_goals go_wp2
        all_goals go_roundw
        all_goals first
          | (case rel => exact ⟨k + 1, kd', p', l', u', x', ds', ats', ks', da', dc', aa', ac', ka', kc', by omega, by go_num, HAT, T3.put (hT.out.below (below_drewN (Below.refl _ _) _).drew) _ _ _ _ _ _ _ _⟩)
          | (case measure => simp [intOf]; omega)
      · have hib : inB 0 ((ks.length : Int) - 1) i = false := decide_eq_false (fun e => hin ⟨e.1, by omega⟩)
        have HST : Hid (atR T P = (noTree, false)) := by
          have h1 := at_stop hlt hR.out.1 (by rw [HI.out.1]; exact step_no hin)
          show _ = _
          unfold atR
          rw [h1]
        have HIB : Hid _ := hib
        clear hib
        go_wp2_with fail
        go_quiet ((go_at_call 53; exact Calls.quiet_of_same (in_is HIB.out _)))
        clear o0 o1 o2 o3 o4 o5 o6 o7
        obtain ⟨r0, r1, r2, r3, r4, r5, r6, r7⟩ := box8 hT.out.res
        obtain ⟨s0, s1, s2, s3, s4, s5, s6, s7⟩ := box_froz hT.out.res
        go_wp2
        refine bodyPost_ret (by simp [results, Try.results14, go_sem, r0, r1, r2, r3, r4, r5, r6, r7]; try rfl) rfl ?_
        rw [HST.out]
        exact ⟨⟨noHdr, rfl, none_own _ _⟩, pairs.below_set (pairs.below_set (pairs.below_set (pairs.below_set (pairs.below_set (pairs.below_set (pairs.below_set (pairs.below_set (below_drewN hT.out.bel _) (by omega)) (by omega)) (by omega)) (by omega)) (by omega)) (by omega)) (by omega)) (by omega)⟩
    · obtain rfl : k = P.length := by omega
      have HX : Hid (atT T P = some (.mk kd p l u x ds ats ks) ∧ NodeIn w B (.mk kd p l u x ds ats ks) ⟨da, dc, aa, ac, ka, kc⟩) := by have := hR.out; rw [List.take_length] at this; exact this
      have HAR : Hid (atR T P = (.mk kd p l u x ds ats ks, true)) := by show _ = _; unfold atR; rw [HX.out.1]
      have hxz : nsz (.mk kd p l u x ds ats ks) ≤ 1048576 := Nat.le_trans (at_nsz _ _ _ HX.out.1) HZ.out
      have hc := trees.spec_copy B _ _ _ wr (Nat.lt_succ_self _) hxz (HX.out.2.below hT.out.bel)
      unfold CopyOk at hc
      simp only [vals, Tree.kind, Tree.pre, Tree.loc, Tree.uri, Tree.text, Tree.ds, Tree.ats, Tree.kids] at hc
      have HC : Hid _ := hc
      clear hc hxz
      obtain ⟨o0, o1, o2, o3, o4, o5, o6, o7⟩ := box8 hT.out.out
      go_wp2_with fail
      refine Calls.mono HC.out ?_
      rintro e w5 ⟨⟨h', rfl, ho⟩, hb⟩
      obtain ⟨da', dc', aa', ac', ka', kc'⟩ := h'
      have HT5 : Hid _ := hT.out.below hb
      have HO5 : Hid (OwnN w5 (.mk kd p l u x ds ats ks) ⟨da', dc', aa', ac', ka', kc'⟩ (Rng wr w5)) := ho
      have hs5 := hT.out.size
      have HS5 : Hid (wr.heap.size ≤ w5.heap.size) := hb.size
      clear hb ho HC o0 o1 o2 o3 o4 o5 o6 o7
      obtain ⟨r0, r1, r2, r3, r4, r5, r6, r7⟩ := box8 HT5.out.res
      obtain ⟨s0, s1, s2, s3, s4, s5, s6, s7⟩ := box_froz HT5.out.res
      go_wp2
      refine bodyPost_ret (by simp [results, Try.results14, go_sem, r0, r1, r2, r3, r4, r5, r6, r7]; try rfl) rfl ?_
      rw [HAR.out]
      refine ⟨⟨⟨da', dc', aa', ac', ka', kc'⟩, rfl, ?_⟩, pairs.below_set (pairs.below_set (pairs.below_set (pairs.below_set (pairs.below_set (pairs.below_set (pairs.below_set (pairs.below_set HT5.out.bel (by omega)) (by omega)) (by omega)) (by omega)) (by omega)) (by omega)) (by omega)) (by omega)⟩
      have hout : Out (fun b => b = w.heap.size + 1) w5 _ := out8 (F := fun b => b = w.heap.size + 1) (g := w.heap.size + 1) (Out.refl _ w5) rfl (.int .i64 kd) (.string p) (.string l) (.string u) (.slice da' ds.length dc') (.slice aa' ats.length ac') (.slice ka' ks.length kc') (.string x)
      refine (HO5.out.out hout (fun b hb e => by have := hb.1; omega)).sub (trees.Rng.wide (by omega) hout.size)
end Go.Proofs.Ytpejcblmglbjfaa.paths
namespace Go.Proofs.Ytpejcblmglbjfaa.trees
open Go.ChangeShapes Go.WideShapes Go.ChangeAt Go.RowKit
open pairs (Pair at0 PairsAt)
set_option linter.unusedVariables false
theorem made_own {w w' : World} {g : Nat} {L : List Pair} (h : pairs.Made w' g L L.length) (hg : w.heap.size ≤ g) : OwnP w' (some ⟨g, 0, none⟩) L (Rng w w') := fun _ => ⟨g, rfl, ⟨hg, h.lt⟩, h⟩
set_option maxRecDepth 100000 in
set_option maxHeartbeats 2000000 in
theorem clone_decl (a : Option Addr) (L : List Pair) (cap : Nat) (w : World) (hL : PairsAt w a L) (hz : L.length ≤ 1048576) : Calls Try.prog 83 #[.slice a L.length cap] w fun e w' => (∃ a' c', e = .returned (.slice a' L.length c') ∧ OwnP w' a' L (Rng w w')) ∧ Below w.heap.size w w' := by
  have HL : Hid _ := hL
  cases a with
  | none =>
    have e0 : L = [] := by
      cases L with
      | nil => rfl
      | cons p r => obtain ⟨b, off, ha, _⟩ := hL.row (by simp); cases ha
    subst e0
    clear hL
    have hnil : ∀ W, Sem.run Try.prog (binOp BinOp.eql 24 (.slice none 0 cap) (.slice none 0 0)) W = .ok (.bool true) W := fun W => by kernel_rfl
    go_enter Try.func83, Try.ntmps83
    go_wp2
    go_ret
    exact ⟨⟨none, 0, rfl, fun h => absurd h (by simp)⟩, Below.refl _ _⟩
  | some ad =>
    clear hL
    have hnil : ∀ W, Sem.run Try.prog (binOp BinOp.eql 24 (.slice (some ad) L.length cap) (.slice none 0 0)) W = .ok (.bool false) W := fun W => by kernel_rfl
    go_enter Try.func83, Try.ntmps83
    go_wp2_with (at_builtin; refine pairs.app_Decl w.heap.size _ [] L (some ad) cap (pairs.new_Decl w _ (Nat.le_refl _)) (HL.out.below (Nat.le_refl _) ((Below.refl _ _).alloc (Nat.le_refl _) _)) (by simp; omega) (by simp) (by simp) (by rfl) _ _ (by rfl) (by rfl) (by rfl) ?_; rintro v1 w1 ho1 hb1 hv1)
    go_ret
    obtain ⟨g1, c1, rfl, hg1, hm1⟩ := ho1.made hv1
    exact ⟨⟨_, c1, rfl, made_own hm1 hg1⟩, ((Below.refl _ _).alloc (Nat.le_refl _) _).trans hb1⟩
set_option maxRecDepth 100000 in
set_option maxHeartbeats 2000000 in
theorem clone_attr (a : Option Addr) (L : List Att) (cap : Nat) (w : World) (hL : AttsAt w a L) (hz : L.length ≤ 1048576) : Calls Try.prog 84 #[.slice a L.length cap] w fun e w' => (∃ a' c', e = .returned (.slice a' L.length c') ∧ OwnA w' a' L (Rng w w')) ∧ Below w.heap.size w w' := by
  have HL : Hid _ := hL
  cases a with
  | none =>
    have e0 : L = [] := by
      cases L with
      | nil => rfl
      | cons p r => obtain ⟨b, off, ha, _⟩ := hL.row (by simp); cases ha
    subst e0
    clear hL
    have hnil : ∀ W, Sem.run Try.prog (binOp BinOp.eql 25 (.slice none 0 cap) (.slice none 0 0)) W = .ok (.bool true) W := fun W => by kernel_rfl
    go_enter Try.func84, Try.ntmps84
    go_wp2
    go_ret
    exact ⟨⟨none, 0, rfl, fun h => absurd h (by simp)⟩, Below.refl _ _⟩
  | some ad =>
    clear hL
    have hnil : ∀ W, Sem.run Try.prog (binOp BinOp.eql 25 (.slice (some ad) L.length cap) (.slice none 0 0)) W = .ok (.bool false) W := fun W => by kernel_rfl
    go_enter Try.func84, Try.ntmps84
    go_wp2_with (at_builtin; refine app_Attr w.heap.size _ L (some ad) cap (new_Attr w) (HL.out.below (Nat.le_refl _) ((Below.refl _ _).alloc (Nat.le_refl _) _)) (by omega) (by simp) (by simp) (by rfl) _ _ (by rfl) (by rfl) (by rfl) ?_; rintro v1 w1 ho1 hb1 hv1)
    go_ret
    obtain ⟨g1, c1, rfl, hg1, hl1, hm1⟩ := own_madeA ho1 hv1
    exact ⟨⟨_, c1, rfl, fun _ => ⟨g1, rfl, ⟨hg1, hl1⟩, hm1⟩⟩, ((Below.refl _ _).alloc (Nat.le_refl _) _).trans hb1⟩
/-- A row of nodes whose first k are copies of the call's own, the others as they came. -/
structure RowC (w : World) (g n : Nat) (L : List Tree) (H : Nat → Hdr) (G : Nat → Bset) (k : Nat) (cur : Array Value) (ty : TypeId) : Prop where
  blk : w.heap[g]? = some (.cells cur ty (0, 0))
  room : n * 8 ≤ cur.size
  rng : ∀ i, Inc (G i) (fun b => g < b ∧ b < w.heap.size)
  apart : ∀ i j, i ≠ j → Apart (G i) (G j)
  done : ∀ j, j < k → ∃ h, OwnN w (kid L j) h (G j) ∧ ∀ q, q < 8 → cur[j * 8 + q]? = (vals (kid L j) h)[q]?
  todo : ∀ j, k ≤ j → j < n → ∀ q, q < 8 → cur[j * 8 + q]? = (vals (kid L j) (H j))[q]?
theorem RowC.below {w w' : World} {g n : Nat} {L : List Tree} {H : Nat → Hdr} {G : Nat → Bset} {k : Nat} {cur : Array Value} {ty : TypeId} (h : RowC w g n L H G k cur ty) (hb : Below w.heap.size w w') : RowC w' g n L H G k cur ty :=
  ⟨(hb.block g (pairs.lt_heap h.blk)).trans h.blk, h.room, fun i b hb' => ⟨(h.rng i b hb').1, Nat.lt_of_lt_of_le (h.rng i b hb').2 hb.size⟩, h.apart, fun j hj => by
    obtain ⟨h', e1, e2⟩ := h.done j hj
    exact ⟨h', e1.below hb, e2⟩, h.todo⟩
/-- One more copy is stored. -/
theorem RowC.next {w : World} {g n : Nat} {L : List Tree} {H : Nat → Hdr} {G : Nat → Bset} {k : Nat} {cur : Array Value} {ty : TypeId} {F : Bset} {h : Hdr} {t : Tree} (hr : RowC w g n L H G k cur ty) (hk : k < n) (ht : t = kid L k) (hn : OwnN w t h F) (hF : Inc F (fun b => g < b ∧ b < w.heap.size)) (hFa : ∀ i, Apart (G i) F) (hGk : ∀ i, k ≤ i → ∀ b, ¬ G i b) :
    RowC ((((((((w.setCell ⟨g, k * 8, none⟩ (.int .i64 t.kind)).setCell ⟨g, k * 8 + 1, none⟩ (.string t.pre)).setCell ⟨g, k * 8 + 2, none⟩ (.string t.loc)).setCell ⟨g, k * 8 + 3, none⟩ (.string t.uri)).setCell ⟨g, k * 8 + 4, none⟩ (.slice h.da t.ds.length h.dc)).setCell ⟨g, k * 8 + 5, none⟩ (.slice h.aa t.ats.length h.ac)).setCell ⟨g, k * 8 + 6, none⟩ (.slice h.ka t.kids.length h.kc)).setCell ⟨g, k * 8 + 7, none⟩ (.string t.text)) g n L H (fun i => if i = k then F else G i) (k + 1)
      (set8 cur k (.int .i64 t.kind) (.string t.pre) (.string t.loc) (.string t.uri) (.slice h.da t.ds.length h.dc) (.slice h.aa t.ats.length h.ac) (.slice h.ka t.kids.length h.kc) (.string t.text)) ty := by
  have ho : Out (fun b => b = g) w ((((((((w.setCell ⟨g, k * 8, none⟩ (.int .i64 t.kind)).setCell ⟨g, k * 8 + 1, none⟩ (.string t.pre)).setCell ⟨g, k * 8 + 2, none⟩ (.string t.loc)).setCell ⟨g, k * 8 + 3, none⟩ (.string t.uri)).setCell ⟨g, k * 8 + 4, none⟩ (.slice h.da t.ds.length h.dc)).setCell ⟨g, k * 8 + 5, none⟩ (.slice h.aa t.ats.length h.ac)).setCell ⟨g, k * 8 + 6, none⟩ (.slice h.ka t.kids.length h.kc)).setCell ⟨g, k * 8 + 7, none⟩ (.string t.text)) :=
    ((((((((Out.refl _ w).set (F := fun b => b = g) rfl _ _).set (F := fun b => b = g) rfl _ _).set (F := fun b => b = g) rfl _ _).set (F := fun b => b = g) rfl _ _).set (F := fun b => b = g) rfl _ _).set (F := fun b => b = g) rfl _ _).set (F := fun b => b = g) rfl _ _).set (F := fun b => b = g) rfl _ _
  have hrm := hr.room
  have hG : ∀ i, Apart (if i = k then F else G i) (fun b => b = g) := fun i b hb e => by
    by_cases hi : i = k
    · rw [if_pos hi] at hb; have := (hF b hb).1; omega
    · rw [if_neg hi] at hb; have := (hr.rng i b hb).1; omega
  refine ⟨pairs.block_set _ (pairs.block_set _ (pairs.block_set _ (pairs.block_set _ (pairs.block_set _ (pairs.block_set _ (pairs.block_set _ (pairs.block_set _ hr.blk))))))), by simpa [set8] using hrm, fun i b hb => ?_, fun i j hij b hb hc => ?_, fun j hj => ?_, fun j hj hjn q hq => ?_⟩
  · by_cases hi : i = k
    · rw [if_pos hi] at hb; exact ⟨(hF b hb).1, Nat.lt_of_lt_of_le (hF b hb).2 ho.size⟩
    · rw [if_neg hi] at hb; exact ⟨(hr.rng i b hb).1, Nat.lt_of_lt_of_le (hr.rng i b hb).2 ho.size⟩
  · by_cases hi : i = k
    · rw [if_pos hi] at hb
      rw [if_neg (by omega)] at hc
      exact hFa j b hc hb
    · rw [if_neg hi] at hb
      by_cases hj : j = k
      · rw [if_pos hj] at hc; exact hFa i b hb hc
      · rw [if_neg hj] at hc; exact hr.apart i j hij b hb hc
  · by_cases e : j = k
    · subst e ht
      refine ⟨h, ?_, fun q hq => ?_⟩
      · have := hG j
        rw [if_pos rfl] at this ⊢
        exact hn.out ho this
      · exact set8_in cur j _ _ _ _ _ _ _ _ (by omega) q hq
    · obtain ⟨h', e1, e2⟩ := hr.done j (by omega)
      refine ⟨h', ?_, fun q hq => ?_⟩
      · have := hG j
        rw [if_neg e] at this ⊢
        exact e1.out ho this
      · rw [set8_out cur k j _ _ _ _ _ _ _ _ e q hq]
        exact e2 q hq
  · rw [set8_out cur k j _ _ _ _ _ _ _ _ (by omega) q hq]
    exact hr.todo j (by omega) hjn q hq
set_option maxRecDepth 100000 in
set_option maxHeartbeats 2000000 in
theorem clone_node (B : Nat) (a : Option Addr) (L : List Tree) (cap : Nat) (W0 w : World) (hb0 : Below W0.heap.size W0 w) (hL : NodesAt W0 B a L) (hz : L.length ≤ 1048576) : Calls Try.prog 85 #[.slice a L.length cap] w fun e w' => (∃ a' c', e = .returned (.slice a' L.length c') ∧ L.length ≤ c' ∧ (0 < L.length → ∃ g cur ty H, a' = some ⟨g, 0, none⟩ ∧ w.heap.size ≤ g ∧ (∀ i, i < L.length → NodeIn W0 B (kid L i) (H i)) ∧ RowC w' g L.length L H (fun _ _ => False) 0 cur ty)) ∧ Below w.heap.size w w' := by
  have HL : Hid _ := hL
  cases a with
  | none =>
    have e0 : L = [] := by
      cases L with
      | nil => rfl
      | cons p r => obtain ⟨b, off, ha, _⟩ := hL.row (by simp); cases ha
    subst e0
    clear hL
    have hnil : ∀ W, Sem.run Try.prog (binOp BinOp.eql 26 (.slice none 0 cap) (.slice none 0 0)) W = .ok (.bool true) W := fun W => by kernel_rfl
    go_enter Try.func85, Try.ntmps85
    go_wp2
    go_ret
    exact ⟨⟨none, 0, rfl, Nat.le_refl _, fun h => absurd h (by simp)⟩, Below.refl _ _⟩
  | some ad =>
    obtain ⟨P, hP, hcells⟩ : ∃ P : List TH, P.length = L.length ∧ (0 < L.length → ∃ b off, ad = ⟨b, off, none⟩ ∧ b < W0.heap.size ∧ ∀ i, i < P.length → (th0 P i).1 = kid L i ∧ NodeIn W0 B (kid L i) (th0 P i).2 ∧ ∀ j, j < 8 → W0.cell? ⟨b, off + i * 8 + j, none⟩ = (vals (th0 P i).1 (th0 P i).2)[j]?) := by
      by_cases h0 : 0 < L.length
      · obtain ⟨b, off, ha, hlt, hk⟩ := hL.row h0
        obtain ⟨H, hH⟩ : ∃ H : Nat → Hdr, ∀ i, i < L.length → NodeIn W0 B (kid L i) (H i) ∧ ∀ j, j < 8 → W0.cell? ⟨b, off + i * 8 + j, none⟩ = (vals (kid L i) (H i))[j]? := by
          refine ⟨fun i => if h : i < L.length then Classical.choose (hk i h) else ⟨none, 0, none, 0, none, 0⟩, fun i hi => ?_⟩
          simp only [dif_pos hi]
          obtain ⟨h1, c0, c1, c2, c3, c4, c5, c6, c7⟩ := Classical.choose_spec (hk i hi)
          refine ⟨h1, fun j hj => ?_⟩
          rcases (show j = 0 ∨ j = 1 ∨ j = 2 ∨ j = 3 ∨ j = 4 ∨ j = 5 ∨ j = 6 ∨ j = 7 by omega) with rfl | rfl | rfl | rfl | rfl | rfl | rfl | rfl
          · exact c0
          · exact c1
          · exact c2
          · exact c3
          · exact c4
          · exact c5
          · exact c6
          · exact c7
        have hget : ∀ i, i < L.length → th0 ((List.range L.length).map fun i => (kid L i, H i)) i = (kid L i, H i) := fun i hi => by
          unfold th0
          rw [List.getD_eq_getElem?_getD, List.getElem?_map, List.getElem?_range hi]
          rfl
        refine ⟨(List.range L.length).map fun i => (kid L i, H i), by simp, fun _ => ⟨b, off, Option.some.inj ha, hlt, fun i hi => ?_⟩⟩
        rw [List.length_map, List.length_range] at hi
        rw [hget i hi]
        exact ⟨rfl, (hH i hi).1, (hH i hi).2⟩
      · exact ⟨[], by simp; omega, fun h => absurd h h0⟩
    obtain ⟨i0, hi, hz0, hz1, hz2⟩ := info_parts infoN
    have HP : Hid (P.length = L.length) := hP
    have HB0 : Hid _ := hb0
    have HC : Hid (0 < L.length → ∃ b off, ad = ⟨b, off, none⟩ ∧ b < W0.heap.size ∧ ∀ i, i < P.length → (th0 P i).1 = kid L i ∧ NodeIn W0 B (kid L i) (th0 P i).2 ∧ ∀ j, j < 8 → W0.cell? ⟨b, off + i * 8 + j, none⟩ = (vals (th0 P i).1 (th0 P i).2)[j]?) := hcells
    have HNW : Hid (∀ o, ∀ a0, some ad = some a0 → ∀ j u, (cellsN P)[j]? = some u → (w.alloc o).cell? (a0.add j) = some u) := fun o a0 e j u hu => by
      obtain rfl : ad = a0 := by injection e
      have hj : j < P.length * 8 := by
        have := (List.getElem?_eq_some_iff.1 hu).1
        rwa [cellsN_len] at this
      obtain ⟨b, off, rfl, hlt, hk⟩ := HC.out (by have := HP.out; omega)
      have h1 := cellsN_here (fun i hi => (hk i hi).2.2) j u hu
      rw [Addr.add_lit] at h1 ⊢
      exact ((HB0.out.alloc HB0.out.size o).cell (p := ⟨b, off + j, none⟩) hlt).trans h1
    have HLN : Hid ((cellsN P).length = L.length * 8) := by show _ = _; rw [cellsN_len, hP]
    clear hL hP hcells hb0
    have hnil : ∀ W, Sem.run Try.prog (binOp BinOp.eql 26 (.slice (some ad) L.length cap) (.slice none 0 0)) W = .ok (.bool false) W := fun W => by kernel_rfl
    go_enter Try.func85, Try.ntmps85
    go_wp2_with (at_builtin; refine app_new w.heap.size _ 26 28 i0 _ 8 144 Try.underlying26 hi hz0 hz1 hz2 rfl (by decide) (by decide) L.length (cellsN P) (some ad) cap (World.ownsRow_made w #[] 0 (Nat.le_refl _) (by decide) (by decide)) HLN.out (HNW.out _) (fun e => by cases e) (cellsN_one P) (by omega) (by simp) (by simp) (by rfl) _ _ (by rfl) (by rfl) (by rfl) ?_; rintro v1 w1 ho1 hb1 hv1)
    go_ret
    refine ⟨?_, ((Below.refl _ _).alloc (Nat.le_refl _) _).trans hb1⟩
    have hsl : ∃ a' c', v1 = .slice a' L.length c' ∧ L.length ≤ c' := by
      rcases ho1.2 with ⟨rfl, _⟩ | ⟨g, cap', cur, rfl, _, _, h2, _⟩
      · exact absurd rfl hv1
      · exact ⟨_, _, rfl, h2⟩
    obtain ⟨a', c', rfl, hcap⟩ := hsl
    refine ⟨a', c', rfl, hcap, fun h0 => ?_⟩
    obtain ⟨g, cp, cur, hv, hB, hg, hr, hx⟩ := ownsRow_cells ho1 h0
    obtain ⟨b, off, rfl, hlt, hk⟩ := HC.out h0
    have hPl := HP.out
    refine ⟨g, cur, _, fun i => (th0 P i).2, by injection hv, hB, fun i hi => (hk i (by omega)).2.1, hg, hr, fun i b hb => hb.elim, fun i j _ b hb _ => hb, fun j hj => absurd hj (by omega), fun j _ hj q hq => ?_⟩
    rw [hx (j * 8 + q) (by omega), cellsN_at P j q (by omega) hq, (hk j (by omega)).1]
theorem RowC.set_other {w : World} {g n b o : Nat} {u : Value} {L : List Tree} {H : Nat → Hdr} {G : Nat → Bset} {k : Nat} {cur : Array Value} {ty : TypeId} (h : RowC w g n L H G k cur ty) (hb : b < g) : RowC (w.setCell ⟨b, o, none⟩ u) g n L H G k cur ty := by
  have ho : Out (fun x => x = b) w (w.setCell ⟨b, o, none⟩ u) := (Out.refl _ w).set (F := fun x => x = b) rfl o u
  exact ⟨(ho.block g (pairs.lt_heap h.blk) (fun e => by omega)).trans h.blk, h.room, fun i c hc => ⟨(h.rng i c hc).1, Nat.lt_of_lt_of_le (h.rng i c hc).2 ho.size⟩, h.apart, fun j hj => by
    obtain ⟨h', e1, e2⟩ := h.done j hj
    exact ⟨h', e1.out ho (fun c hc e => by have := (h.rng j c hc).1; omega), e2⟩, h.todo⟩
theorem RowC.own {w : World} {g : Nat} {L : List Tree} {H : Nat → Hdr} {G : Nat → Bset} {cur : Array Value} {ty : TypeId} (h : RowC w g L.length L H G L.length cur ty) : OwnL w (some ⟨g, 0, none⟩) L (fun b => g ≤ b ∧ b < w.heap.size) := fun _ =>
  ⟨g, cur, ty, G, rfl, ⟨Nat.le_refl _, pairs.lt_heap h.blk⟩, h.blk, h.room, fun i b hb => ⟨Nat.le_of_lt (h.rng i b hb).1, (h.rng i b hb).2⟩, fun i hb => by have := (h.rng i _ hb).1; omega, h.apart, fun i hi => h.done i hi⟩
theorem RowC.cells {w : World} {g n : Nat} {L : List Tree} {H : Nat → Hdr} {G : Nat → Bset} {k : Nat} {cur : Array Value} {ty : TypeId} (h : RowC w g n L H G k cur ty) (hk : k < n) : w.cell? ⟨g, k * 8, none⟩ = some (.int .i64 (kid L k).kind) ∧ w.cell? ⟨g, k * 8 + 1, none⟩ = some (.string (kid L k).pre) ∧ w.cell? ⟨g, k * 8 + 2, none⟩ = some (.string (kid L k).loc) ∧ w.cell? ⟨g, k * 8 + 3, none⟩ = some (.string (kid L k).uri) ∧ w.cell? ⟨g, k * 8 + 4, none⟩ = some (.slice (H k).da (kid L k).ds.length (H k).dc) ∧ w.cell? ⟨g, k * 8 + 5, none⟩ = some (.slice (H k).aa (kid L k).ats.length (H k).ac) ∧ w.cell? ⟨g, k * 8 + 6, none⟩ = some (.slice (H k).ka (kid L k).kids.length (H k).kc) ∧ w.cell? ⟨g, k * 8 + 7, none⟩ = some (.string (kid L k).text) := by
  have e : ∀ q, q < 8 → w.cell? ⟨g, k * 8 + q, none⟩ = (vals (kid L k) (H k))[q]? := fun q hq => (show w.cell? ⟨g, k * 8 + q, none⟩ = cur[k * 8 + q]? by simp [World.cell?, h.blk]).trans (h.todo k (Nat.le_refl _) hk q hq)
  exact ⟨e 0 (by omega), e 1 (by omega), e 2 (by omega), e 3 (by omega), e 4 (by omega), e 5 (by omega), e 6 (by omega), e 7 (by omega)⟩
theorem RowC.froz {w : World} {g n : Nat} {L : List Tree} {H : Nat → Hdr} {G : Nat → Bset} {k : Nat} {cur : Array Value} {ty : TypeId} (h : RowC w g n L H G k cur ty) (i : Nat) : w.frozen? ⟨g, i, none⟩ = false := by simp [World.frozen?, h.blk]
/-- The two boxes of a copy. -/
structure T2 (w W : World) (O : Array Value) : Prop where
  par : W.heap[w.heap.size]? = some (.cells O 28 (0, 0))
  res : W.heap[w.heap.size + 1]? = some (.cells #[.int .i64 0, .string ⟨#[]⟩, .string ⟨#[]⟩, .string ⟨#[]⟩, .slice none 0 0, .slice none 0 0, .slice none 0 0, .string ⟨#[]⟩] 28 (0, 0))
  bel : Below w.heap.size w W
theorem T2.size {w W : World} {O : Array Value} (h : T2 w W O) : w.heap.size + 2 ≤ W.heap.size := pairs.lt_heap h.res
theorem T2.new (w : World) (O : Array Value) : T2 w ((w.alloc (.cells O 28)).alloc (.cells #[.int .i64 0, .string ⟨#[]⟩, .string ⟨#[]⟩, .string ⟨#[]⟩, .slice none 0 0, .slice none 0 0, .slice none 0 0, .string ⟨#[]⟩] 28)) O := by
  refine ⟨?_, ?_, ((Below.refl _ w).alloc (Nat.le_refl _) _).alloc (by simp) _⟩
  · exact (Below.heap_alloc _ _ _ (by simp)).trans (heap_alloc_new w _)
  · have := heap_alloc_new (w.alloc (.cells O 28)) (.cells #[.int .i64 0, .string ⟨#[]⟩, .string ⟨#[]⟩, .string ⟨#[]⟩, .slice none 0 0, .slice none 0 0, .slice none 0 0, .string ⟨#[]⟩] 28)
    rw [World.size_alloc] at this
    exact this
theorem T2.below {w W W' : World} {O : Array Value} (h : T2 w W O) (hb : Below W.heap.size W W') : T2 w W' O :=
  ⟨(hb.block _ (pairs.lt_heap h.par)).trans h.par, (hb.block _ (pairs.lt_heap h.res)).trans h.res, h.bel.trans (hb.mono h.bel.size)⟩
theorem T2.set {w W : World} {O : Array Value} (h : T2 w W O) (i : Nat) (u : Value) : T2 w (W.setCell ⟨w.heap.size, i, none⟩ u) (O.setIfInBounds i u) :=
  ⟨pairs.block_set _ h.par, (Below.heap_setCell _ ⟨w.heap.size, i, none⟩ _ _ (by show w.heap.size + 1 ≠ w.heap.size; omega)).trans h.res, h.bel.setCell (p := ⟨w.heap.size, i, none⟩) (Nat.le_refl _) _⟩
theorem T2.out {w W W' : World} {O : Array Value} {F : Bset} (h : T2 w W O) (ho : Out F W W') (hF : ∀ b, F b → w.heap.size + 2 ≤ b) : T2 w W' O :=
  ⟨(ho.block _ (pairs.lt_heap h.par) (fun hf => by have := hF _ hf; omega)).trans h.par, (ho.block _ (pairs.lt_heap h.res) (fun hf => by have := hF _ hf; omega)).trans h.res, ho.below h.bel (fun b hb => by have := hF b hb; omega) h.bel.size⟩
theorem copy_end {w W W' : World} {t : Tree} {h : Hdr} {s1 s2 : Nat} (hf : t.fits ∧ t.kids.length ≤ h.kc) (hp : PFit t.ds ∧ AFit t.ats) (o1 : OwnP W h.da t.ds (fun b => w.heap.size + 2 ≤ b ∧ b < s1)) (o2 : OwnA W h.aa t.ats (fun b => s1 ≤ b ∧ b < s2)) (o3 : OwnL W h.ka t.kids (fun b => s2 ≤ b ∧ b < W.heap.size)) (l1 : w.heap.size + 2 ≤ s1) (l2 : s1 ≤ s2) (l3 : s2 ≤ W.heap.size) (ho : Out (fun b => b = w.heap.size + 1) W W') : OwnN W' t h (Rng w W') := by
  have hs := ho.size
  exact PartsN.node (FD := fun b => w.heap.size + 2 ≤ b ∧ b < s1) (FA := fun b => s1 ≤ b ∧ b < s2) (FK := fun b => s2 ≤ b ∧ b < W.heap.size) ⟨hf, hp.1, hp.2, fun b hb => ⟨by have := hb.1; omega, by have := hb.2; omega⟩, fun b hb => ⟨by have := hb.1; omega, by have := hb.2; omega⟩, fun b hb => ⟨by have := hb.1; omega, by have := hb.2; omega⟩, fun b hb hc => by have := hb.2; have := hc.1; omega, fun b hb hc => by have := hb.2; have := hc.1; omega, fun b hb hc => by have := hb.2; have := hc.1; omega,
    o1.out ho (fun b hb e => by have := hb.1; omega), o2.out ho (fun b hb e => by have := hb.1; omega), o3.out ho (fun b hb e => by have := hb.1; omega)⟩
theorem out8 {w : World} {g : Nat} {u0 u1 u2 u3 u4 u5 u6 u7 : Value} : Out (fun b => b = g) w ((((((((w.setCell ⟨g, 0, none⟩ u0).setCell ⟨g, 1, none⟩ u1).setCell ⟨g, 2, none⟩ u2).setCell ⟨g, 3, none⟩ u3).setCell ⟨g, 4, none⟩ u4).setCell ⟨g, 5, none⟩ u5).setCell ⟨g, 6, none⟩ u6).setCell ⟨g, 7, none⟩ u7) :=
  ((((((((Out.refl _ w).set (F := fun b => b = g) rfl _ _).set (F := fun b => b = g) rfl _ _).set (F := fun b => b = g) rfl _ _).set (F := fun b => b = g) rfl _ _).set (F := fun b => b = g) rfl _ _).set (F := fun b => b = g) rfl _ _).set (F := fun b => b = g) rfl _ _).set (F := fun b => b = g) rfl _ _
set_option maxRecDepth 100000 in
set_option maxHeartbeats 8000000 in
theorem copy_node_of (n B : Nat) (ih : ∀ t h w, tsize t < n → nsz t ≤ 1048576 → NodeIn w B t h → CopyOk 52 t h w)
    (t : Tree) (h : Hdr) (w : World) (ht : tsize t ≤ n) (hz : nsz t ≤ 1048576) (hn : NodeIn w B t h) : CopyOk 52 t h w := by
  have hkt := tsize_kid t
  obtain ⟨k, p, l, u, x, ds, ats, ks⟩ := t
  obtain ⟨da, dc, aa, ac, ka, kc⟩ := h
  have HD : Hid (PairsAt w da ds) := hn.decls
  have HA : Hid (AttsAt w aa ats) := hn.atts
  have HK : Hid (NodesAt w B ka ks) := kids_at hn
  have HFT : Hid (Tree.fits (.mk k p l u x ds ats ks)) := hn.fit
  rw [nsz] at hz
  have HZD : Hid (ds.length ≤ 1048576) := by show _ ≤ _; omega
  have HZA : Hid (ats.length ≤ 1048576) := by unfold smallA at hz; show _ ≤ _; omega
  have HZK : Hid (nszs ks ≤ 1048576) := by show _ ≤ _; omega
  have HZL : Hid (ks.length ≤ 1048576) := by have := nszs_eq ks; have := HZK.out; show _ ≤ _; omega
  have hkl : ks.length ≤ 1048576 := HZL.out
  have HPF : Hid (PFit ds ∧ AFit ats) := ⟨⟨hn.decls.short, hn.decls.texts⟩, hn.atts.short, hn.atts.texts⟩
  have HKT : Hid (∀ i, i < ks.length → tsize (kid ks i) < n) := fun i hi => Nat.lt_of_lt_of_le (hkt i hi) ht
  have HIH : Hid _ := ih
  unfold CopyOk
  simp only [vals, Tree.kind, Tree.pre, Tree.loc, Tree.uri, Tree.text, Tree.ds, Tree.ats, Tree.kids]
  clear ih hn ht hz hkt
  go_enter Try.func52, Try.ntmps52
  have HT0 : Hid _ := T2.new w #[.int .i64 k, .string p, .string l, .string u, .slice da ds.length dc, .slice aa ats.length ac, .slice ka ks.length kc, .string x]
  go_wp2_with fail
  refine (clone_decl da ds dc _ (HD.out.below (Nat.le_refl _) HT0.out.bel) HZD.out).mono ?_
  rintro e w1 ⟨⟨a1, c1, rfl, hd⟩, hb⟩
  have HT1 : Hid _ := HT0.out.below hb
  have HG1 : Hid (OwnP w1 a1 ds (fun b => w.heap.size + 2 ≤ b ∧ b < w1.heap.size)) := OwnP.sub hd (fun b hb' => ⟨Nat.le_trans HT0.out.size hb'.1, hb'.2⟩)
  have HT2 : Hid _ := HT1.out.set 4 (.slice a1 ds.length c1)
  have HG2 : Hid (OwnP (w1.setCell ⟨w.heap.size, 4, none⟩ (.slice a1 ds.length c1)) a1 ds (fun b => w.heap.size + 2 ≤ b ∧ b < w1.heap.size)) := OwnP.out HG1.out (G := fun b => b = w.heap.size) ((Out.refl _ _).set (F := fun b => b = w.heap.size) rfl _ _) (fun b hb' e => by have := hb'.1; omega)
  clear hb hd
  obtain ⟨b0, b1, b2, b3, b4, b5, b6, b7⟩ := box8 HT1.out.par
  obtain ⟨f0, f1, f2, f3, f4, f5, f6, f7⟩ := box_froz HT1.out.par
  go_wp2_with fail
  refine (clone_attr aa ats ac _ (HA.out.below (Nat.le_refl _) HT2.out.bel) HZA.out).mono ?_
  rintro e w2 ⟨⟨a2, c2, rfl, hd⟩, hb⟩
  have HT3 : Hid _ := HT2.out.below hb
  have HS2 : Hid (w1.heap.size ≤ w2.heap.size) := by have := hb.size; rw [size_setCell] at this; exact this
  have HA1 : Hid (OwnA w2 a2 ats (fun b => w1.heap.size ≤ b ∧ b < w2.heap.size)) := OwnA.sub hd (fun b hb' => ⟨by have := hb'.1; rw [size_setCell] at this; exact this, hb'.2⟩)
  have HG3 : Hid (OwnP w2 a1 ds (fun b => w.heap.size + 2 ≤ b ∧ b < w1.heap.size)) := OwnP.out HG2.out (G := fun _ => False) (Out.of_below hb) (none_apart _)
  have HT4 : Hid _ := HT3.out.set 5 (.slice a2 ats.length c2)
  have HG4 : Hid (OwnP (w2.setCell ⟨w.heap.size, 5, none⟩ (.slice a2 ats.length c2)) a1 ds (fun b => w.heap.size + 2 ≤ b ∧ b < w1.heap.size)) := OwnP.out HG3.out (G := fun b => b = w.heap.size) ((Out.refl _ _).set (F := fun b => b = w.heap.size) rfl _ _) (fun b hb' e => by have := hb'.1; omega)
  have HA2 : Hid (OwnA (w2.setCell ⟨w.heap.size, 5, none⟩ (.slice a2 ats.length c2)) a2 ats (fun b => w1.heap.size ≤ b ∧ b < w2.heap.size)) := OwnA.out HA1.out (G := fun b => b = w.heap.size) ((Out.refl _ _).set (F := fun b => b = w.heap.size) rfl _ _) (fun b hb' e => by have := hb'.1; have := HT1.out.size; omega)
  clear hb hd b0 b1 b2 b3 b4 b5 b6 b7 f0 f1 f2 f3 f4 f5 f6 f7
  obtain ⟨b0, b1, b2, b3, b4, b5, b6, b7⟩ := box8 HT3.out.par
  obtain ⟨f0, f1, f2, f3, f4, f5, f6, f7⟩ := box_froz HT3.out.par
  go_wp2_with fail
  refine (clone_node B ka ks kc w _ HT4.out.bel HK.out HZL.out).mono ?_
  rintro e w3 ⟨⟨a3, c3, rfl, hc3, hd⟩, hb⟩
  have HC3 : Hid (ks.length ≤ c3) := hc3
  clear hc3
  have HT5 : Hid _ := HT4.out.below hb
  have HS3 : Hid (w2.heap.size ≤ w3.heap.size) := by have := hb.size; rw [size_setCell] at this; exact this
  have HG5 : Hid (OwnP w3 a1 ds (fun b => w.heap.size + 2 ≤ b ∧ b < w1.heap.size)) := OwnP.out HG4.out (G := fun _ => False) (Out.of_below hb) (none_apart _)
  have HA3 : Hid (OwnA w3 a2 ats (fun b => w1.heap.size ≤ b ∧ b < w2.heap.size)) := OwnA.out HA2.out (G := fun _ => False) (Out.of_below hb) (none_apart _)
  have HT6 : Hid _ := HT5.out.set 6 (.slice a3 ks.length c3)
  clear b0 b1 b2 b3 b4 b5 b6 b7 f0 f1 f2 f3 f4 f5 f6 f7
  obtain ⟨b0, b1, b2, b3, b4, b5, b6, b7⟩ := box8 HT5.out.par
  obtain ⟨f0, f1, f2, f3, f4, f5, f6, f7⟩ := box_froz HT5.out.par
  obtain ⟨W4, hW4⟩ : ∃ W4, w3.setCell ⟨w.heap.size, 6, none⟩ (.slice a3 ks.length c3) = W4 := ⟨_, rfl⟩
  by_cases h0 : 0 < ks.length
  · obtain ⟨g, cur, ty, H, rfl, hg, hH, hrow⟩ := hd h0
    rw [size_setCell] at hg
    have hgs : g < w3.heap.size := pairs.lt_heap hrow.blk
    have HR4 : Hid (RowC W4 g ks.length ks H (fun _ _ => False) 0 cur ty) := hW4 ▸ hrow.set_other (by have := HT4.out.size; rw [size_setCell] at this; omega)
    have HGG : Hid (w2.heap.size ≤ g) := hg
    have HH : Hid (∀ i, i < ks.length → NodeIn w B (kid ks i) (H i)) := hH
    rw [hW4] at HT6
    have HG6 : Hid (OwnP W4 a1 ds (fun b => w.heap.size + 2 ≤ b ∧ b < w1.heap.size)) := hW4 ▸ OwnP.out HG5.out (G := fun b => b = w.heap.size) ((Out.refl _ _).set (F := fun b => b = w.heap.size) rfl _ _) (fun b hb' e => by have := hb'.1; omega)
    have HA4 : Hid (OwnA W4 a2 ats (fun b => w1.heap.size ≤ b ∧ b < w2.heap.size)) := hW4 ▸ OwnA.out HA3.out (G := fun b => b = w.heap.size) ((Out.refl _ _).set (F := fun b => b = w.heap.size) rfl _ _) (fun b hb' e => by have := hb'.1; have := HT1.out.size; omega)
    have HZ2 : Hid (w.heap.size + 2 ≤ w1.heap.size) := HT1.out.size
    have q6 := (box8 HT6.out.par).2.2.2.2.2.2.1
    clear hd hb hH hrow hg hgs
    go_wp2_with fail
    go_loopw [20] (fun t wr => ∃ (i : Nat) (cu : Array Value) (G : Nat → Bset), i ≤ ks.length ∧ t = .int .i64 i ∧ Hid (RowC wr g ks.length ks H G i cu ty) ∧ Hid (∀ j, i ≤ j → ∀ b, ¬ G j b) ∧ Hid (Out (fun b => b = g) W4 wr)) (fun t _ => ks.length - (intOf t).toNat)
    case atStart => exact ⟨0, cur, fun _ _ => False, Nat.zero_le _, rfl, HR4, fun j _ b hb => hb, Out.refl _ _⟩
    case round =>
      obtain ⟨i, cu, G, hi, rfl, hR, hGe, hO⟩ := hrel
      have HTr : Hid _ := HT6.out.out hO.out (fun b hb => by have := HGG.out; have := HZ2.out; have := HS2.out; omega)
      by_cases hlt : i < ks.length
      · obtain ⟨z0, z1, z2, z3, z4, z5, z6, z7⟩ := hR.out.cells hlt
        have hE := fun W (hW : Below wr.heap.size wr W) => HIH.out (kid ks i) (H i) W (HKT.out i hlt) (by have h1 := nsz_kid ks i hlt; have h2 := HZK.out; omega) ((HH.out i hlt).below (HTr.out.bel.trans (hW.mono HTr.out.bel.size)))
        unfold CopyOk at hE
        unfold vals at hE
        obtain ⟨y, hy⟩ : ∃ y, y = kid ks i := ⟨_, rfl⟩
        have HY : Hid _ := hy
        rw [← hy] at z0 z1 z2 z3 z4 z5 z6 z7 hE
        have HE : Hid (∀ W, Below wr.heap.size wr W → _) := hE
        clear hE hy q6
        go_wp2_with fail
        obtain ⟨o8, ho8⟩ : ∃ o8, Obj.cells #[.int .i64 y.kind, .string y.pre, .string y.loc, .string y.uri, .slice (H i).da y.ds.length (H i).dc, .slice (H i).aa y.ats.length (H i).ac, .slice (H i).ka y.kids.length (H i).kc, .string y.text] 28 = o8 := ⟨_, rfl⟩
        have HBo : Hid (Below wr.heap.size wr (wr.alloc o8)) := (Below.refl _ _).alloc (Nat.le_refl _) o8
        have x8 : (wr.alloc o8).heap[wr.heap.size]? = some o8 := heap_alloc_new wr o8
        rw [← ho8] at x8
        obtain ⟨x0, x1, x2, x3, x4, x5, x6, x7⟩ := box8 x8
        rw [ho8] at x0 x1 x2 x3 x4 x5 x6 x7
        have q6 := (box8 (HTr.out.below HBo.out).par).2.2.2.2.2.2.1
        have HBd : Hid (Below wr.heap.size wr (wr.alloc o8).drew) := HBo.out.drew
        have HKG : Hid (∀ j, Inc (G j) (fun b => g < b ∧ b < wr.heap.size)) := hR.out.rng
        have hgw : g < wr.heap.size := pairs.lt_heap hR.out.blk
        rw [ho8]
        clear z0 z1 z2 z3 z4 z5 z6 z7 x8
        go_region_with (go_at_call 52; refine Calls.mono (HE.out _ HBd.out) ?_; rintro e w6 ⟨⟨h', rfl, hn6⟩, hb6⟩; have HB6 : Hid (Below wr.heap.size wr w6) := HBd.out.trans (hb6.mono HBd.out.size); have HN6 : Hid (OwnN w6 y h' (fun b => wr.heap.size ≤ b ∧ b < w6.heap.size)) := hn6.sub (fun b hb => ⟨Nat.le_trans HBd.out.size hb.1, hb.2⟩); have HR6 : Hid _ := hR.out.below HB6.out; clear hn6 hb6; obtain ⟨z0, z1, z2, z3, z4, z5, z6, z7⟩ := HR6.out.cells hlt; have fz := HR6.out.froz; have q6' := (box8 (HTr.out.below HB6.out).par).2.2.2.2.2.2.1)
        all_goals go_wp2
        all_goals refine ⟨⟨i + 1, _, fun j => if j = i then (fun b => wr.heap.size ≤ b ∧ b < w6.heap.size) else G j, by omega, by go_num, HR6.out.next hlt HY.out HN6.out (fun b hb => ⟨Nat.lt_of_lt_of_le hgw hb.1, hb.2⟩) (fun j b hb hc => by have := (HKG.out j b hb).2; have := hc.1; omega) (fun j hj b hb => hGe.out j hj b hb), ?_, ?_⟩, ?_⟩
        all_goals first
          | (show ∀ j, i + 1 ≤ j → ∀ b, ¬ _; intro j hj b hb; rw [if_neg (by omega)] at hb; exact hGe.out j (by omega) b hb)
          | exact ((((((((hO.out.trans (Out.of_below HB6.out)).set (F := fun b => b = g) rfl _ _).set (F := fun b => b = g) rfl _ _).set (F := fun b => b = g) rfl _ _).set (F := fun b => b = g) rfl _ _).set (F := fun b => b = g) rfl _ _).set (F := fun b => b = g) rfl _ _).set (F := fun b => b = g) rfl _ _).set (F := fun b => b = g) rfl _ _
          | (simp [intOf]; omega)
      · obtain rfl : i = ks.length := by omega
        clear q6
        obtain ⟨b0, b1, b2, b3, b4, b5, b6, b7⟩ := box8 HTr.out.par
        obtain ⟨f0, f1, f2, f3, f4, f5, f6, f7⟩ := box_froz HTr.out.res
        obtain ⟨r0, r1, r2, r3, r4, r5, r6, r7⟩ := box8 HTr.out.res
        go_wp2_with fail
        refine bodyPost_ret (by simp [results, Try.results52, go_sem, r0, r1, r2, r3, r4, r5, r6, r7]; try rfl) rfl ?_
        refine ⟨⟨⟨a1, c1, a2, c2, some ⟨g, 0, none⟩, c3⟩, rfl, ?_⟩, out8.below HTr.out.bel (fun b e => by omega) HTr.out.bel.size⟩
        have hgw : g < wr.heap.size := pairs.lt_heap hR.out.blk
        exact copy_end (W := wr) (s1 := w1.heap.size) (s2 := w2.heap.size) ⟨HFT.out, HC3.out⟩ HPF.out (HG6.out.out hO.out (fun b hb e => by have := hb.2; have := HS2.out; have := HGG.out; omega)) (HA4.out.out hO.out (fun b hb e => by have := hb.2; have := HGG.out; omega)) (hR.out.own.sub (fun b hb => ⟨Nat.le_trans HGG.out hb.1, hb.2⟩)) HZ2.out HS2.out (by have := HGG.out; omega) out8
  · have HZ2 : Hid (w.heap.size + 2 ≤ w1.heap.size) := HT1.out.size
    rw [hW4] at HT6
    have HS4 : Hid (W4.heap.size = w3.heap.size) := by rw [← hW4]; exact size_setCell _ _ _ _
    have HG6 : Hid (OwnP W4 a1 ds (fun b => w.heap.size + 2 ≤ b ∧ b < w1.heap.size)) := hW4 ▸ OwnP.out HG5.out (G := fun b => b = w.heap.size) ((Out.refl _ _).set (F := fun b => b = w.heap.size) rfl _ _) (fun b hb' e => by have := hb'.1; omega)
    have HA4 : Hid (OwnA W4 a2 ats (fun b => w1.heap.size ≤ b ∧ b < w2.heap.size)) := hW4 ▸ OwnA.out HA3.out (G := fun b => b = w.heap.size) ((Out.refl _ _).set (F := fun b => b = w.heap.size) rfl _ _) (fun b hb' e => by have := hb'.1; have := HT1.out.size; omega)
    have q6 := (box8 HT6.out.par).2.2.2.2.2.2.1
    clear hd hb
    go_wp2_with fail
    go_loopw [20] (fun t wr => t = .int .i64 0 ∧ wr = W4) (fun t _ => 0)
    case atStart => exact ⟨rfl, rfl⟩
    case round =>
      obtain ⟨rfl, rfl⟩ := hrel
      clear q6 b0 b1 b2 b3 b4 b5 b6 b7 f0 f1 f2 f3 f4 f5 f6 f7
      obtain ⟨b0, b1, b2, b3, b4, b5, b6, b7⟩ := box8 HT6.out.par
      obtain ⟨f0, f1, f2, f3, f4, f5, f6, f7⟩ := box_froz HT6.out.res
      obtain ⟨r0, r1, r2, r3, r4, r5, r6, r7⟩ := box8 HT6.out.res
      have hl0 : ((ks.length : Nat) : Int) = 0 := by omega
      go_wp2_with fail
      refine bodyPost_ret (by simp [results, Try.results52, go_sem, r0, r1, r2, r3, r4, r5, r6, r7]; try rfl) rfl ?_
      refine ⟨⟨⟨a1, c1, a2, c2, a3, c3⟩, rfl, ?_⟩, out8.below HT6.out.bel (fun b e => by omega) HT6.out.bel.size⟩
      exact copy_end (s1 := w1.heap.size) (s2 := w2.heap.size) ⟨HFT.out, HC3.out⟩ HPF.out HG6.out HA4.out (fun h => absurd h h0) HZ2.out HS2.out (by have := HS3.out; have := HS4.out; omega) out8
theorem copy_node (B : Nat) : ∀ n, ∀ (t : Tree) (h : Hdr) (w : World), tsize t < n → nsz t ≤ 1048576 → NodeIn w B t h → CopyOk 52 t h w
  | 0, t, h, w, ht, _, _ => by omega
  | n + 1, t, h, w, ht, hz, hn => copy_node_of n B (fun t h w ht hz hn => copy_node B n t h w ht hz hn) t h w (by omega) hz hn
end Go.Proofs.Ytpejcblmglbjfaa.trees
namespace Go.Proofs.Ytpejcblmglbjfaa.paths
open Go.ChangeShapes Go.WideShapes Go.ChangeAt Go.RowKit
open trees (Tree Hdr vals noTree kid nsz nszs tsize ksize NodeIn NodesAt OwnN Rng Out box8 box_froz CopyOk)
open ints (IntsAt int0 okI)
set_option linter.unusedVariables false
/-- A node's eight cells. -/
def Cells8 (w : World) (b off : Nat) (t : Tree) (h : Hdr) : Prop := ∀ j, j < 8 → w.cell? ⟨b, off + j, none⟩ = (vals t h)[j]?
/-- Where a path leads from a node whose cells lie at an address. -/
def Place (w : World) : Tree → Hdr → Nat → Nat → List Int → Tree → Hdr → Nat → Nat → Prop
  | t, h, b, off, [], x, hx, b', off' => x = t ∧ hx = h ∧ b' = b ∧ off' = off
  | t, h, b, off, i :: p, x, hx, b', off' => (0 ≤ i ∧ i < t.kids.length) ∧ ∃ rb ro hk, h.ka = some ⟨rb, ro, none⟩ ∧ rb < w.heap.size ∧ Cells8 w rb (ro + i.toNat * 8) (kid t.kids i.toNat) hk ∧ Place w (kid t.kids i.toNat) hk rb (ro + i.toNat * 8) p x hx b' off'
theorem place_snoc {w : World} {i : Int} {x : Tree} {hx hk : Hdr} {b' off' rb ro : Nat} (hi : 0 ≤ i ∧ i < x.kids.length) (ha : hx.ka = some ⟨rb, ro, none⟩) (hlt : rb < w.heap.size) (hc : Cells8 w rb (ro + i.toNat * 8) (kid x.kids i.toNat) hk) :
    ∀ (p : List Int) (t : Tree) (h : Hdr) (b off : Nat), Place w t h b off p x hx b' off' → Place w t h b off (p ++ [i]) (kid x.kids i.toNat) hk rb (ro + i.toNat * 8)
  | [], t, h, b, off, hp => by
    obtain ⟨rfl, rfl, rfl, rfl⟩ := hp
    exact ⟨hi, rb, ro, hk, ha, hlt, hc, rfl, rfl, rfl, rfl⟩
  | j :: p, t, h, b, off, hp => by
    obtain ⟨hj, rb1, ro1, hk1, ha1, hlt1, hc1, hp1⟩ := hp
    exact ⟨hj, rb1, ro1, hk1, ha1, hlt1, hc1, place_snoc hi ha hlt hc p _ _ _ _ hp1⟩
theorem kids_place {w : World} {B : Nat} {x : Tree} {hx : Hdr} {n : Nat} (hn : NodeIn w B x hx) (hk : n < x.kids.length) : ∃ rb ro h', hx.ka = some ⟨rb, ro, none⟩ ∧ rb < w.heap.size ∧ NodeIn w B (kid x.kids n) h' ∧ Cells8 w rb (ro + n * 8) (kid x.kids n) h' := by
  have hrow := (trees.kids_at hn).row (by omega)
  obtain ⟨rb, ro, hra, hrlt, hrc⟩ := hrow
  obtain ⟨h', hnode, c0, c1, c2, c3, c4, c5, c6, c7⟩ := hrc n hk
  refine ⟨rb, ro, h', hra, hrlt, hnode, fun j hj => ?_⟩
  rcases (show j = 0 ∨ j = 1 ∨ j = 2 ∨ j = 3 ∨ j = 4 ∨ j = 5 ∨ j = 6 ∨ j = 7 by omega) with rfl | rfl | rfl | rfl | rfl | rfl | rfl | rfl
  · exact c0
  · exact c1
  · exact c2
  · exact c3
  · exact c4
  · exact c5
  · exact c6
  · exact c7
/-- What standsAt answers. -/
def StandAns (w : World) (B : Nat) (t : Tree) (h : Hdr) (b off : Nat) (P : List Int) (e : Ending) : Prop :=
  (atT t P = none ∧ e = .returned (.pointer none)) ∨ ∃ x hx b' off', atT t P = some x ∧ e = .returned (.pointer (some ⟨b', off', none⟩)) ∧ Place w t h b off P x hx b' off' ∧ Cells8 w b' off' x hx ∧ NodeIn w B x hx ∧ b' < w.heap.size
set_option maxRecDepth 100000 in
set_option maxHeartbeats 4000000 in
theorem stands_at (B : Nat) (t : Tree) (h : Hdr) (b off : Nat) (P : List Int) (a : Option Addr) (cap : Nat) (w : World) (hz : nsz t ≤ 1048576) (hn : NodeIn w B t h) (hc : Cells8 w b off t h) (hb : b < w.heap.size) (hP : IntsAt w a P) :
    Calls Try.prog 51 #[.pointer (some ⟨b, off, none⟩), .slice a P.length cap] w fun e w' => StandAns w B t h b off P e ∧ w' = w := by
  have HZ : Hid (nsz t ≤ 1048576) := hz
  have HP : Hid (IntsAt w a P) := hP
  have hlen := hP.short
  unfold maxLen at hlen
  have HR0 : Hid ((atT t (P.take 0) = some t ∧ Place w t h b off (P.take 0) t h b off ∧ Cells8 w b off t h) ∧ NodeIn w B t h ∧ b < w.heap.size) := ⟨⟨rfl, ⟨rfl, rfl, rfl, rfl⟩, hc⟩, hn, hb⟩
  clear hz hn hc hb hP
  go_enter Try.func51, Try.ntmps51
  go_wp2
  go_loop [0, 9, 6] (fun n q i => ∃ (k : Nat) (x : Tree) (hx : Hdr) (b' off' : Nat), k ≤ P.length ∧ q = .int .i64 k ∧ n = .pointer (some ⟨b', off', none⟩) ∧ Hid ((atT t (P.take k) = some x ∧ Place w t h b off (P.take k) x hx b' off' ∧ Cells8 w b' off' x hx) ∧ NodeIn w B x hx ∧ b' < w.heap.size)) (fun _ q _ => P.length - (intOf q).toNat)
  case atStart => exact ⟨0, t, h, b, off, Nat.zero_le _, rfl, rfl, HR0⟩
  case round =>
    obtain ⟨k, x, hx, b', off', hk, rfl, rfl, hR⟩ := hrel
    by_cases hlt : k < P.length
    · obtain ⟨pb, poff, ha, hblt, hc⟩ := HP.out.row (by omega)
      have hl := hc k hlt
      subst ha
      obtain ⟨i, hi⟩ : ∃ i, int0 P k = i := ⟨_, rfl⟩
      have HI : Hid (int0 P k = i ∧ okI i) := ⟨hi, by rw [← hi]; exact HP.out.fit k hlt⟩
      have hok := HI.out.2
      unfold okI at hok
      rw [hi] at hl
      clear hc hi
      have o6 : w.cell? ⟨b', off' + 6, none⟩ = some (.slice hx.ka x.kids.length hx.kc) := hR.out.1.2.2 6 (by omega)
      have hkl : x.kids.length ≤ 1048576 := by
        have h1 := at_nsz _ _ _ hR.out.1.1
        have h2 := HZ.out
        have h3 := trees.nszs_eq x.kids
        have h4 : nszs x.kids ≤ nsz x := by cases x; rw [nsz]; simp only [Tree.kids]; omega
        omega
      by_cases hin : 0 ≤ i ∧ i < x.kids.length
      · have hd1 : decide (i < 0) = false := decide_eq_false (by omega)
        have hd2 : decide (i ≥ (x.kids.length : Int)) = false := decide_eq_false (by omega)
        obtain ⟨n, rfl⟩ : ∃ n : Nat, i = n := ⟨i.toNat, by omega⟩
        have hnk : n < x.kids.length := by omega
        obtain ⟨rb, ro, h', hra, hrlt, hnode, hcells⟩ := kids_place hR.out.2.1 hnk
        have HN : Hid ((atT t (P.take (k + 1)) = some (kid x.kids n) ∧ Place w t h b off (P.take (k + 1)) (kid x.kids n) h' rb (ro + n * 8) ∧ Cells8 w rb (ro + n * 8) (kid x.kids n) h') ∧ NodeIn w B (kid x.kids n) h' ∧ rb < w.heap.size) := by
          have hat := at_next hlt hR.out.1.1
          rw [HI.out.1, step_yes hin, Int.toNat_natCast] at hat
          have hpl := place_snoc (i := (n : Int)) hin hra hrlt (by rw [Int.toNat_natCast]; exact hcells) _ _ _ _ _ hR.out.1.2.1
          rw [Int.toNat_natCast, ← HI.out.1, ← take_next hlt] at hpl
          exact ⟨⟨hat, hpl, hcells⟩, hnode, hrlt⟩
        rw [hra] at o6
        clear hra hnode hcells
        go_wp2
        go_round
        case rel => exact ⟨k + 1, kid x.kids n, h', rb, ro + n * 8, by omega, by go_num, rfl, HN⟩
        case measure => simp [intOf]; omega
      · have HST : Hid (atT t P = none) := at_stop hlt hR.out.1.1 (by rw [HI.out.1]; exact step_no hin)
        by_cases h0 : i < 0
        · have hd1 : decide (i < 0) = true := decide_eq_true h0
          go_wp2
          go_ret
          exact ⟨.inl ⟨HST.out, rfl⟩, rfl⟩
        · have hd1 : decide (i < 0) = false := decide_eq_false h0
          have hd2 : decide (i ≥ (x.kids.length : Int)) = true := decide_eq_true (by omega)
          go_wp2
          go_ret
          exact ⟨.inl ⟨HST.out, rfl⟩, rfl⟩
    · obtain rfl : k = P.length := by omega
      have HX : Hid ((atT t P = some x ∧ Place w t h b off P x hx b' off' ∧ Cells8 w b' off' x hx) ∧ NodeIn w B x hx ∧ b' < w.heap.size) := by have := hR.out; rw [List.take_length] at this; exact this
      go_wp2
      go_ret
      exact ⟨.inr ⟨x, hx, b', off', HX.out.1.1, rfl, HX.out.1.2.1, HX.out.1.2.2, HX.out.2.1, HX.out.2.2⟩, rfl⟩
/-- The two boxes of a function that is handed a node and names its answer. -/
structure T2 (w W : World) (P O : Array Value) : Prop where
  par : W.heap[w.heap.size]? = some (.cells P 28 (0, 0))
  res : W.heap[w.heap.size + 1]? = some (.cells O 28 (0, 0))
  bel : Below w.heap.size w W
def zero8 : Array Value := #[.int .i64 0, .string ⟨#[]⟩, .string ⟨#[]⟩, .string ⟨#[]⟩, .slice none 0 0, .slice none 0 0, .slice none 0 0, .string ⟨#[]⟩]
theorem T2.size {w W : World} {P O : Array Value} (h : T2 w W P O) : w.heap.size + 2 ≤ W.heap.size := pairs.lt_heap h.res
theorem T2.new (w : World) (P : Array Value) : T2 w ((w.alloc (.cells P 28)).alloc (.cells #[.int .i64 0, .string ⟨#[]⟩, .string ⟨#[]⟩, .string ⟨#[]⟩, .slice none 0 0, .slice none 0 0, .slice none 0 0, .string ⟨#[]⟩] 28)) P #[.int .i64 0, .string ⟨#[]⟩, .string ⟨#[]⟩, .string ⟨#[]⟩, .slice none 0 0, .slice none 0 0, .slice none 0 0, .string ⟨#[]⟩] := by
  refine ⟨(Below.heap_alloc _ _ _ (by simp)).trans (heap_alloc_new w _), ?_, ((Below.refl _ w).alloc (Nat.le_refl _) _).alloc (by simp) _⟩
  have := heap_alloc_new (w.alloc (.cells P 28)) (.cells #[.int .i64 0, .string ⟨#[]⟩, .string ⟨#[]⟩, .string ⟨#[]⟩, .slice none 0 0, .slice none 0 0, .slice none 0 0, .string ⟨#[]⟩] 28)
  rw [World.size_alloc] at this
  exact this
theorem T2.below {w W W' : World} {P O : Array Value} (h : T2 w W P O) (hb : Below W.heap.size W W') : T2 w W' P O :=
  ⟨(hb.block _ (pairs.lt_heap h.par)).trans h.par, (hb.block _ (pairs.lt_heap h.res)).trans h.res, h.bel.trans (hb.mono h.bel.size)⟩
theorem cells_box {w : World} {b : Nat} {t : Tree} {h : Hdr} {ty : TypeId} (hb : w.heap[b]? = some (.cells (vals t h) ty (0, 0))) : Cells8 w b 0 t h := fun j hj => by
  rw [Nat.zero_add]
  simp [World.cell?, hb]
set_option maxRecDepth 100000 in
set_option maxHeartbeats 4000000 in
theorem impl_nodeAt (B : Nat) (t : Tree) (h : Hdr) (P : List Int) (a : Option Addr) (cap : Nat) (w : World) (hz : nsz t ≤ 1048576) (hn : NodeIn w B t h) (hP : IntsAt w a P) : AtOk 13 t h P a cap w := by
  have HZ : Hid (nsz t ≤ 1048576) := hz
  have HT0 : Hid (T2 w _ (vals t h) _) := T2.new w (vals t h)
  unfold AtOk
  have HS : Hid (∀ W, T2 w W (vals t h) #[.int .i64 0, .string ⟨#[]⟩, .string ⟨#[]⟩, .string ⟨#[]⟩, .slice none 0 0, .slice none 0 0, .slice none 0 0, .string ⟨#[]⟩] → Calls Try.prog 51 #[.pointer (some ⟨w.heap.size, 0, none⟩), .slice a P.length cap] W fun e w' => StandAns W B t h w.heap.size 0 P e ∧ w' = W) := fun W hT =>
    stands_at B t h w.heap.size 0 P a cap W hz (hn.below hT.bel) (cells_box hT.par) (pairs.lt_heap hT.par) (hP.below (Nat.le_refl _) hT.bel)
  obtain ⟨R, hR⟩ : ∃ R, atR t P = R := ⟨_, rfl⟩
  have HR : Hid (atR t P = R) := hR
  rw [hR]
  obtain ⟨T, hT⟩ : ∃ T : Tree, t = T := ⟨_, rfl⟩
  obtain ⟨H, hH⟩ : ∃ H : Hdr, h = H := ⟨_, rfl⟩
  have HV : Hid (vals t h = vals T H) := by show _ = _; rw [hT, hH]
  rw [HV.out] at HS HT0 ⊢
  rw [hT] at HS HR HZ
  rw [hH] at HS
  clear hR hn hz hP hT hH HV
  obtain ⟨k0, p0, l0, u0, x0, ds0, ats0, ks0⟩ := T
  obtain ⟨da0, dc0, aa0, ac0, ka0, kc0⟩ := H
  simp only [vals, Tree.kind, Tree.pre, Tree.loc, Tree.uri, Tree.text, Tree.ds, Tree.ats, Tree.kids] at HT0 HS ⊢
  obtain ⟨W2, hW2⟩ : ∃ W2, (w.alloc (.cells #[.int .i64 k0, .string p0, .string l0, .string u0, .slice da0 ds0.length dc0, .slice aa0 ats0.length ac0, .slice ka0 ks0.length kc0, .string x0] 28)).alloc (.cells #[.int .i64 0, .string ⟨#[]⟩, .string ⟨#[]⟩, .string ⟨#[]⟩, .slice none 0 0, .slice none 0 0, .slice none 0 0, .string ⟨#[]⟩] 28) = W2 := ⟨_, rfl⟩
  rw [hW2] at HT0
  go_enter Try.func13, Try.ntmps13
  go_wp2_with fail
  refine Calls.mono (HS.out _ HT0.out) ?_
  rintro e w9 ⟨hans, hw⟩
  have hw2 := hw.symm
  clear hw
  subst hw2
  have HANS : Hid _ := hans
  clear hans HS hW2
  rcases HANS.out with ⟨hat, rfl⟩ | ⟨x, hx, b', off', hat, rfl, hpl, hc, hnode, hlt⟩
  · have HAR : Hid (R = (noTree, false)) := by have := HR.out; unfold atR at this; rw [hat] at this; exact this.symm
    clear HANS hat
    obtain ⟨r0, r1, r2, r3, r4, r5, r6, r7⟩ := box8 HT0.out.res
    obtain ⟨s0, s1, s2, s3, s4, s5, s6, s7⟩ := box_froz HT0.out.res
    go_wp2
    refine bodyPost_ret (by simp [results, Try.results13, go_sem, r0, r1, r2, r3, r4, r5, r6, r7]; try rfl) rfl ?_
    rw [HAR.out]
    exact ⟨⟨noHdr, rfl, none_own _ _⟩, below8 HT0.out.bel (by omega) _ _ _ _ _ _ _ _⟩
  · have HAR : Hid (R = (x, true)) := by have := HR.out; unfold atR at this; rw [hat] at this; exact this.symm
    have hxz : nsz x ≤ 1048576 := Nat.le_trans (at_nsz _ _ _ hat) HZ.out
    have hcp := trees.copy_node B _ _ _ W2 (Nat.lt_succ_self _) hxz hnode
    unfold CopyOk at hcp
    obtain ⟨kd, p, l, u, x, ds, ats, ks⟩ := x
    obtain ⟨da, dc, aa, ac, ka, kc⟩ := hx
    have c0 := hc 0 (by omega)
    have c1 := hc 1 (by omega)
    have c2 := hc 2 (by omega)
    have c3 := hc 3 (by omega)
    have c4 := hc 4 (by omega)
    have c5 := hc 5 (by omega)
    have c6 := hc 6 (by omega)
    have c7 := hc 7 (by omega)
    simp only [Nat.add_zero, vals, Tree.kind, Tree.pre, Tree.loc, Tree.uri, Tree.text, Tree.ds, Tree.ats, Tree.kids] at hcp c0 c1 c2 c3 c4 c5 c6 c7
    simp at c0 c1 c2 c3 c4 c5 c6 c7
    have HC : Hid _ := hcp
    clear HANS hat hpl hc hnode hlt hxz hcp
    go_wp2_with fail
    refine Calls.mono HC.out ?_
    rintro e w5 ⟨⟨h', rfl, ho⟩, hb⟩
    obtain ⟨da', dc', aa', ac', ka', kc'⟩ := h'
    have HT5 : Hid _ := HT0.out.below hb
    have HO5 : Hid (OwnN w5 (.mk kd p l u x ds ats ks) ⟨da', dc', aa', ac', ka', kc'⟩ (Rng W2 w5)) := ho
    have hs5 := HT0.out.size
    have HS5 : Hid (W2.heap.size ≤ w5.heap.size) := hb.size
    clear hb ho HC c0 c1 c2 c3 c4 c5 c6 c7
    obtain ⟨r0, r1, r2, r3, r4, r5, r6, r7⟩ := box8 HT5.out.res
    obtain ⟨s0, s1, s2, s3, s4, s5, s6, s7⟩ := box_froz HT5.out.res
    go_wp2
    refine bodyPost_ret (by simp [results, Try.results13, go_sem, r0, r1, r2, r3, r4, r5, r6, r7]; try rfl) rfl ?_
    rw [HAR.out]
    refine ⟨⟨⟨da', dc', aa', ac', ka', kc'⟩, rfl, ?_⟩, below8 HT5.out.bel (by omega) _ _ _ _ _ _ _ _⟩
    have hout : Out (fun b => b = w.heap.size + 1) w5 _ := out8 (F := fun b => b = w.heap.size + 1) (g := w.heap.size + 1) (Out.refl _ w5) rfl (.int .i64 kd) (.string p) (.string l) (.string u) (.slice da' ds.length dc') (.slice aa' ats.length ac') (.slice ka' ks.length kc') (.string x)
    exact (HO5.out.out hout (fun b hb e => by have := hb.1; omega)).sub (trees.Rng.wide (by omega) hout.size)
end Go.Proofs.Ytpejcblmglbjfaa.paths
namespace Go.Proofs.Ytpejcblmglbjfaa.trees
open Go.ChangeShapes Go.WideShapes Go.ChangeAt Go.RowKit
open pairs (Pair at0 PairsAt)
set_option linter.unusedVariables false
/-- Two structs' boxes, one behind the other. -/
structure Two (w W : World) (t : TypeId) (P Q : Array Value) : Prop where
  fst : W.heap[w.heap.size]? = some (.cells P t (0, 0))
  snd : W.heap[w.heap.size + 1]? = some (.cells Q t (0, 0))
  bel : Below w.heap.size w W
theorem Two.new (w : World) (t : TypeId) (P Q : Array Value) : Two w ((w.alloc (.cells P t)).alloc (.cells Q t)) t P Q := by
  refine ⟨?_, ?_, ((Below.refl _ w).alloc (Nat.le_refl _) _).alloc (by simp) _⟩
  · exact (Below.heap_alloc _ _ _ (by simp)).trans (heap_alloc_new w _)
  · have := heap_alloc_new (w.alloc (.cells P t)) (.cells Q t)
    rw [World.size_alloc] at this
    exact this
theorem Two.below {w W W' : World} {t : TypeId} {P Q : Array Value} (h : Two w W t P Q) (hb : Below W.heap.size W W') : Two w W' t P Q :=
  ⟨(hb.block _ (pairs.lt_heap h.fst)).trans h.fst, (hb.block _ (pairs.lt_heap h.snd)).trans h.snd, h.bel.trans (hb.mono h.bel.size)⟩
def EqOk (t : Tree) (h h' : Hdr) (w : World) : Prop :=
  Calls Try.prog 33 #[.agg (vals t h), .agg (vals t h')] w fun e w' => e = .returned (.bool true) ∧ Below w.heap.size w w'
set_option maxRecDepth 100000 in
set_option maxHeartbeats 4000000 in
theorem eq_nodes_of (n B B' : Nat) (ih : ∀ t h h' w, tsize t < n → NodeIn w B t h → NodeIn w B' t h' → EqOk t h h' w) (w : World) (a a' : Option Addr) (L : List Tree) (cap cap' : Nat) (hn : ksize L < n) (hL : Hid (NodesAt w B a L)) (hL' : Hid (NodesAt w B' a' L)) :
    Calls Try.prog 40 #[.slice a L.length cap, .slice a' L.length cap'] w fun e w' => e = .returned (.bool true) ∧ Below w.heap.size w w' := by
  have hlen := hL.out.short
  unfold maxLen at hlen
  have HIH : Hid (∀ t h h' w, tsize t < n → NodeIn w B t h → NodeIn w B' t h' → EqOk t h h' w) := ih
  clear ih
  go_enter Try.func40, Try.ntmps40
  go_wp2
  go_loopw [5] (fun t wr => ∃ (k : Nat), k ≤ L.length ∧ t = .int .i64 k ∧ Hid (Below w.heap.size w wr)) (fun t _ => L.length - (intOf t).toNat)
  case atStart => exact ⟨0, Nat.zero_le _, rfl, Below.refl _ _⟩
  case round =>
    obtain ⟨k, hk, rfl, hbw⟩ := hrel
    by_cases hlt : k < L.length
    · obtain ⟨b, off, ha, hblt, hc⟩ := (hL.out.below hbw.out).row (by omega)
      obtain ⟨b', off', ha', hblt', hc'⟩ := (hL'.out.below hbw.out).row (by omega)
      obtain ⟨h1, hn1, hcs⟩ := hc k hlt
      obtain ⟨h2, hn2, hcs'⟩ := hc' k hlt
      have hks := ksize_kid L k hlt
      have hE := fun W (h : Below wr.heap.size wr W) => HIH.out (kid L k) h1 h2 W (by omega) (hn1.below h) (hn2.below h)
      unfold EqOk at hE
      unfold vals at hE
      have hl : ∀ W, Below wr.heap.size wr W → W.cell? ⟨b, off + k * 8, none⟩ = some (.int .i64 (kid L k).kind) ∧ W.cell? ⟨b, off + k * 8 + 1, none⟩ = some (.string (kid L k).pre) ∧ W.cell? ⟨b, off + k * 8 + 2, none⟩ = some (.string (kid L k).loc) ∧ W.cell? ⟨b, off + k * 8 + 3, none⟩ = some (.string (kid L k).uri) ∧ W.cell? ⟨b, off + k * 8 + 4, none⟩ = some (.slice h1.da (kid L k).ds.length h1.dc) ∧ W.cell? ⟨b, off + k * 8 + 5, none⟩ = some (.slice h1.aa (kid L k).ats.length h1.ac) ∧ W.cell? ⟨b, off + k * 8 + 6, none⟩ = some (.slice h1.ka (kid L k).kids.length h1.kc) ∧ W.cell? ⟨b, off + k * 8 + 7, none⟩ = some (.string (kid L k).text) := fun W h => by
        rw [h.cell (p := ⟨b, off + k * 8, none⟩) hblt, h.cell (p := ⟨b, off + k * 8 + 1, none⟩) hblt, h.cell (p := ⟨b, off + k * 8 + 2, none⟩) hblt, h.cell (p := ⟨b, off + k * 8 + 3, none⟩) hblt, h.cell (p := ⟨b, off + k * 8 + 4, none⟩) hblt, h.cell (p := ⟨b, off + k * 8 + 5, none⟩) hblt, h.cell (p := ⟨b, off + k * 8 + 6, none⟩) hblt, h.cell (p := ⟨b, off + k * 8 + 7, none⟩) hblt]
        exact hcs
      have hl' : ∀ W, Below wr.heap.size wr W → W.cell? ⟨b', off' + k * 8, none⟩ = some (.int .i64 (kid L k).kind) ∧ W.cell? ⟨b', off' + k * 8 + 1, none⟩ = some (.string (kid L k).pre) ∧ W.cell? ⟨b', off' + k * 8 + 2, none⟩ = some (.string (kid L k).loc) ∧ W.cell? ⟨b', off' + k * 8 + 3, none⟩ = some (.string (kid L k).uri) ∧ W.cell? ⟨b', off' + k * 8 + 4, none⟩ = some (.slice h2.da (kid L k).ds.length h2.dc) ∧ W.cell? ⟨b', off' + k * 8 + 5, none⟩ = some (.slice h2.aa (kid L k).ats.length h2.ac) ∧ W.cell? ⟨b', off' + k * 8 + 6, none⟩ = some (.slice h2.ka (kid L k).kids.length h2.kc) ∧ W.cell? ⟨b', off' + k * 8 + 7, none⟩ = some (.string (kid L k).text) := fun W h => by
        rw [h.cell (p := ⟨b', off' + k * 8, none⟩) hblt', h.cell (p := ⟨b', off' + k * 8 + 1, none⟩) hblt', h.cell (p := ⟨b', off' + k * 8 + 2, none⟩) hblt', h.cell (p := ⟨b', off' + k * 8 + 3, none⟩) hblt', h.cell (p := ⟨b', off' + k * 8 + 4, none⟩) hblt', h.cell (p := ⟨b', off' + k * 8 + 5, none⟩) hblt', h.cell (p := ⟨b', off' + k * 8 + 6, none⟩) hblt', h.cell (p := ⟨b', off' + k * 8 + 7, none⟩) hblt']
        exact hcs'
      subst ha ha'
      clear hc hc' hcs hcs' hn1 hn2 hks
      generalize kid L k = x at hl hl' hE
      go_wp2_with fail
      refine quiets.wp_region_below (by kernel_rfl) (by kernel_rfl) ?_
      repeat (go_big_quiet_step ((first | (intro hq; rfl) | (intro hq; simp [go_sem, (hl _ hq).1, (hl _ hq).2.1, (hl _ hq).2.2.1, (hl _ hq).2.2.2.1, (hl _ hq).2.2.2.2.1, (hl _ hq).2.2.2.2.2.1, (hl _ hq).2.2.2.2.2.2.1, (hl _ hq).2.2.2.2.2.2.2]; rfl) | (intro hq; simp [go_sem, (hl' _ hq).1, (hl' _ hq).2.1, (hl' _ hq).2.2.1, (hl' _ hq).2.2.2.1, (hl' _ hq).2.2.2.2.1, (hl' _ hq).2.2.2.2.2.1, (hl' _ hq).2.2.2.2.2.2.1, (hl' _ hq).2.2.2.2.2.2.2]; rfl) | (intro hq; exact quiets.below_call (hE _ hq) hq))))
      refine wpQuiet_nil ?_
      intro w6 hb6
      have HB6 : Hid _ := hbw.out.trans (hb6.mono hbw.out.size)
      clear hb6 hl hl' hE
      go_wp2
      go_roundw
      case rel => exact ⟨k + 1, by omega, by go_num, HB6.out⟩
      case measure => simp [intOf]; omega
    · go_wp2
      go_ret
      exact ⟨rfl, hbw.out⟩
set_option maxRecDepth 100000 in
set_option maxHeartbeats 4000000 in
theorem eq_node_of (n B B' : Nat) (ihS : ∀ (w : World) (a a' : Option Addr) (L : List Tree) (cap cap' : Nat), ksize L < n → NodesAt w B a L → NodesAt w B' a' L → Calls Try.prog 40 #[.slice a L.length cap, .slice a' L.length cap'] w fun e w' => e = .returned (.bool true) ∧ Below w.heap.size w w')
    (t : Tree) (h h' : Hdr) (w : World) (ht : tsize t ≤ n) (hn : NodeIn w B t h) (hn' : NodeIn w B' t h') : EqOk t h h' w := by
  obtain ⟨k, p, l, u, x, ds, ats, ks⟩ := t
  obtain ⟨da, dc, aa, ac, ka, kc⟩ := h
  obtain ⟨da', dc', aa', ac', ka', kc'⟩ := h'
  have HD : Hid (PairsAt w da ds) := hn.decls
  have HA : Hid (AttsAt w aa ats) := hn.atts
  have HK : Hid (NodesAt w B ka ks) := kids_at hn
  have HD' : Hid (PairsAt w da' ds) := hn'.decls
  have HA' : Hid (AttsAt w aa' ats) := hn'.atts
  have HK' : Hid (NodesAt w B' ka' ks) := kids_at hn'
  have HKS : Hid (ksize ks < n) := by rw [tsize] at ht; show _ < _; omega
  have HIS : Hid _ := ihS
  unfold EqOk
  simp only [vals, Tree.kind, Tree.pre, Tree.loc, Tree.uri, Tree.text, Tree.ds, Tree.ats, Tree.kids]
  clear ihS hn hn' ht
  go_enter Try.func33, Try.ntmps33
  have HT0 : Hid (Two w ((w.alloc (.cells #[.int .i64 k, .string p, .string l, .string u, .slice da ds.length dc, .slice aa ats.length ac, .slice ka ks.length kc, .string x] 28)).alloc (.cells #[.int .i64 k, .string p, .string l, .string u, .slice da' ds.length dc', .slice aa' ats.length ac', .slice ka' ks.length kc', .string x] 28)) 28 #[.int .i64 k, .string p, .string l, .string u, .slice da ds.length dc, .slice aa ats.length ac, .slice ka ks.length kc, .string x] #[.int .i64 k, .string p, .string l, .string u, .slice da' ds.length dc', .slice aa' ats.length ac', .slice ka' ks.length kc', .string x]) := Two.new w _ _ _
  go_wp2_with fail
  refine (pairs.eq_DeclS _ _ _ ds _ _ (HD.out.below (Nat.le_refl _) HT0.out.bel) (HD'.out.below (Nat.le_refl _) HT0.out.bel)).mono ?_
  rintro e w1 ⟨rfl, hb1⟩
  have HT1 : Hid _ := HT0.out.below hb1
  obtain ⟨b0, b1, b2, b3, b4, b5, b6, b7⟩ := box8 HT1.out.fst
  obtain ⟨c0, c1, c2, c3, c4, c5, c6, c7⟩ := box8 HT1.out.snd
  clear hb1
  go_wp2_with fail
  refine (eq_atts _ _ _ ats _ _ (HA.out.below (Nat.le_refl _) HT1.out.bel) (HA'.out.below (Nat.le_refl _) HT1.out.bel)).mono ?_
  rintro e w2 ⟨rfl, hb2⟩
  have HT2 : Hid _ := HT1.out.below hb2
  clear b0 b1 b2 b3 b4 b5 b6 b7 c0 c1 c2 c3 c4 c5 c6 c7
  obtain ⟨b0, b1, b2, b3, b4, b5, b6, b7⟩ := box8 HT2.out.fst
  obtain ⟨c0, c1, c2, c3, c4, c5, c6, c7⟩ := box8 HT2.out.snd
  clear hb2
  go_wp2_with fail
  refine (HIS.out _ _ _ ks _ _ HKS.out (HK.out.below HT2.out.bel) (HK'.out.below HT2.out.bel)).mono ?_
  rintro e w3 ⟨rfl, hb3⟩
  have HT3 : Hid _ := HT2.out.below hb3
  clear b0 b1 b2 b3 b4 b5 b6 b7 c0 c1 c2 c3 c4 c5 c6 c7
  obtain ⟨b0, b1, b2, b3, b4, b5, b6, b7⟩ := box8 HT3.out.fst
  obtain ⟨c0, c1, c2, c3, c4, c5, c6, c7⟩ := box8 HT3.out.snd
  clear hb3
  go_wp2
  go_ret
  exact ⟨rfl, HT3.out.bel⟩
theorem eq_node (B B' : Nat) : ∀ n, ∀ (t : Tree) (h h' : Hdr) (w : World), tsize t < n → NodeIn w B t h → NodeIn w B' t h' → EqOk t h h' w
  | 0, t, h, h', w, ht, _, _ => by omega
  | n + 1, t, h, h', w, ht, hn, hn' =>
    eq_node_of n B B' (fun w a a' L cap cap' hk hL hL' => eq_nodes_of n B B' (fun t h h' w ht hn hn' => eq_node B B' n t h h' w ht hn hn') w a a' L cap cap' hk hL hL') t h h' w (by omega) hn hn'
theorem eq_nodes (B B' : Nat) (w : World) (a a' : Option Addr) (L : List Tree) (cap cap' : Nat) (hL : NodesAt w B a L) (hL' : NodesAt w B' a' L) :
    Calls Try.prog 40 #[.slice a L.length cap, .slice a' L.length cap'] w fun e w' => e = .returned (.bool true) ∧ Below w.heap.size w w' :=
  eq_nodes_of (ksize L + 1) B B' (fun t h h' w ht hn hn' => eq_node B B' _ t h h' w ht hn hn') w a a' L cap cap' (by omega) hL hL'
end Go.Proofs.Ytpejcblmglbjfaa.trees
namespace Go.Proofs.Ytpejcblmglbjfaa.trees
open Go.RowKit
set_option linter.unusedVariables false
set_option linter.unusedSimpArgs false
set_option maxRecDepth 100000 in
theorem neq_decl (w : World) (n v n' v' : ByteArray) : (binOp .neq 84 (.agg #[.string n, .string v]) (.agg #[.string n', .string v'])).run Try.prog w = .ok (.bool (!((n.toList == n'.toList) && (v.toList == v'.toList)))) w := by
  have hu : Try.prog.underlying 84 = some (.struct (Try.prog.fieldsOf 84)) := by kernel_rfl
  have hp : Try.prog.stoodInHeld 84 = false := by kernel_rfl
  rw [run_neq_struct, show (10000 : Nat) = 9999 + 1 from rfl, run_equalIn_agg _ _ _ _ _ hu hp]
  obtain ⟨f0, f1, hf, o0, o1, t0, t1, m0, m1⟩ : ∃ f0 f1 : Field, (Try.prog.fieldsOf 84).toList = [f0, f1] ∧ f0.offset = 0 ∧ f1.offset = 1 ∧ f0.type = 9 ∧ f1.type = 9 ∧ f0.name ≠ "_" ∧ f1.name ≠ "_" := ⟨_, _, rfl, rfl, rfl, rfl, rfl, by decide, by decide⟩
  have e0 : ∀ (a0 a1 : ByteArray) (w : World), (part 9 #[.string a0, .string a1] 0).run Try.prog w = .ok (.string a0) w := fun a0 a1 w => by simp [go_sem]; try rfl
  have e1 : ∀ (a0 a1 : ByteArray) (w : World), (part 9 #[.string a0, .string a1] 1).run Try.prog w = .ok (.string a1) w := fun a0 a1 w => by simp [go_sem]; try rfl
  have q : ∀ (a b : ByteArray) (w : World), (Op.equalIn 9999 9 (.string a) (.string b)).run Try.prog w = .ok (a.toList == b.toList) w := fun a b w => run_equalIn_string w 9998 9 a b Try.underlying9
  rw [hf]
  simp only [Op.eqFields, ne_eq, m0, m1, not_false_eq_true, if_true, o0, o1, t0, t1, Sem.run_bind, e0, q, Result.andThen_ok]
  cases h0 : (n.toList == n'.toList) <;> cases h1 : (v.toList == v'.toList) <;> simp [e1, q, h1]
theorem guard_decl (w : World) (op : BinOp) (x y : Operand) (xs ys : Array Value) : (eqGuard op 84 x y (.agg xs) (.agg ys)).run Try.prog w = .ok () w := run_eqGuard_agg _ _ _ _ _ _ _ (by kernel_rfl)
set_option maxRecDepth 100000 in
theorem neq_att (w : World) (n l u v n' l' u' v' : ByteArray) : (binOp .neq 87 (.agg #[.string n, .string l, .string u, .string v]) (.agg #[.string n', .string l', .string u', .string v'])).run Try.prog w = .ok (.bool (!((n.toList == n'.toList) && ((l.toList == l'.toList) && ((u.toList == u'.toList) && (v.toList == v'.toList)))))) w := by
  have hu : Try.prog.underlying 87 = some (.struct (Try.prog.fieldsOf 87)) := by kernel_rfl
  have hp : Try.prog.stoodInHeld 87 = false := by kernel_rfl
  rw [run_neq_struct, show (10000 : Nat) = 9999 + 1 from rfl, run_equalIn_agg _ _ _ _ _ hu hp]
  obtain ⟨f0, f1, f2, f3, hf, o0, o1, o2, o3, t0, t1, t2, t3, m0, m1, m2, m3⟩ : ∃ f0 f1 f2 f3 : Field, (Try.prog.fieldsOf 87).toList = [f0, f1, f2, f3] ∧ f0.offset = 0 ∧ f1.offset = 1 ∧ f2.offset = 2 ∧ f3.offset = 3 ∧ f0.type = 9 ∧ f1.type = 9 ∧ f2.type = 9 ∧ f3.type = 9 ∧ f0.name ≠ "_" ∧ f1.name ≠ "_" ∧ f2.name ≠ "_" ∧ f3.name ≠ "_" := ⟨_, _, _, _, rfl, rfl, rfl, rfl, rfl, rfl, rfl, rfl, rfl, by decide, by decide, by decide, by decide⟩
  have e0 : ∀ (a0 a1 a2 a3 : ByteArray) (w : World), (part 9 #[.string a0, .string a1, .string a2, .string a3] 0).run Try.prog w = .ok (.string a0) w := fun a0 a1 a2 a3 w => by simp [go_sem]; try rfl
  have e1 : ∀ (a0 a1 a2 a3 : ByteArray) (w : World), (part 9 #[.string a0, .string a1, .string a2, .string a3] 1).run Try.prog w = .ok (.string a1) w := fun a0 a1 a2 a3 w => by simp [go_sem]; try rfl
  have e2 : ∀ (a0 a1 a2 a3 : ByteArray) (w : World), (part 9 #[.string a0, .string a1, .string a2, .string a3] 2).run Try.prog w = .ok (.string a2) w := fun a0 a1 a2 a3 w => by simp [go_sem]; try rfl
  have e3 : ∀ (a0 a1 a2 a3 : ByteArray) (w : World), (part 9 #[.string a0, .string a1, .string a2, .string a3] 3).run Try.prog w = .ok (.string a3) w := fun a0 a1 a2 a3 w => by simp [go_sem]; try rfl
  have q : ∀ (a b : ByteArray) (w : World), (Op.equalIn 9999 9 (.string a) (.string b)).run Try.prog w = .ok (a.toList == b.toList) w := fun a b w => run_equalIn_string w 9998 9 a b Try.underlying9
  rw [hf]
  simp only [Op.eqFields, ne_eq, m0, m1, m2, m3, not_false_eq_true, if_true, o0, o1, o2, o3, t0, t1, t2, t3, Sem.run_bind, e0, q, Result.andThen_ok]
  cases h0 : (n.toList == n'.toList) <;> cases h1 : (l.toList == l'.toList) <;> cases h2 : (u.toList == u'.toList) <;> cases h3 : (v.toList == v'.toList) <;> simp [e1, e2, e3, q, h1, h2, h3]
theorem guard_att (w : World) (op : BinOp) (x y : Operand) (xs ys : Array Value) : (eqGuard op 87 x y (.agg xs) (.agg ys)).run Try.prog w = .ok () w := run_eqGuard_agg _ _ _ _ _ _ _ (by kernel_rfl)
end Go.Proofs.Ytpejcblmglbjfaa.trees
namespace Go.Proofs.Ytpejcblmglbjfaa.trees
open Go.ChangeShapes Go.WideShapes Go.ChangeAt Go.RowKit
open pairs (Pair at0 PairsAt)
set_option linter.unusedVariables false
attribute [-go_sem] run_neq_struct
attribute [local go_sem] neq_decl guard_decl neq_att guard_att
/-- Whether two trees are the same. -/
noncomputable def sameB (t t' : Tree) : Bool := @decide (t = t') (Classical.propDecidable _)
theorem same_no {t t' : Tree} (h : t ≠ t') : sameB t t' = false := @decide_eq_false _ (Classical.propDecidable _) h
theorem same_yes {t t' : Tree} (h : t = t') : sameB t t' = true := @decide_eq_true _ (Classical.propDecidable _) h
theorem bytes_eq {a b : ByteArray} (h : a.toList = b.toList) : a = b := by
  rw [ByteArray.toList_eq, ByteArray.toList_eq] at h
  exact ByteArray.ext (Array.toList_inj.1 h)
theorem ext_at0 {L M : List Pair} (hl : L.length = M.length) (h : ∀ i, i < L.length → at0 L i = at0 M i) : L = M := by
  apply List.ext_getElem hl
  intro i h1 h2
  have := h i h1
  unfold at0 at this
  simpa [List.getD, h1, h2] using this
theorem ext_att0 {L M : List Att} (hl : L.length = M.length) (h : ∀ i, i < L.length → att0 L i = att0 M i) : L = M := by
  apply List.ext_getElem hl
  intro i h1 h2
  have := h i h1
  unfold att0 at this
  simpa [List.getD, h1, h2] using this
theorem ext_kid {L M : List Tree} (hl : L.length = M.length) (h : ∀ i, i < L.length → kid L i = kid M i) : L = M := by
  apply List.ext_getElem hl
  intro i h1 h2
  have := h i h1
  unfold kid at this
  simpa [List.getD, h1, h2] using this
end Go.Proofs.Ytpejcblmglbjfaa.trees
namespace Go.Proofs.Ytpejcblmglbjfaa.trees
open Go.ChangeShapes Go.WideShapes Go.ChangeAt Go.RowKit
open pairs (Pair at0 PairsAt)
set_option linter.unusedVariables false
attribute [-go_sem] run_neq_struct
attribute [local go_sem] neq_decl guard_decl neq_att guard_att
noncomputable def eqDsB (L M : List Pair) : Bool := @decide (L = M) (Classical.propDecidable _)
theorem eqDs_no {L M : List Pair} (h : L ≠ M) : eqDsB L M = false := @decide_eq_false _ (Classical.propDecidable _) h
theorem eqDs_yes {L M : List Pair} (h : L = M) : eqDsB L M = true := @decide_eq_true _ (Classical.propDecidable _) h
set_option maxRecDepth 100000 in
set_option maxHeartbeats 4000000 in
theorem eqDs_fn (a a' : Option Addr) (L M : List Pair) (cap cap' : Nat) (w : World) (hL : PairsAt w a L) (hM : PairsAt w a' M) :
    Calls Try.prog 57 #[.slice a L.length cap, .slice a' M.length cap'] w fun e w' => e = .returned (.bool (eqDsB L M)) ∧ Below w.heap.size w w' := by
  have HL : Hid _ := hL
  have HM : Hid _ := hM
  have hkd : L.length ≤ 9223372036854775807 := hL.short
  clear hL hM
  by_cases hlen : L.length = M.length
  · have HLD : Hid _ := hlen
    have q5 : ((L.length : Int) != (M.length : Int)) = false := by simp [hlen]
    clear hlen
    go_enter Try.func57, Try.ntmps57
    go_wp2_with fail
    go_loopw [13] (fun t wr => ∃ i : Nat, i ≤ L.length ∧ t = .int .i64 i ∧ Hid (∀ j, j < i → at0 L j = at0 M j) ∧ Hid (Below w.heap.size w wr)) (fun t _ => L.length - (intOf t).toNat)
    case atStart => exact ⟨0, Nat.zero_le _, rfl, (fun j hj => by omega), Below.refl _ _⟩
    case round =>
      obtain ⟨i, hi, rfl, hup, hbw⟩ := hrel
      by_cases hlt : i < L.length
      · obtain ⟨b, off, ha, hblt, hc⟩ := (HL.out.below (Nat.le_refl _) hbw.out).row (by omega)
        obtain ⟨b', off', ha', hblt', hc'⟩ := (HM.out.below (Nat.le_refl _) hbw.out).row (by have := HLD.out; omega)
        have hl : ∀ W, Below wr.heap.size wr W → W.cell? ⟨b, off + i * 2, none⟩ = some (.string (at0 L i).1) ∧ W.cell? ⟨b, off + i * 2 + 1, none⟩ = some (.string (at0 L i).2) := fun W h => by
          rw [h.cell (p := ⟨b, off + i * 2, none⟩) hblt, h.cell (p := ⟨b, off + i * 2 + 1, none⟩) hblt]
          exact hc i hlt
        have hl' : ∀ W, Below wr.heap.size wr W → W.cell? ⟨b', off' + i * 2, none⟩ = some (.string (at0 M i).1) ∧ W.cell? ⟨b', off' + i * 2 + 1, none⟩ = some (.string (at0 M i).2) := fun W h => by
          rw [h.cell (p := ⟨b', off' + i * 2, none⟩) hblt', h.cell (p := ⟨b', off' + i * 2 + 1, none⟩) hblt']
          exact hc' i (by have := HLD.out; omega)
        have hilt : (i : Int) < L.length := by omega
        have hilt' : (i : Int) < M.length := by have := HLD.out; omega
        obtain ⟨y, hy⟩ : ∃ y, y = at0 L i := ⟨_, rfl⟩
        obtain ⟨y', hy'⟩ : ∃ y, y = at0 M i := ⟨_, rfl⟩
        have HE1 : Hid _ := hy
        have HE2 : Hid _ := hy'
        rw [← hy] at hl
        rw [← hy'] at hl'
        subst ha ha'
        clear hc hc' hy hy'
        obtain ⟨n0, n1⟩ := y
        obtain ⟨m0, m1⟩ := y'
        dsimp only at hl hl'
        cases hqq : ((n0.toList == m0.toList) && (n1.toList == m1.toList))
        · have HF : Hid (eqDsB L M = false) := eqDs_no fun e => by
            have : at0 L i = at0 M i := by rw [e]
            rw [← HE1.out, ← HE2.out] at this
            injection this with z0 z1
            rw [z0, z1] at hqq
            simp at hqq
          go_wp2_with fail
          refine quiets.wp_region_below (by kernel_rfl) (by kernel_rfl) ?_
          repeat (go_big_quiet_step ((first | (intro hq; rfl) | (intro hq; simp [go_sem, (hl _ hq).1, (hl _ hq).2]; rfl) | (intro hq; simp [go_sem, (hl' _ hq).1, (hl' _ hq).2]; rfl) | (intro hq; simp only [go_sem, hqq]; rfl))))
          refine wpQuiet_nil ?_
          intro w6 hb6
          have HB6 : Hid _ := hbw.out.trans (hb6.mono hbw.out.size)
          clear hb6 hl hl'
          go_wp2
          go_ret
          exact ⟨ret_bool HF.out.symm, HB6.out⟩
        · have HUP : Hid (∀ j, j < i + 1 → at0 L j = at0 M j) := fun j hj => by
            by_cases e : j = i
            · rw [e, ← HE1.out, ← HE2.out]
              simp only [Bool.and_eq_true, beq_iff_eq] at hqq
              obtain ⟨z0, z1⟩ := hqq
              rw [bytes_eq z0, bytes_eq z1]
            · exact hup.out j (by omega)
          go_wp2_with fail
          refine quiets.wp_region_below (by kernel_rfl) (by kernel_rfl) ?_
          repeat (go_big_quiet_step ((first | (intro hq; rfl) | (intro hq; simp [go_sem, (hl _ hq).1, (hl _ hq).2]; rfl) | (intro hq; simp [go_sem, (hl' _ hq).1, (hl' _ hq).2]; rfl) | (intro hq; simp only [go_sem, hqq]; rfl))))
          refine wpQuiet_nil ?_
          intro w6 hb6
          have HB6 : Hid _ := hbw.out.trans (hb6.mono hbw.out.size)
          clear hb6 hl hl'
          go_wp2
          go_roundw
          case rel => exact ⟨i + 1, by omega, by go_num, HUP.out, HB6.out⟩
          case measure => simp [intOf]; omega
      · have HF : Hid (eqDsB L M = true) := eqDs_yes (ext_at0 HLD.out fun j hj => hup.out j (by omega))
        go_wp2
        go_ret
        exact ⟨ret_bool HF.out.symm, hbw.out⟩
  · have HF : Hid (eqDsB L M = false) := eqDs_no fun e => hlen (by rw [e])
    have q5 : ((L.length : Int) != (M.length : Int)) = true := by simp; omega
    go_enter Try.func57, Try.ntmps57
    go_wp2
    go_ret
    exact ⟨ret_bool HF.out.symm, Below.refl _ _⟩
noncomputable def eqAsB (L M : List Att) : Bool := @decide (L = M) (Classical.propDecidable _)
theorem eqAs_no {L M : List Att} (h : L ≠ M) : eqAsB L M = false := @decide_eq_false _ (Classical.propDecidable _) h
theorem eqAs_yes {L M : List Att} (h : L = M) : eqAsB L M = true := @decide_eq_true _ (Classical.propDecidable _) h
set_option maxRecDepth 100000 in
set_option maxHeartbeats 4000000 in
theorem eqAs_fn (a a' : Option Addr) (L M : List Att) (cap cap' : Nat) (w : World) (hL : AttsAt w a L) (hM : AttsAt w a' M) :
    Calls Try.prog 58 #[.slice a L.length cap, .slice a' M.length cap'] w fun e w' => e = .returned (.bool (eqAsB L M)) ∧ Below w.heap.size w w' := by
  have HL : Hid _ := hL
  have HM : Hid _ := hM
  have hkd : L.length ≤ 9223372036854775807 := hL.short
  clear hL hM
  by_cases hlen : L.length = M.length
  · have HLD : Hid _ := hlen
    have q5 : ((L.length : Int) != (M.length : Int)) = false := by simp [hlen]
    clear hlen
    go_enter Try.func58, Try.ntmps58
    go_wp2_with fail
    go_loopw [13] (fun t wr => ∃ i : Nat, i ≤ L.length ∧ t = .int .i64 i ∧ Hid (∀ j, j < i → att0 L j = att0 M j) ∧ Hid (Below w.heap.size w wr)) (fun t _ => L.length - (intOf t).toNat)
    case atStart => exact ⟨0, Nat.zero_le _, rfl, (fun j hj => by omega), Below.refl _ _⟩
    case round =>
      obtain ⟨i, hi, rfl, hup, hbw⟩ := hrel
      by_cases hlt : i < L.length
      · obtain ⟨b, off, ha, hblt, hc⟩ := (HL.out.below (Nat.le_refl _) hbw.out).row (by omega)
        obtain ⟨b', off', ha', hblt', hc'⟩ := (HM.out.below (Nat.le_refl _) hbw.out).row (by have := HLD.out; omega)
        have hl : ∀ W, Below wr.heap.size wr W → W.cell? ⟨b, off + i * 4, none⟩ = some (.string (att0 L i).pre) ∧ W.cell? ⟨b, off + i * 4 + 1, none⟩ = some (.string (att0 L i).loc) ∧ W.cell? ⟨b, off + i * 4 + 2, none⟩ = some (.string (att0 L i).uri) ∧ W.cell? ⟨b, off + i * 4 + 3, none⟩ = some (.string (att0 L i).val) := fun W h => by
          rw [h.cell (p := ⟨b, off + i * 4, none⟩) hblt, h.cell (p := ⟨b, off + i * 4 + 1, none⟩) hblt, h.cell (p := ⟨b, off + i * 4 + 2, none⟩) hblt, h.cell (p := ⟨b, off + i * 4 + 3, none⟩) hblt]
          exact hc i hlt
        have hl' : ∀ W, Below wr.heap.size wr W → W.cell? ⟨b', off' + i * 4, none⟩ = some (.string (att0 M i).pre) ∧ W.cell? ⟨b', off' + i * 4 + 1, none⟩ = some (.string (att0 M i).loc) ∧ W.cell? ⟨b', off' + i * 4 + 2, none⟩ = some (.string (att0 M i).uri) ∧ W.cell? ⟨b', off' + i * 4 + 3, none⟩ = some (.string (att0 M i).val) := fun W h => by
          rw [h.cell (p := ⟨b', off' + i * 4, none⟩) hblt', h.cell (p := ⟨b', off' + i * 4 + 1, none⟩) hblt', h.cell (p := ⟨b', off' + i * 4 + 2, none⟩) hblt', h.cell (p := ⟨b', off' + i * 4 + 3, none⟩) hblt']
          exact hc' i (by have := HLD.out; omega)
        have hilt : (i : Int) < L.length := by omega
        have hilt' : (i : Int) < M.length := by have := HLD.out; omega
        obtain ⟨y, hy⟩ : ∃ y, y = att0 L i := ⟨_, rfl⟩
        obtain ⟨y', hy'⟩ : ∃ y, y = att0 M i := ⟨_, rfl⟩
        have HE1 : Hid _ := hy
        have HE2 : Hid _ := hy'
        rw [← hy] at hl
        rw [← hy'] at hl'
        subst ha ha'
        clear hc hc' hy hy'
        obtain ⟨n0, n1, n2, n3⟩ := y
        obtain ⟨m0, m1, m2, m3⟩ := y'
        dsimp only at hl hl'
        cases hqq : ((n0.toList == m0.toList) && ((n1.toList == m1.toList) && ((n2.toList == m2.toList) && (n3.toList == m3.toList))))
        · have HF : Hid (eqAsB L M = false) := eqAs_no fun e => by
            have : att0 L i = att0 M i := by rw [e]
            rw [← HE1.out, ← HE2.out] at this
            injection this with z0 z1 z2 z3
            rw [z0, z1, z2, z3] at hqq
            simp at hqq
          go_wp2_with fail
          refine quiets.wp_region_below (by kernel_rfl) (by kernel_rfl) ?_
          repeat (go_big_quiet_step ((first | (intro hq; rfl) | (intro hq; simp [go_sem, (hl _ hq).1, (hl _ hq).2.1, (hl _ hq).2.2.1, (hl _ hq).2.2.2]; rfl) | (intro hq; simp [go_sem, (hl' _ hq).1, (hl' _ hq).2.1, (hl' _ hq).2.2.1, (hl' _ hq).2.2.2]; rfl) | (intro hq; simp only [go_sem, hqq]; rfl))))
          refine wpQuiet_nil ?_
          intro w6 hb6
          have HB6 : Hid _ := hbw.out.trans (hb6.mono hbw.out.size)
          clear hb6 hl hl'
          go_wp2
          go_ret
          exact ⟨ret_bool HF.out.symm, HB6.out⟩
        · have HUP : Hid (∀ j, j < i + 1 → att0 L j = att0 M j) := fun j hj => by
            by_cases e : j = i
            · rw [e, ← HE1.out, ← HE2.out]
              simp only [Bool.and_eq_true, beq_iff_eq] at hqq
              obtain ⟨z0, z1, z2, z3⟩ := hqq
              rw [bytes_eq z0, bytes_eq z1, bytes_eq z2, bytes_eq z3]
            · exact hup.out j (by omega)
          go_wp2_with fail
          refine quiets.wp_region_below (by kernel_rfl) (by kernel_rfl) ?_
          repeat (go_big_quiet_step ((first | (intro hq; rfl) | (intro hq; simp [go_sem, (hl _ hq).1, (hl _ hq).2.1, (hl _ hq).2.2.1, (hl _ hq).2.2.2]; rfl) | (intro hq; simp [go_sem, (hl' _ hq).1, (hl' _ hq).2.1, (hl' _ hq).2.2.1, (hl' _ hq).2.2.2]; rfl) | (intro hq; simp only [go_sem, hqq]; rfl))))
          refine wpQuiet_nil ?_
          intro w6 hb6
          have HB6 : Hid _ := hbw.out.trans (hb6.mono hbw.out.size)
          clear hb6 hl hl'
          go_wp2
          go_roundw
          case rel => exact ⟨i + 1, by omega, by go_num, HUP.out, HB6.out⟩
          case measure => simp [intOf]; omega
      · have HF : Hid (eqAsB L M = true) := eqAs_yes (ext_att0 HLD.out fun j hj => hup.out j (by omega))
        go_wp2
        go_ret
        exact ⟨ret_bool HF.out.symm, hbw.out⟩
  · have HF : Hid (eqAsB L M = false) := eqAs_no fun e => hlen (by rw [e])
    have q5 : ((L.length : Int) != (M.length : Int)) = true := by simp; omega
    go_enter Try.func58, Try.ntmps58
    go_wp2
    go_ret
    exact ⟨ret_bool HF.out.symm, Below.refl _ _⟩
theorem box_under2 {w w' : World} {o o' : Obj} (hb : Below ((w.alloc o).alloc o').heap.size ((w.alloc o).alloc o') w') : Below (w.alloc o).heap.size (w.alloc o) w' := box_under hb
noncomputable def eqKsB (L M : List Tree) : Bool := @decide (L = M) (Classical.propDecidable _)
theorem eqKs_no {L M : List Tree} (h : L ≠ M) : eqKsB L M = false := @decide_eq_false _ (Classical.propDecidable _) h
theorem eqKs_yes {L M : List Tree} (h : L = M) : eqKsB L M = true := @decide_eq_true _ (Classical.propDecidable _) h
def ImplSameOk (t t' : Tree) (h h' : Hdr) (w : World) : Prop :=
  Calls Try.prog 17 #[.agg (vals t h), .agg (vals t' h')] w fun e w' => e = .returned (.bool (sameB t t')) ∧ Below w.heap.size w w'
set_option maxRecDepth 100000 in
set_option maxHeartbeats 4000000 in
theorem eqKs_fn_of (n B B' : Nat) (ih : ∀ (t t' : Tree) (h h' : Hdr) (w : World), tsize t < n → NodeIn w B t h → NodeIn w B' t' h' → ImplSameOk t t' h h' w)
    (a a' : Option Addr) (L M : List Tree) (cap cap' : Nat) (w : World) (hk : ksize L < n) (hL : NodesAt w B a L) (hM : NodesAt w B' a' M) :
    Calls Try.prog 59 #[.slice a L.length cap, .slice a' M.length cap', .func (.func 17) #[] #[]] w fun e w' => e = .returned (.bool (eqKsB L M)) ∧ Below w.heap.size w w' := by
  have HL : Hid _ := hL
  have HM : Hid _ := hM
  have HIH : Hid _ := ih
  have HKT : Hid (∀ i, i < L.length → tsize (kid L i) < n) := fun i hi => Nat.lt_of_le_of_lt (ksize_kid L i hi) hk
  have hkd : L.length ≤ 9223372036854775807 := hL.short
  clear hL hM ih hk
  by_cases hlen : L.length = M.length
  · have HLD : Hid _ := hlen
    have q5 : ((L.length : Int) != (M.length : Int)) = false := by simp [hlen]
    clear hlen
    go_enter Try.func59, Try.ntmps59
    go_wp2_with fail
    go_loopw [17] (fun t wr => ∃ i : Nat, i ≤ L.length ∧ t = .int .i64 i ∧ Hid (∀ j, j < i → kid L j = kid M j) ∧ Hid (Below w.heap.size w wr)) (fun t _ => L.length - (intOf t).toNat)
    case atStart => exact ⟨0, Nat.zero_le _, rfl, (fun j hj => by omega), Below.refl _ _⟩
    case round =>
      obtain ⟨i, hi, rfl, hup, hbw⟩ := hrel
      by_cases hlt : i < L.length
      · obtain ⟨b, off, ha, hblt, hc⟩ := (HL.out.below hbw.out).row (by omega)
        obtain ⟨h1, hn1, hc0, hc1, hc2, hc3, hc4, hc5, hc6, hc7⟩ := hc i hlt
        have hM2 := HM.out.below hbw.out
        obtain ⟨b', off', ha', hblt', hc'⟩ := hM2.row (by have := HLD.out; omega)
        have hilt : (i : Int) < L.length := by omega
        have hilt' : (i : Int) < M.length := by have := HLD.out; omega
        obtain ⟨h2, hn2, hd0, hd1, hd2, hd3, hd4, hd5, hd6, hd7⟩ := hc' i (by omega)
        obtain ⟨y, hy⟩ : ∃ y, y = kid L i := ⟨_, rfl⟩
        obtain ⟨y', hy'⟩ : ∃ y, y = kid M i := ⟨_, rfl⟩
        have hE : ∀ o o', ImplSameOk y y' h1 h2 ((wr.alloc o).alloc o') := fun o o' => by
          have hb2 : Below wr.heap.size wr ((wr.alloc o).alloc o') := ((Below.refl _ _).alloc (Nat.le_refl _) o).alloc (by simp) o'
          exact HIH.out y y' h1 h2 _ (by rw [hy]; exact HKT.out i hlt) (by rw [hy]; exact hn1.below hb2) (by rw [hy']; exact hn2.below hb2)
        unfold ImplSameOk at hE
        unfold vals at hE
        have HE : Hid (∀ o o', _) := hE
        have HE1 : Hid _ := hy
        have HE2 : Hid _ := hy'
        rw [← hy] at hc0 hc1 hc2 hc3 hc4 hc5 hc6 hc7
        rw [← hy'] at hd0 hd1 hd2 hd3 hd4 hd5 hd6 hd7
        subst ha ha'
        clear hc hc' hy hy' hE hn1 hn2 hM2
        go_wp2_with fail
        refine Calls.mono (HE.out _ _) ?_
        rintro e w2 ⟨rfl, hb3⟩
        have HB2 : Hid _ := hbw.out.trans ((box_under (box_under2 hb3)).mono hbw.out.size)
        clear hb3 HE
        cases hqq : sameB y y'
        · have HF : Hid (eqKsB L M = false) := eqKs_no fun e => by
            have : kid L i = kid M i := by rw [e]
            rw [← HE1.out, ← HE2.out] at this
            rw [same_yes this] at hqq
            cases hqq
          go_wp2
          go_ret
          exact ⟨ret_bool HF.out.symm, HB2.out⟩
        · have HUP : Hid (∀ j, j < i + 1 → kid L j = kid M j) := fun j hj => by
            by_cases e : j = i
            · rw [e, ← HE1.out, ← HE2.out]
              by_cases h : y = y'
              · exact h
              · rw [same_no h] at hqq
                cases hqq
            · exact hup.out j (by omega)
          go_wp2
          go_roundw
          case rel => exact ⟨i + 1, by omega, by go_num, HUP.out, HB2.out⟩
          case measure => simp [intOf]; omega
      · have HF : Hid (eqKsB L M = true) := eqKs_yes (ext_kid HLD.out fun j hj => hup.out j (by omega))
        go_wp2
        go_ret
        exact ⟨ret_bool HF.out.symm, hbw.out⟩
  · have HF : Hid (eqKsB L M = false) := eqKs_no fun e => hlen (by rw [e])
    have q5 : ((L.length : Int) != (M.length : Int)) = true := by simp; omega
    go_enter Try.func59, Try.ntmps59
    go_wp2
    go_ret
    exact ⟨ret_bool HF.out.symm, Below.refl _ _⟩
theorem eqDs_flat (a a' : Option Addr) (L M : List Pair) (cap cap' : Nat) (b : Bool) (h : eqDsB L M = b) (w : World) (hL : PairsAt w a L) (hM : PairsAt w a' M) :
    Calls Try.prog 57 #[.slice a L.length cap, .slice a' M.length cap'] w fun e w' => e = .returned (.bool b) ∧ Below w.heap.size w w' := by rw [← h]; exact eqDs_fn a a' L M cap cap' w hL hM
theorem eqAs_flat (a a' : Option Addr) (L M : List Att) (cap cap' : Nat) (b : Bool) (h : eqAsB L M = b) (w : World) (hL : AttsAt w a L) (hM : AttsAt w a' M) :
    Calls Try.prog 58 #[.slice a L.length cap, .slice a' M.length cap'] w fun e w' => e = .returned (.bool b) ∧ Below w.heap.size w w' := by rw [← h]; exact eqAs_fn a a' L M cap cap' w hL hM
set_option maxRecDepth 100000 in
set_option maxHeartbeats 4000000 in
theorem impl_same_node_of (n B B' : Nat) (ihS : ∀ (a a' : Option Addr) (L M : List Tree) (cap cap' : Nat) (w : World), ksize L < n → NodesAt w B a L → NodesAt w B' a' M → Calls Try.prog 59 #[.slice a L.length cap, .slice a' M.length cap', .func (.func 17) #[] #[]] w fun e w' => e = .returned (.bool (eqKsB L M)) ∧ Below w.heap.size w w')
    (t t' : Tree) (h h' : Hdr) (w : World) (ht : tsize t ≤ n) (hn : NodeIn w B t h) (hn' : NodeIn w B' t' h') : ImplSameOk t t' h h' w := by
  obtain ⟨k, p, l, u, x, ds, ats, ks⟩ := t
  obtain ⟨k', p', l', u', x', ds', ats', ks'⟩ := t'
  obtain ⟨da, dc, aa, ac, ka, kc⟩ := h
  obtain ⟨da', dc', aa', ac', ka', kc'⟩ := h'
  have HD : Hid (PairsAt w da ds) := hn.decls
  have HA : Hid (AttsAt w aa ats) := hn.atts
  have HK : Hid (NodesAt w B ka ks) := kids_at hn
  have HD' : Hid (PairsAt w da' ds') := hn'.decls
  have HA' : Hid (AttsAt w aa' ats') := hn'.atts
  have HK' : Hid (NodesAt w B' ka' ks') := kids_at hn'
  have HKS : Hid (ksize ks < n) := by rw [tsize] at ht; show _ < _; omega
  have HIS : Hid _ := ihS
  unfold ImplSameOk
  simp only [vals, Tree.kind, Tree.pre, Tree.loc, Tree.uri, Tree.text, Tree.ds, Tree.ats, Tree.kids]
  clear ihS hn hn' ht
  by_cases hE : k = k' ∧ p.toList = p'.toList ∧ l.toList = l'.toList ∧ u.toList = u'.toList ∧ x.toList = x'.toList
  · obtain ⟨rfl, e1, e2, e3, e4⟩ := hE
    obtain rfl := bytes_eq e1
    obtain rfl := bytes_eq e2
    obtain rfl := bytes_eq e3
    obtain rfl := bytes_eq e4
    clear e1 e2 e3 e4
    obtain ⟨q1, hq1⟩ : ∃ q, eqDsB ds ds' = q := ⟨_, rfl⟩
    have H1 : Hid (∀ w, _) := eqDs_flat da da' ds ds' dc dc' q1 hq1
    obtain ⟨q2, hq2⟩ : ∃ q, eqAsB ats ats' = q := ⟨_, rfl⟩
    have H2 : Hid (∀ w, _) := eqAs_flat aa aa' ats ats' ac ac' q2 hq2
    obtain ⟨q3, hq3⟩ : ∃ q, eqKsB ks ks' = q := ⟨_, rfl⟩
    have H3 : Hid (∀ (w : World), NodesAt w B ka ks → NodesAt w B' ka' ks' → Calls Try.prog 59 #[.slice ka ks.length kc, .slice ka' ks'.length kc', .func (.func 17) #[] #[]] w fun e w' => e = .returned (.bool q3) ∧ Below w.heap.size w w') := fun w h1 h2 => by rw [← hq3]; exact HIS.out _ _ _ _ _ _ _ HKS.out h1 h2
    have HF : Hid (sameB (.mk k p l u x ds ats ks) (.mk k p l u x ds' ats' ks') = (q1 && (q2 && q3))) := by
      show _ = _
      rw [← hq1, ← hq2, ← hq3]
      by_cases z1 : ds = ds'
      · by_cases z2 : ats = ats'
        · by_cases z3 : ks = ks'
          · rw [eqDs_yes z1, eqAs_yes z2, eqKs_yes z3, same_yes (by rw [z1, z2, z3])]; rfl
          · rw [eqKs_no z3, same_no fun e => by injection e with _ _ _ _ _ g1 g2 g3; exact z3 g3]; simp
        · rw [eqAs_no z2, same_no fun e => by injection e with _ _ _ _ _ g1 g2 g3; exact z2 g2]; simp
      · rw [eqDs_no z1, same_no fun e => by injection e with _ _ _ _ _ g1 g2 g3; exact z1 g1]; simp
    generalize sameB (.mk k p l u x ds ats ks) (.mk k p l u x ds' ats' ks') = res at HF ⊢
    clear hq1 hq2 hq3 HIS HKS
    go_enter Try.func17, Try.ntmps17
    have HT0 : Hid (Two w ((w.alloc (.cells #[.int .i64 k, .string p, .string l, .string u, .slice da ds.length dc, .slice aa ats.length ac, .slice ka ks.length kc, .string x] 28)).alloc (.cells #[.int .i64 k, .string p, .string l, .string u, .slice da' ds'.length dc', .slice aa' ats'.length ac', .slice ka' ks'.length kc', .string x] 28)) 28 #[.int .i64 k, .string p, .string l, .string u, .slice da ds.length dc, .slice aa ats.length ac, .slice ka ks.length kc, .string x] #[.int .i64 k, .string p, .string l, .string u, .slice da' ds'.length dc', .slice aa' ats'.length ac', .slice ka' ks'.length kc', .string x]) := Two.new w _ _ _
    go_wp2_with fail
    refine (H1.out _ (HD.out.below (Nat.le_refl _) HT0.out.bel) (HD'.out.below (Nat.le_refl _) HT0.out.bel)).mono ?_
    rintro e w1 ⟨rfl, hb1⟩
    have HT1 : Hid _ := HT0.out.below hb1
    obtain ⟨b0, b1, b2, b3, b4, b5, b6, b7⟩ := box8 HT1.out.fst
    obtain ⟨y0, y1, y2, y3, y4, y5, y6, y7⟩ := box8 HT1.out.snd
    clear hb1 HT0
    cases q1
    · go_wp2
      go_ret
      exact ⟨ret_bool HF.out.symm, HT1.out.bel⟩
    · go_wp2_with fail
      refine (H2.out _ (HA.out.below (Nat.le_refl _) HT1.out.bel) (HA'.out.below (Nat.le_refl _) HT1.out.bel)).mono ?_
      rintro e w2 ⟨rfl, hb2⟩
      have HT2 : Hid _ := HT1.out.below hb2
      clear hb2 HT1 b0 b1 b2 b3 b4 b5 b6 b7 y0 y1 y2 y3 y4 y5 y6 y7
      obtain ⟨b0, b1, b2, b3, b4, b5, b6, b7⟩ := box8 HT2.out.fst
      obtain ⟨y0, y1, y2, y3, y4, y5, y6, y7⟩ := box8 HT2.out.snd
      cases q2
      · go_wp2
        go_ret
        exact ⟨ret_bool HF.out.symm, HT2.out.bel⟩
      · go_wp2_with fail
        refine (H3.out _ (HK.out.below HT2.out.bel) (HK'.out.below HT2.out.bel)).mono ?_
        rintro e w3 ⟨rfl, hb3⟩
        have HT3 : Hid _ := HT2.out.below hb3
        clear hb3 HT2 b0 b1 b2 b3 b4 b5 b6 b7 y0 y1 y2 y3 y4 y5 y6 y7
        cases q3
        all_goals
          go_wp2
          go_ret
          exact ⟨ret_bool HF.out.symm, HT3.out.bel⟩
  · have HF : Hid (sameB (.mk k p l u x ds ats ks) (.mk k' p' l' u' x' ds' ats' ks') = false) := same_no fun e => by
      cases e
      exact hE ⟨rfl, rfl, rfl, rfl, rfl⟩
    have HNE : Hid _ := hE
    clear hE
    cases z0 : (k == k')
    · go_enter Try.func17, Try.ntmps17
      go_wp2_with fail
      go_ret
      exact ⟨ret_bool HF.out.symm, ((Below.refl _ _).alloc (Nat.le_refl _) _).alloc (by simp) _⟩
    · skip
      cases z1 : (p.toList == p'.toList)
      · go_enter Try.func17, Try.ntmps17
        go_wp2_with fail
        go_ret
        exact ⟨ret_bool HF.out.symm, ((Below.refl _ _).alloc (Nat.le_refl _) _).alloc (by simp) _⟩
      · skip
        cases z2 : (l.toList == l'.toList)
        · go_enter Try.func17, Try.ntmps17
          go_wp2_with fail
          go_ret
          exact ⟨ret_bool HF.out.symm, ((Below.refl _ _).alloc (Nat.le_refl _) _).alloc (by simp) _⟩
        · skip
          cases z3 : (u.toList == u'.toList)
          · go_enter Try.func17, Try.ntmps17
            go_wp2_with fail
            go_ret
            exact ⟨ret_bool HF.out.symm, ((Below.refl _ _).alloc (Nat.le_refl _) _).alloc (by simp) _⟩
          · skip
            cases z4 : (x.toList == x'.toList)
            · go_enter Try.func17, Try.ntmps17
              go_wp2_with fail
              go_ret
              exact ⟨ret_bool HF.out.symm, ((Below.refl _ _).alloc (Nat.le_refl _) _).alloc (by simp) _⟩
            · exact absurd ⟨by simpa using z0, by simpa using z1, by simpa using z2, by simpa using z3, by simpa using z4⟩ HNE.out
theorem impl_same_node (B B' : Nat) : ∀ n, ∀ (t t' : Tree) (h h' : Hdr) (w : World), tsize t < n → NodeIn w B t h → NodeIn w B' t' h' → ImplSameOk t t' h h' w
  | 0, t, t', h, h', w, ht, _, _ => by omega
  | n + 1, t, t', h, h', w, ht, hn, hn' => impl_same_node_of n B B' (fun a a' L M cap cap' w hk hL hM => eqKs_fn_of n B B' (fun t t' h h' w ht hn hn' => impl_same_node B B' n t t' h h' w ht hn hn') a a' L M cap cap' w hk hL hM) t t' h h' w (by omega) hn hn'
end Go.Proofs.Ytpejcblmglbjfaa.trees
namespace Go.Proofs.Ytpejcblmglbjfaa.trees
open Go.ChangeShapes Go.WideShapes Go.ChangeAt Go.RowKit
open pairs (Pair at0 PairsAt)
set_option linter.unusedVariables false
def ImplCntOk (t : Tree) (h : Hdr) (w : World) : Prop :=
  Calls Try.prog 23 #[.agg (vals t h)] w fun e w' => e = .returned (.int .i64 (cnt t : Int)) ∧ Below w.heap.size w w'
set_option maxRecDepth 100000 in
set_option maxHeartbeats 4000000 in
theorem impl_cnt_node_of (n B : Nat) (ih : ∀ (t : Tree) (h : Hdr) (w : World), tsize t < n → nsz t ≤ 3000000 → NodeIn w B t h → ImplCntOk t h w)
    (t : Tree) (h : Hdr) (w : World) (ht : tsize t ≤ n) (hz : nsz t ≤ 3000000) (hn : NodeIn w B t h) : ImplCntOk t h w := by
  have hkt := tsize_kid t
  have hcl := cnt_le t
  obtain ⟨k, p, l, u, x, ds, ats, ks⟩ := t
  obtain ⟨da, dc, aa, ac, ka, kc⟩ := h
  have HK : Hid (NodesAt w B ka ks) := kids_at hn
  have hka : ats.length ≤ 9223372036854775807 := hn.atts.short
  have hkk : ks.length ≤ 9223372036854775807 := (kids_at hn).short
  have hnz : nsz (.mk k p l u x ds ats ks) = p.size + l.size + u.size + (ds.length + pairs.sizeTo ds ds.length) + smallA ats + nszs ks + x.size := by rw [nsz]
  have HZ : Hid (nszs ks ≤ 3000000) := by show _ ≤ _; omega
  have hats : ats.length ≤ 3000001 := by rw [cnt] at hcl; omega
  have HCN : Hid (cnt (.mk k p l u x ds ats ks) = 1 + ats.length + cntTo ks ks.length) := by show _ = _; rw [cnt, cnts_eq]
  have HCB : Hid (cntTo ks ks.length ≤ 3000001) := by have h1 := HCN.out; show _ ≤ _; omega
  have HKT : Hid (∀ i, i < ks.length → tsize (kid ks i) < n) := fun i hi => Nat.lt_of_lt_of_le (hkt i hi) ht
  have HIH : Hid _ := ih
  unfold ImplCntOk
  rw [HCN.out]
  simp only [vals, Tree.kind, Tree.pre, Tree.loc, Tree.uri, Tree.text, Tree.ds, Tree.ats, Tree.kids]
  clear ih hn ht hz hnz hkt hcl
  go_enter Try.func23, Try.ntmps23
  go_wp2_with fail
  go_loopw [3, 13] (fun q t wr => ∃ i : Nat, i ≤ ks.length ∧ t = .int .i64 i ∧ q = .int .i64 (1 + (ats.length : Int) + (cntTo ks i : Int)) ∧ Hid (Below w.heap.size w wr)) (fun _ t _ => ks.length - (intOf t).toNat)
  case atStart => exact ⟨0, Nat.zero_le _, rfl, by simp [cntTo], (Below.refl _ _).alloc (Nat.le_refl _) _⟩
  case round =>
    obtain ⟨i, hi, rfl, rfl, hbw⟩ := hrel
    by_cases hlt : i < ks.length
    · obtain ⟨b, off, ha, hblt, hc⟩ := (HK.out.below hbw.out).row (by omega)
      obtain ⟨h', hnode, hc0, hc1, hc2, hc3, hc4, hc5, hc6, hc7⟩ := hc i hlt
      have hE := fun o => HIH.out (kid ks i) h' (wr.alloc o) (HKT.out i hlt) (by have h1 := nsz_kid ks i hlt; have h2 := HZ.out; omega) (hnode.below ((Below.refl _ _).alloc (Nat.le_refl _) o))
      unfold ImplCntOk at hE
      unfold vals at hE
      have hst : cntTo ks (i + 1) = cntTo ks i + cnt (kid ks i) := rfl
      have hmo := cntTo_mono ks (show i + 1 ≤ ks.length by omega)
      have hcb := HCB.out
      have hb1 : cntTo ks i ≤ 3000001 := by omega
      have hb2 : cnt (kid ks i) ≤ 3000001 := by omega
      generalize kid ks i = y at hc0 hc1 hc2 hc3 hc4 hc5 hc6 hc7 hE hst hb2
      have HE : Hid (∀ o, _) := hE
      have HST : Hid _ := hst
      subst ha
      clear hc hE hnode hst hmo hcb
      go_wp2_with fail
      refine Calls.mono (HE.out _) ?_
      rintro e w2 ⟨rfl, hb3⟩
      have HB2 : Hid _ := hbw.out.trans ((box_under hb3).mono hbw.out.size)
      clear hb3 HE
      go_wp2
      go_roundw
      case rel => exact ⟨i + 1, by omega, by go_num, (by rw [HST.out]; congr 1; omega), HB2.out⟩
      case measure => simp [intOf]; omega
    · obtain rfl : i = ks.length := by omega
      go_wp2
      go_ret
      exact ⟨ret_int (by omega), hbw.out⟩
theorem impl_cnt_node (B : Nat) : ∀ n, ∀ (t : Tree) (h : Hdr) (w : World), tsize t < n → nsz t ≤ 3000000 → NodeIn w B t h → ImplCntOk t h w
  | 0, t, h, w, ht, _, _ => by omega
  | n + 1, t, h, w, ht, hz, hn => impl_cnt_node_of n B (fun t h w ht hz hn => impl_cnt_node B n t h w ht hz hn) t h w (by omega) hz hn
end Go.Proofs.Ytpejcblmglbjfaa.trees
namespace Go.Proofs.Ytpejcblmglbjfaa.places
open Go.ChangeShapes Go.WideShapes Go.ChangeAt Go.RowKit
open trees (Tree Hdr vals noTree kid nsz nszs tsize ksize NodeIn NodesAt Bset Inc Apart Out Rng)
open ints (int0 okI IFit IntsAt MadeI)
set_option linter.unusedVariables false
set_option maxRecDepth 100000 in
set_option maxHeartbeats 4000000 in
theorem cut_ok (w : World) (B P rb T o n : Nat) (L : List (List Int)) (hl : Hid (Lay w B P rb T o L)) (hT : T ≤ 4398046511104) (hn : 0 < n) (hf : o + n ≤ T) :
    Calls Try.prog 82 #[.pointer (some ⟨P, 0, none⟩), .int .i64 n] w fun e w' => e = .returned (.slice (some ⟨rb, o, none⟩) n n) ∧ Lay w' B P rb T (o + n) L ∧ Out (fun b => b = P) w w' := by
  obtain ⟨q, v, h1, h2, h3⟩ := hl.out.box
  obtain rfl := h2 (by omega)
  have HX : Hid _ := h1
  have HO : Hid _ := h3
  obtain ⟨⟨a0, a1⟩, f0, f1⟩ := box2 h1
  obtain ⟨R, hR⟩ : ∃ R, T - q = R := ⟨_, rfl⟩
  rw [hR] at a0 HX
  have hr1 : n ≤ R := by omega
  have hr2 : R ≤ 4398046511104 := by omega
  have hr3 : ¬ n = 0 := by omega
  clear h1 h2 h3
  go_enter Try.func82, Try.ntmps82
  go_wp2
  · subst R
    go_ret
    have h1 := lay_cut (m := q + n) (q := q) hl.out hf (fun h => absurd h (by omega))
    rw [show T - (q + n) = 0 by omega] at h1
    exact ⟨rfl, h1⟩
  · go_ret
    have h1 := lay_cut (m := q + n) (q := q + n) hl.out hf (fun h => rfl)
    rw [show T - (q + n) = R - n by omega] at h1
    exact ⟨rfl, h1⟩
def NumsOk (t : Tree) (h : Hdr) (d : Nat) (w : World) : Prop :=
  Calls Try.prog 48 #[.agg (vals t h), .int .i64 d] w fun e w' => e = .returned (.int .i64 (numsT d t : Int)) ∧ Below w.heap.size w w'
theorem nums_small {d : Nat} {t : Tree} (h : d + nsz t ≤ 1048576) : numsT d t ≤ 4398046511104 := by
  refine Nat.le_trans (nums_le d t) (Nat.le_trans (Nat.mul_le_mul (show 1 + nsz t ≤ 1048577 by omega) h) (by decide))
set_option maxRecDepth 100000 in
set_option maxHeartbeats 4000000 in
theorem nums_of (n B : Nat) (ih : ∀ (t : Tree) (h : Hdr) (d : Nat) (w : World), tsize t < n → d + nsz t ≤ 1048576 → NodeIn w B t h → NumsOk t h d w)
    (t : Tree) (h : Hdr) (d : Nat) (w : World) (ht : tsize t ≤ n) (hz : d + nsz t ≤ 1048576) (hn : NodeIn w B t h) : NumsOk t h d w := by
  have hkt := trees.tsize_kid t
  have HS : Hid (numsT d t ≤ 4398046511104) := nums_small hz
  have HE : Hid (numsT d t = d + numsTs (d + 1) t.kids) := nums_eq d t
  have HZ : Hid (d + nszs t.kids ≤ 1048576) := by have := nsz_eq t; show _ ≤ _; omega
  have hd : d ≤ 1048576 := by omega
  obtain ⟨N, hN⟩ : ∃ N, numsT d t = N := ⟨_, rfl⟩
  unfold NumsOk
  rw [hN] at HS HE ⊢
  clear hN
  obtain ⟨k, p, l, u, x, ds, ats, ks⟩ := t
  obtain ⟨da, dc, aa, ac, ka, kc⟩ := h
  have HK : Hid (NodesAt w B ka ks) := trees.kids_at hn
  have hkk : ks.length ≤ 9223372036854775807 := (trees.kids_at hn).short
  have HKT : Hid (∀ i, i < ks.length → tsize (kid ks i) < n) := fun i hi => Nat.lt_of_lt_of_le (hkt i hi) ht
  have HIH : Hid _ := ih
  simp only [vals, Tree.kind, Tree.pre, Tree.loc, Tree.uri, Tree.text, Tree.ds, Tree.ats, Tree.kids] at *
  clear ih hn ht hz hkt
  go_enter Try.func48, Try.ntmps48
  go_wp2_with fail
  go_loopw [5, 12] (fun q t wr => ∃ (i c : Nat), i ≤ ks.length ∧ t = .int .i64 i ∧ q = .int .i64 (c : Int) ∧ Hid (d + numsTs (d + 1) (ks.take i) = c) ∧ Hid (Below w.heap.size w wr)) (fun _ t _ => ks.length - (intOf t).toNat)
  case atStart => exact ⟨0, d, Nat.zero_le _, rfl, rfl, by show _ = _; rw [List.take_zero, numsTs]; rfl, (Below.refl _ _).alloc (Nat.le_refl _) _⟩
  case round =>
    obtain ⟨i, c, hi, rfl, rfl, hc0, hbw⟩ := hrel
    by_cases hlt : i < ks.length
    · obtain ⟨b, off, ha, hblt, hc⟩ := (HK.out.below hbw.out).row (by omega)
      obtain ⟨h', hnode, hc0', hc1, hc2, hc3, hc4, hc5, hc6, hc7⟩ := hc i hlt
      have hy := nsz_kid1 ks i hlt
      have hE := fun o => HIH.out (kid ks i) h' (d + 1) (wr.alloc o) (HKT.out i hlt) (by have h2 := HZ.out; omega) (hnode.below ((Below.refl _ _).alloc (Nat.le_refl _) o))
      unfold NumsOk at hE
      unfold vals at hE
      have hst : d + numsTs (d + 1) (ks.take (i + 1)) = c + numsT (d + 1) (kid ks i) := by rw [nums_next (d + 1) hlt, ← hc0.out]; omega
      have hle := nums_take (d + 1) ks (i + 1)
      have hb1 : c + numsT (d + 1) (kid ks i) ≤ 4398046511104 := by have h1 := HS.out; have h2 := HE.out; omega
      generalize kid ks i = y at hc0' hc1 hc2 hc3 hc4 hc5 hc6 hc7 hE hst hb1
      generalize numsT (d + 1) y = z at hE hst hb1
      have HE2 : Hid (∀ o, _) := hE
      have HST : Hid _ := hst
      subst ha
      clear hc hE hnode hst hle hy
      go_wp2_with fail
      refine Calls.mono (HE2.out _) ?_
      rintro e w2 ⟨rfl, hb3⟩
      have HB2 : Hid _ := hbw.out.trans ((trees.box_under hb3).mono hbw.out.size)
      clear hb3 HE2
      go_wp2
      go_roundw
      case rel => exact ⟨i + 1, c + z, by omega, by go_num, by go_num, HST.out, HB2.out⟩
      case measure => simp [intOf]; omega
    · obtain rfl : i = ks.length := by omega
      have HNC : Hid (N = c) := by have h1 := hc0.out; rw [List.take_length] at h1; show _ = _; rw [HE.out, h1]
      go_wp2
      go_ret
      exact ⟨by rw [HNC.out]; rfl, hbw.out⟩
theorem nums_in (B : Nat) : ∀ n, ∀ (t : Tree) (h : Hdr) (d : Nat) (w : World), tsize t < n → d + nsz t ≤ 1048576 → NodeIn w B t h → NumsOk t h d w
  | 0, t, h, d, w, ht, _, _ => by omega
  | n + 1, t, h, d, w, ht, hz, hn => nums_of n B (fun t h d w a b c => nums_in B n t h d w a b c) t h d w (by omega) hz hn
def LayOk (w0 : World) (B P rb T : Nat) (t : Tree) (h : Hdr) (p : List Int) (L : List (List Int)) (w : World) : Prop :=
  Calls Try.prog 49 #[.pointer (some ⟨P, 0, none⟩), .agg (vals t h), pv rb L.flatten.length p] w fun e w' => e = .returned (.tuple #[]) ∧ Lay w' B P rb T (L ++ pathsT p t).flatten.length (L ++ pathsT p t) ∧ Room w' rb T (L ++ pathsT p t).flatten ∧ Below w0.heap.size w0 w'
/-- What holds ahead of lay. -/
structure LayPre (w0 w : World) (B P rb T : Nat) (t : Tree) (p : List Int) (L : List (List Int)) : Prop where
  lay : Lay w B P rb T (L.flatten.length + p.length) L
  room : Room w rb T (L.flatten ++ p)
  bel : Below w0.heap.size w0 w
  pl : w0.heap.size ≤ P
  rl : w0.heap.size ≤ rb
  nums : L.flatten.length + numsT p.length t ≤ T
  cap : T ≤ 4398046511104
  many : L.length + 1 + nsz t ≤ 1048577
  deep : p.length + nsz t ≤ 1048576
theorem pv_slice (rb o : Nat) (p : List Int) : ∃ a c, pv rb o p = .slice a p.length c := by
  unfold pv
  split
  · rename_i h
    exact ⟨none, 0, by rw [h]⟩
  · exact ⟨_, _, rfl⟩
set_option maxRecDepth 100000 in
set_option maxHeartbeats 16000000 in
theorem lay_of (n B' B P rb T : Nat) (w0 : World) (ih : ∀ t h p L w, tsize t < n → NodeIn w0 B' t h → LayPre w0 w B P rb T t p L → LayOk w0 B P rb T t h p L w) (t : Tree) (h : Hdr) (p : List Int) (L : List (List Int)) (w : World) (ht : tsize t ≤ n) (hn : NodeIn w0 B' t h) (hp : LayPre w0 w B P rb T t p L) : LayOk w0 B P rb T t h p L w := by
  have HIH : Hid _ := ih
  have HN : Hid (NodesAt w0 B' h.ka t.kids) := trees.kids_at hn
  have HZT : Hid (ksize t.kids < n) := by cases t; rw [tsize] at ht; show _ < _; simp only [Tree.kids]; omega
  have HIS : Hid (pathsT p t = p :: pathsTs p 0 t.kids) := paths_eq p t
  have HNE : Hid (numsT p.length t = p.length + numsTs (p.length + 1) t.kids) := nums_eq _ t
  have HNT : Hid (L.flatten.length + numsT p.length t ≤ T) := hp.nums
  have HML : Hid (L.length + 1 + nszs t.kids ≤ 1048577) := by have := hp.many; have := nsz_eq t; show _ ≤ _; omega
  have HDP : Hid (p.length + nszs t.kids ≤ 1048576) := by have := hp.deep; have := nsz_eq t; show _ ≤ _; omega
  have HLY : Hid _ := hp.lay
  have HRM : Hid _ := hp.room
  have HBW : Hid _ := hp.bel
  have hpl := hp.pl
  have hrl := hp.rl
  have hcap := hp.cap
  have hPB := hp.lay.pl
  have hrB := hp.lay.rl
  have hBw := hp.lay.le
  clear ih hn ht hp
  unfold LayOk
  obtain ⟨I, hI⟩ : ∃ I, pathsT p t = I := ⟨_, rfl⟩
  rw [hI] at HIS ⊢
  clear hI
  obtain ⟨N, hN⟩ : ∃ N, numsT p.length t = N := ⟨_, rfl⟩
  rw [hN] at HNE HNT
  clear hN
  obtain ⟨kd, pr, lo, ur, tx, ds, ats, ks⟩ := t
  obtain ⟨da, dc, aa, ac, ka, kc⟩ := h
  unfold vals at *
  simp only [Tree.kind, Tree.pre, Tree.loc, Tree.uri, Tree.text, Tree.ds, Tree.ats, Tree.kids] at *
  have hkl : ks.length ≤ 1048576 := by have := HDP.out; have := trees.nszs_eq ks; omega
  have hpz : p.length ≤ 1048576 := by have := HDP.out; omega
  have hLz : L.length ≤ 1048576 := by have := HML.out; omega
  obtain ⟨o, ho⟩ : ∃ o, L.flatten.length = o := ⟨_, rfl⟩
  have HOF : Hid (L.flatten.length = o) := ho
  rw [ho] at HNT HLY ⊢
  clear ho
  obtain ⟨ap, cp, hpv⟩ := pv_slice rb o p
  have HPV : Hid (pv rb o p = .slice ap p.length cp) := hpv
  rw [hpv]
  clear hpv
  obtain ⟨d, hd⟩ : ∃ d, p.length = d := ⟨_, rfl⟩
  have HD : Hid (p.length = d) := hd
  rw [hd] at hpz HPV HNE HLY ⊢
  clear hd
  have HSL : Hid ((slv rb 0 L ++ [.slice ap d cp] : List Value) = slv rb 0 L ++ [pv rb L.flatten.length p]) := by show _ = _; rw [HOF.out, HPV.out]
  have HB1 : Hid (Below w.heap.size w (w.alloc (.cells #[.int .i64 kd, .string pr, .string lo, .string ur, .slice da ds.length dc, .slice aa ats.length ac, .slice ka ks.length kc, .string tx] 28))) := (Below.refl _ _).alloc (Nat.le_refl _) _
  have HX1 : Hid ((w.alloc (.cells #[.int .i64 kd, .string pr, .string lo, .string ur, .slice da ds.length dc, .slice aa ats.length ac, .slice ka ks.length kc, .string tx] 28)).heap[w.heap.size]? = _) := heap_alloc_new w (.cells #[.int .i64 kd, .string pr, .string lo, .string ur, .slice da ds.length dc, .slice aa ats.length ac, .slice ka ks.length kc, .string tx] 28)
  go_enter Try.func49, Try.ntmps49
  obtain ⟨W1, hW1⟩ : ∃ W1, (w.alloc (.cells #[.int .i64 kd, .string pr, .string lo, .string ur, .slice da ds.length dc, .slice aa ats.length ac, .slice ka ks.length kc, .string tx] 28)) = W1 := ⟨_, rfl⟩
  have hs1 : W1.heap.size = w.heap.size + 1 := by rw [← hW1, World.size_alloc]
  rw [hW1] at HB1 HX1
  have HL1 : Hid (Lay W1 B P rb T (o + d) L) := HLY.out.below HB1.out
  have HR1 : Hid (Room W1 rb T (L.flatten ++ p)) := HRM.out.below HB1.out
  obtain ⟨q, v, hb1, hb2, hb3⟩ := HL1.out.box
  have HOW : Hid (W1.ownsRow B 32 1 v L.length (slv rb 0 L)) := hb3
  obtain ⟨⟨a0, a1⟩, f0, f1⟩ := box2 hb1
  have hBW : B ≤ W1.heap.size := by omega
  have HBX : Hid (v.ownBlock ≠ some w.heap.size) := fun e => by
    obtain ⟨q', v', c1, _, c3⟩ := HLY.out.box
    have e1 := (HB1.out.block P (pairs.lt_heap c1)).trans c1
    rw [hb1] at e1
    have e2 : v = v' := (show q = q' ∧ v = v' by simpa using (Obj.cells.inj (Option.some.inj e1)).1).2
    subst e2
    have := (World.ownsRow.lt c3 _ e).2
    omega
  clear hb1 hb2 hb3
  have HNE2 : Hid (rb ≠ P) := fun e => HL1.out.ne e.symm
  have hnP : ¬ P = w.heap.size := by omega
  have hnP' : ¬ w.heap.size = P := by omega
  go_wp2_with (at_builtin; refine add_slice B L.length v (slv rb 0 L) (.slice ap d cp) _ HOW.out (by rfl) hBW (by omega) (by rfl) _ _ (by rfl) (by rfl) _ (by rfl) (by omega) ?_; rintro g3 c3 w3 ho3 hb3 hs3 hk3; rw [HSL.out] at ho3; have HW3 : Hid (w3.heap[P]? = W1.heap[P]?) := hb3.block P hPB; have HL3 : Hid (Lay (w3.setCell ⟨P, 1, none⟩ (.slice (some ⟨g3, 0, none⟩) (L.length + 1) c3)) B P rb T (o + d) (L ++ [p])) := lay_more HL1.out a1 (fun k hk => hb3.block k hk) hs3 ho3; have HN3 : Hid (w3.heap[w.heap.size]? = _) := (hk3 w.heap.size (by omega) HBX.out).trans HX1.out; have HR3 : Hid (Room (w3.setCell ⟨P, 1, none⟩ (.slice (some ⟨g3, 0, none⟩) (L.length + 1) c3)) rb T (L.flatten ++ p)) := (HR1.out.kept (hb3.block rb hrB)).kept (Below.heap_setCell _ _ _ _ HNE2.out); have HB3 : Hid (Below w0.heap.size w0 (w3.setCell ⟨P, 1, none⟩ (.slice (some ⟨g3, 0, none⟩) (L.length + 1) c3))) := pairs.below_set ((HBW.out.trans (HB1.out.mono HBW.out.size)).trans (hb3.mono (by omega))) hpl; clear hk3 ho3 hs3 hb3 a0 a1 f0 f1; obtain ⟨b0, b1, b2, b3, b4, b5, b6, b7⟩ := trees.box8 HN3.out; obtain ⟨q3, v4, hb1, _⟩ := HL1.out.box; rw [← HW3.out] at hb1; obtain ⟨⟨a0, a1⟩, f0, f1⟩ := box2 hb1; clear hb1)
  obtain ⟨W4, hW4⟩ : ∃ W4, w3.setCell ⟨P, 1, none⟩ (.slice (some ⟨g3, 0, none⟩) (L.length + 1) c3) = W4 := ⟨_, rfl⟩
  rw [hW4] at HL3 HR3 HB3 ⊢
  clear hW4 hW1 hs1 hBW hnP hnP' a0 a1 f0 f1 b0 b1 b2 b3 b4 b5 b6 b7 HL1 HR1 HX1 HB1 HN3 HW3 HBX HOW HLY HRM HBW HSL
  have HNT2 : Hid (o + d + numsTs (d + 1) ks ≤ T) := by have h1 := HNE.out; have h2 := HNT.out; show _ ≤ _; omega
  have HM0 : Hid (L ++ [p] ++ pathsTs p 0 (ks.take 0) = L ++ [p]) := by show _ = _; rw [List.take_zero, pathsTs, List.append_nil]
  have HMF : Hid ((L ++ [p]).flatten = L.flatten ++ p ∧ (L ++ [p]).flatten.length = o + d) := by
    have e1 : (L ++ [p]).flatten = L.flatten ++ p := by rw [List.flatten_append, List.flatten_singleton]
    exact ⟨e1, by rw [e1, List.length_append, HOF.out, HD.out]⟩
  rw [← HMF.out.1] at HR3
  rw [← HMF.out.2] at HL3
  go_loopw [22] (fun t wr => ∃ (k : Nat) (M : List (List Int)), k ≤ ks.length ∧ t = .int .i64 k ∧ Hid (L ++ [p] ++ pathsTs p 0 (ks.take k) = M) ∧ Hid (Lay wr B P rb T M.flatten.length M) ∧ Hid (Room wr rb T M.flatten) ∧ Hid (Below w0.heap.size w0 wr)) (fun t _ => ks.length - (intOf t).toNat)
  case atStart => exact ⟨0, _, Nat.zero_le _, rfl, HM0, HL3, HR3, HB3⟩
  case round =>
    obtain ⟨k, M, hk, rfl, hM, hL, hR, hbw⟩ := hrel
    by_cases hlt : k < ks.length
    · obtain ⟨b, off, ha, hblt, hc⟩ := HN.out.row (by omega)
      obtain ⟨hd, hnode, hc0, hc1, hc2, hc3, hc4, hc5, hc6, hc7⟩ := hc k hlt
      have hks := trees.ksize_kid ks k hlt
      have hkz := nsz_kid1 ks k hlt
      obtain ⟨y, hy⟩ : ∃ y, kid ks k = y := ⟨_, rfl⟩
      have HNX : Hid (pathsTs p 0 (ks.take (k + 1)) = pathsTs p 0 (ks.take k) ++ pathsT (p ++ [(k : Int)]) y) := by show _ = _; rw [← hy]; exact paths_next p hlt
      have HRO : Hid ((pathsTs p 0 (ks.take k)).length + 1 + nsz y ≤ nszs ks) := by show _ ≤ _; rw [← hy]; exact pathss_room p hlt
      have HNN : Hid (numsTs (d + 1) (ks.take k) + numsT (d + 1) y ≤ numsTs (d + 1) ks) := by
        have h1 := nums_next (d + 1) hlt
        have h2 := nums_take (d + 1) ks (k + 1)
        rw [hy] at h1
        show _ ≤ _
        omega
      rw [hy] at hnode hc0 hc1 hc2 hc3 hc4 hc5 hc6 hc7 hks hkz
      have HMLn : Hid (M.flatten.length = o + d + numsTs (d + 1) (ks.take k) ∧ M.length = L.length + 1 + (pathsTs p 0 (ks.take k)).length ∧ M.flatten = L.flatten ++ (p ++ (pathsTs p 0 (ks.take k)).flatten)) := by
        have e1 := flats_len p 0 (ks.take k)
        have e2 := HMF.out.2
        rw [HD.out] at e1
        refine ⟨?_, ?_, ?_⟩
        · rw [← hM.out, List.flatten_append, List.length_append, e1, e2]
        · rw [← hM.out, List.length_append, List.length_append]; rfl
        · rw [← hM.out, List.flatten_append, HMF.out.1, List.append_assoc]
      have hny : d + 1 ≤ numsT (d + 1) y := by have := nums_eq (d + 1) y; omega
      obtain ⟨m, hm⟩ : ∃ m, M.flatten.length = m := ⟨_, rfl⟩
      have HMM : Hid (M.flatten.length = m) := hm
      rw [hm] at hL
      have hmT : m + numsT (d + 1) y ≤ T := by have h1 := HMLn.out.1; have h2 := HNN.out; have h3 := HNT2.out; omega
      have hmo : o + d ≤ m := by have h1 := HMLn.out.1; omega
      have HPM : Hid (∀ j, j < d → int0 M.flatten (o + j) = int0 p j) := fun j hj => by
        rw [HMLn.out.2.2, ← HOF.out]
        exact int_mid (by rw [HD.out]; exact hj)
      have hr8 : wr.cell? ⟨b, off + k * 8, none⟩ = some (.int .i64 y.kind) ∧ wr.cell? ⟨b, off + k * 8 + 1, none⟩ = some (.string y.pre) ∧ wr.cell? ⟨b, off + k * 8 + 2, none⟩ = some (.string y.loc) ∧ wr.cell? ⟨b, off + k * 8 + 3, none⟩ = some (.string y.uri) ∧ wr.cell? ⟨b, off + k * 8 + 4, none⟩ = some (.slice hd.da y.ds.length hd.dc) ∧ wr.cell? ⟨b, off + k * 8 + 5, none⟩ = some (.slice hd.aa y.ats.length hd.ac) ∧ wr.cell? ⟨b, off + k * 8 + 6, none⟩ = some (.slice hd.ka y.kids.length hd.kc) ∧ wr.cell? ⟨b, off + k * 8 + 7, none⟩ = some (.string y.text) := by
        have hk' := hbw.out.block b hblt
        rw [trees.cell_keep hk', trees.cell_keep hk', trees.cell_keep hk', trees.cell_keep hk', trees.cell_keep hk', trees.cell_keep hk', trees.cell_keep hk', trees.cell_keep hk']
        exact ⟨hc0, hc1, hc2, hc3, hc4, hc5, hc6, hc7⟩
      obtain ⟨e0, e1, e2, e3, e4, e5, e6, e7⟩ := hr8
      subst ha
      obtain ⟨w5, hw5⟩ : ∃ w5, wr.alloc (.cells #[.int .i64 y.kind, .string y.pre, .string y.loc, .string y.uri, .slice hd.da y.ds.length hd.dc, .slice hd.aa y.ats.length hd.ac, .slice hd.ka y.kids.length hd.kc, .string y.text] 28) = w5 := ⟨_, rfl⟩
      have HA5 : Hid (Below wr.heap.size wr w5) := by rw [← hw5]; exact (Below.refl _ _).alloc (Nat.le_refl _) _
      have hx5 := heap_alloc_new wr (.cells #[.int .i64 y.kind, .string y.pre, .string y.loc, .string y.uri, .slice hd.da y.ds.length hd.dc, .slice hd.aa y.ats.length hd.ac, .slice hd.ka y.kids.length hd.kc, .string y.text] 28)
      rw [hw5] at hx5
      have HX5 : Hid _ := hx5
      clear hx5
      have hcut := cut_ok w5 B P rb T m (d + 1) M (hL.out.below HA5.out) hcap (by omega) (by omega)
      push_cast at hcut
      have HC : Hid _ := hcut
      clear hcut
      have hbr : B ≤ wr.heap.size := hL.out.le
      clear hc hc0 hc1 hc2 hc3 hc4 hc5 hc6 hc7
      go_wp2_with fail
      refine Calls.mono HC.out ?_
      rintro e w6 ⟨rfl, hl6, ho6⟩
      have hs5 : wr.heap.size < w5.heap.size := pairs.lt_heap HX5.out
      have HL6 : Hid _ := hl6
      have HR6 : Hid (Room w6 rb T M.flatten) := (hR.out.below HA5.out).kept (ho6.block rb (by omega) HNE2.out)
      have HX6 : Hid (w6.heap[wr.heap.size]? = _) := (ho6.block wr.heap.size hs5 (fun e => by omega)).trans HX5.out
      have HB6 : Hid (Below w0.heap.size w0 w6) := ho6.below (hbw.out.trans (HA5.out.mono hbw.out.size)) (fun b hb => hb ▸ hpl) (Nat.le_trans hbw.out.size (by omega))
      have hrs : ¬ rb = wr.heap.size := by omega
      have hrs' : ¬ wr.heap.size = rb := by omega
      clear hl6 ho6 HC e0 e1 e2 e3 e4 e5 e6 e7
      obtain ⟨w7, hrun, hr7, ho7⟩ := copy_path w6 3 rb T m o d p M.flatten HD.out HMM.out HR6.out HPM.out (by omega) (by omega)
      rw [HPV.out] at hrun
      obtain ⟨⟨c7, hc7, hf7⟩, hr8⟩ := Room.set (o := m + d) (x := (k : Int)) hr7 (by rw [List.length_append, HMM.out, HD.out]) (by omega)
      have HR8 : Hid _ := hr8
      have HL7 : Hid _ := HL6.out.room ho7
      have HB7 : Hid (Below w0.heap.size w0 w7) := ho7.below HB6.out (fun b hb => hb ▸ hrl) HB6.out.size
      have hx7 := (ho7.block wr.heap.size (pairs.lt_heap HX6.out) (fun e => hrs' e)).trans HX6.out
      obtain ⟨e0, e1, e2, e3, e4, e5, e6, e7⟩ := trees.box8 hx7
      have HRUN : Hid _ := hrun
      clear hr8 hr7 ho7 hx7 hrun
      go_wp2_with fail
      refine pairs.upon_of_run HRUN.out ?_
      go_wp2_with fail
      obtain ⟨P2, hP2⟩ : ∃ P2, p ++ [(k : Int)] = P2 := ⟨_, rfl⟩
      have HP2 : Hid (P2.length = d + 1) := by show _ = _; rw [← hP2, List.length_append, HD.out]; rfl
      rw [hP2] at HNX
      rw [List.append_assoc, hP2] at HR8
      have HB8 : Hid (Below w0.heap.size w0 (w7.setCell ⟨rb, m + d, none⟩ (.int .i64 k))) := pairs.below_set HB7.out hrl
      have HL8 : Hid (Lay (w7.setCell ⟨rb, m + d, none⟩ (.int .i64 k)) B P rb T (m + (d + 1)) M) := HL7.out.room (Out.set (F := fun b => b = rb) (Out.refl _ _) rfl _ _)
      clear hP2 hc7 hf7 e0 e1 e2 e3 e4 e5 e6 e7
      have HPRE : Hid (LayPre w0 (w7.setCell ⟨rb, m + d, none⟩ (.int .i64 k)) B P rb T y P2 M) := by
        have h1 := HMLn.out
        have h2 := HRO.out
        have h3 := HML.out
        have h4 := HDP.out
        have h5 := HMM.out
        have h6 := HP2.out
        have h7 := HD.out
        have h8 := HMLn.out.2.1
        refine ⟨?_, HR8.out, HB8.out, hpl, hrl, ?_, hcap, ?_, ?_⟩
        · rw [h5, h6]; exact HL8.out
        · rw [h5, h6]; exact hmT
        · omega
        · omega
      have hcall := HIH.out y hd P2 M _ (by have := HZT.out; omega) hnode HPRE.out
      unfold LayOk at hcall
      rw [HMM.out, show pv rb m P2 = .slice (some ⟨rb, m, none⟩) (d + 1) (d + 1) by unfold pv; rw [HP2.out, if_neg (by omega)]] at hcall
      unfold vals at hcall
      have HCALL : Hid _ := hcall
      clear hcall HPRE HR8 HL8 HB8 hnode HL7 HB7 HX6 HR6 HB6 HL6
      refine Calls.mono HCALL.out ?_
      rintro e w9 ⟨rfl, hl9, hr9, hb9⟩
      obtain ⟨Y, hY⟩ : ∃ Y, pathsT P2 y = Y := ⟨_, rfl⟩
      rw [hY] at hl9 hr9 HNX
      have HL9 : Hid _ := hl9
      have HR9 : Hid _ := hr9
      have HB9 : Hid _ := hb9
      have HM9 : Hid (L ++ [p] ++ pathsTs p 0 (ks.take (k + 1)) = M ++ Y) := by show _ = _; rw [HNX.out, ← hM.out, List.append_assoc (L ++ [p])]
      clear hl9 hr9 hb9 hY HCALL
      go_wp2
      go_roundw
      case rel => exact ⟨k + 1, M ++ Y, by omega, by go_num, HM9.out, HL9.out, HR9.out, HB9.out⟩
      case measure => simp [intOf]; omega
    · obtain rfl : k = ks.length := by omega
      have HIM : Hid (M = L ++ I) := by
        have h1 := hM.out
        rw [List.take_length] at h1
        show _ = _
        rw [← h1, HIS.out, List.append_assoc]
        rfl
      go_wp2
      refine bodyPost_end (by simp [results, Try.results49, go_sem]; rfl) rfl ?_
      rw [← HIM.out]
      exact ⟨rfl, hL.out, hR.out, hbw.out⟩
theorem lay_all (B' B P rb T : Nat) (w0 : World) : ∀ n, ∀ (t : Tree) (h : Hdr) (p : List Int) (L : List (List Int)) (w : World), tsize t < n → NodeIn w0 B' t h → LayPre w0 w B P rb T t p L → LayOk w0 B P rb T t h p L w
  | 0, t, h, p, L, w, ht, _, _ => by omega
  | n + 1, t, h, p, L, w, ht, hn, hp => lay_of n B' B P rb T w0 (fun t h p L w a b c => lay_all B' B P rb T w0 n t h p L w a b c) t h p L w (by omega) hn hp
/-- What Places leaves: a row of slices, whose paths lie in one room, one behind the other. -/
structure Laid (w w' : World) (g c rb : Nat) (L : List (List Int)) : Prop where
  row : w'.ownsRow w.heap.size 32 1 (.slice (some ⟨g, 0, none⟩) L.length c) L.length (slv rb 0 L)
  room : Room w' rb L.flatten.length L.flatten
  rl : w.heap.size ≤ rb
theorem own_mono {w : World} {B B' : Nat} {e : TypeId} {size n : Nat} {v : Value} {xs : List Value} (h : w.ownsRow B e size v n xs) (hb : B' ≤ B) : w.ownsRow B' e size v n xs := by
  refine ⟨h.1, ?_⟩
  rcases h.2 with hn | ⟨g, cap, cur, rfl, h0, rest⟩
  · exact .inl hn
  · exact .inr ⟨g, cap, cur, rfl, Nat.le_trans hb h0, rest⟩
theorem room_new (w : World) (T : Nat) {w1 : World} {xs : List Value} (h : w1.ownsRow w.heap.size 3 1 (.slice (some ⟨w.heap.size, 0, none⟩) T T) T xs) : Room w1 w.heap.size T [] := by
  rcases h.2 with ⟨e, _⟩ | ⟨g, cap, cur, e, h0, h1, h2, h3, h4, h5⟩
  · cases e
  · cases e
    exact ⟨⟨cur, h1, by omega, fun j hj => absurd hj (by simp)⟩⟩
set_option maxRecDepth 100000 in
set_option maxHeartbeats 8000000 in
theorem impl_all (B' : Nat) (t : Tree) (h : Hdr) (w : World) (hz : nsz t ≤ 1048576) (hn : NodeIn w B' t h) :
    Calls Try.prog 11 #[.agg (vals t h)] w fun e w' => (∃ g c rb, e = .returned (.slice (some ⟨g, 0, none⟩) (pathsT [] t).length c) ∧ Laid w w' g c rb (pathsT [] t)) ∧ Below w.heap.size w w' := by
  have hnums := nums_small (d := 0) (t := t) (by omega)
  have HNI : Hid (∀ o, NumsOk t h 0 (w.alloc o)) := fun o => nums_in B' _ t h 0 _ (Nat.lt_succ_self _) (by omega) (hn.below ((Below.refl _ _).alloc (Nat.le_refl _) o))
  have HFL : Hid ((pathsT [] t).flatten.length = numsT 0 t) := flat_len [] t
  have HLAY : Hid (∀ B P rb W, LayPre w W B P rb (numsT 0 t) t [] [] → LayOk w B P rb (numsT 0 t) t h [] [] W) := fun B P rb W hp => lay_all B' B P rb _ w _ t h [] [] W (Nat.lt_succ_self _) hn hp
  have hne : 0 < (pathsT [] t).length := by rw [paths_eq]; simp
  have HZ : Hid (nsz t ≤ 1048576) := hz
  clear hn hz
  obtain ⟨T, hT⟩ : ∃ T, numsT 0 t = T := ⟨_, rfl⟩
  have HT : Hid (numsT 0 t = T) := hT
  unfold NumsOk at HNI
  unfold LayOk at HLAY
  rw [hT] at hnums HNI HFL HLAY
  clear hT
  obtain ⟨I, hI⟩ : ∃ I, pathsT [] t = I := ⟨_, rfl⟩
  rw [hI] at HFL HLAY hne ⊢
  clear hI
  obtain ⟨kd, pr, lo, ur, tx, ds, ats, ks⟩ := t
  obtain ⟨da, dc, aa, ac, ka, kc⟩ := h
  unfold vals at *
  simp only [Tree.kind, Tree.pre, Tree.loc, Tree.uri, Tree.text, Tree.ds, Tree.ats, Tree.kids] at *
  have HB1 : Hid (Below w.heap.size w (w.alloc (.cells #[.int .i64 kd, .string pr, .string lo, .string ur, .slice da ds.length dc, .slice aa ats.length ac, .slice ka ks.length kc, .string tx] 28))) := (Below.refl _ _).alloc (Nat.le_refl _) _
  have HX1 : Hid ((w.alloc (.cells #[.int .i64 kd, .string pr, .string lo, .string ur, .slice da ds.length dc, .slice aa ats.length ac, .slice ka ks.length kc, .string tx] 28)).heap[w.heap.size]? = _) := heap_alloc_new w (.cells #[.int .i64 kd, .string pr, .string lo, .string ur, .slice da ds.length dc, .slice aa ats.length ac, .slice ka ks.length kc, .string tx] 28)
  go_enter Try.func11, Try.ntmps11
  go_wp2_with fail
  refine Calls.mono (HNI.out _) ?_
  rintro e w1 ⟨rfl, hb1⟩
  have HB2 : Hid (Below w.heap.size w w1) := HB1.out.trans (hb1.mono HB1.out.size)
  have HX2 : Hid (w1.heap[w.heap.size]? = _) := trees.box_kept hb1
  clear hb1 HNI HX1 HB1
  go_wp2_with fail
  obtain ⟨i0, hi, hz0, hz1, hz2⟩ := info_parts infoI
  obtain ⟨w2, hrun, hown, hgr⟩ := run_make_full (P := Try.prog) w1 w1.heap.size 32 3 i0 (.int .i64 0) 1 Try.underlying32 hi hz0 hz1 .i64 .i64 T (by rw [hz2]; omega) (by unfold maxLen; omega) (Nat.le_refl _)
  have HR2 : Hid (Room w2 w1.heap.size T []) := room_new w1 T hown
  have HB3 : Hid (Below w1.heap.size w1 w2) := (Below.refl _ _).grown hgr (Nat.le_refl _) (fun k hk => by cases hk)
  have hlt : w1.heap.size < w2.heap.size := HR2.out.lt
  have HX3 : Hid (w2.heap[w.heap.size]? = _) := box_bel HX2.out HB3.out
  have HB4 : Hid (Below w.heap.size w w2) := HB2.out.trans (HB3.out.mono HB2.out.size)
  have hx4 := heap_alloc_new w2 (.cells #[.slice (some ⟨w1.heap.size, 0, none⟩) T T, .slice none 0 0] 73)
  have hb4 : Below w2.heap.size w2 (w2.alloc (.cells #[.slice (some ⟨w1.heap.size, 0, none⟩) T T, .slice none 0 0] 73)) := (Below.refl _ _).alloc (Nat.le_refl _) _
  obtain ⟨b0, b1, b2, b3, b4, b5, b6, b7⟩ := trees.box8 (box_bel HX3.out hb4)
  have HPRE : Hid (LayPre w (w2.alloc (.cells #[.slice (some ⟨w1.heap.size, 0, none⟩) T T, .slice none 0 0] 73)) (w2.heap.size + 1) w2.heap.size w1.heap.size T (.mk kd pr lo ur tx ds ats ks) [] []) := by
    have h1 := HB2.out.size
    have h2 := HB4.out.size
    refine ⟨⟨Nat.lt_succ_self _, by omega, by omega, by simp, Nat.zero_le _, 0, _, ?_, fun _ => rfl, rfl, .inl ⟨rfl, rfl⟩⟩, HR2.out.below hb4, HB4.out.trans (hb4.mono h2), h2, h1, ?_, hnums, ?_, ?_⟩
    · rw [hx4]
      rfl
    · have := HT.out; simp only [List.flatten_nil, List.length_nil]; omega
    · have := HZ.out; simp only [List.length_nil]; omega
    · have := HZ.out; simp only [List.length_nil]; omega
  have HC : Hid _ := HLAY.out _ _ _ _ HPRE.out
  have HRUN : Hid _ := hrun
  have HBS : Hid (w.heap.size ≤ w2.heap.size ∧ w.heap.size ≤ w1.heap.size) := ⟨HB4.out.size, HB2.out.size⟩
  clear HLAY HPRE hx4 hb4 hrun hown hgr HX3 HX2 HR2 hi hz0 hz1 hz2
  refine pairs.upon_of_run HRUN.out ?_
  go_wp2_with fail
  refine Calls.mono HC.out ?_
  rintro e w4 ⟨rfl, hl4, hr4, hb4⟩
  rw [List.nil_append] at hl4 hr4
  obtain ⟨q, v, c1, c2, c3⟩ := hl4.box
  obtain ⟨g, c, rfl⟩ : ∃ g c, v = .slice (some ⟨g, 0, none⟩) I.length c := by
    rcases c3.2 with ⟨_, h0⟩ | ⟨g', cap', cur, h0, _⟩
    · exact absurd h0 (by omega)
    · exact ⟨g', cap', h0⟩
  have HO4 : Hid (w4.ownsRow w.heap.size 32 1 (.slice (some ⟨g, 0, none⟩) I.length c) I.length (slv w1.heap.size 0 I)) := own_mono c3 (by have := HBS.out.1; omega)
  have HR4 : Hid (Room w4 w1.heap.size I.flatten.length I.flatten) := by rw [HFL.out]; exact hr4
  have HB5 : Hid _ := hb4
  obtain ⟨⟨a0, a1⟩, f0, f1⟩ := box2 c1
  clear hl4 hr4 hb4 c1 c2 c3 b0 b1 b2 b3 b4 b5 b6 b7 HC HRUN
  go_wp2
  go_ret
  exact ⟨⟨g, c, w1.heap.size, rfl, ⟨HO4.out, HR4.out, HBS.out.2⟩⟩, HB5.out⟩
end Go.Proofs.Ytpejcblmglbjfaa.places
