/-
  What the specification's NodeAt answers.
-/
import Derived.Test.YtpejcblmglbjfaaPathP
import Derived.Test.YtpejcblmglbjfaaSpecCopy
namespace Go.Proofs.Ytpejcblmglbjfaa.paths
open Go.ChangeShapes Go.WideShapes Go.ChangeAt Go.RowKit
open trees (Tree Hdr vals noTree kid nsz nszs tsize ksize NodeIn NodesAt OwnN Rng Out T3 box8 box_froz CopyOk)
open ints (IntsAt int0 okI)
set_option linter.unusedVariables false
def noHdr : Hdr := ⟨none, 0, none, 0, none, 0⟩
/-- What NodeAt answers, in memory. -/
def AtAns (r : Tree × Bool) (w w' : World) (e : Ending) : Prop := ∃ h', e = .returned (.tuple #[.agg (vals r.1 h'), .bool r.2]) ∧ OwnN w' r.1 h' (Rng w w')
def AtOk (f : FuncId) (t : Tree) (h : Hdr) (P : List Int) (a : Option Addr) (cap : Nat) (w : World) : Prop :=
  Calls Try.prog f #[.agg (vals t h), .slice a P.length cap] w fun e w' => AtAns (atR t P) w w' e ∧ Below w.heap.size w w'
theorem none_own (w : World) (F : trees.Bset) : OwnN w noTree noHdr F := by
  unfold noTree
  rw [OwnN]
  refine ⟨⟨⟨⟨by decide, by decide, by decide, by decide, by decide, by decide⟩, by decide⟩, ⟨by decide, fun i hi => by cases hi⟩, ⟨by decide, fun i hi => by cases hi⟩⟩, fun _ => False, fun _ => False, fun _ => False, ⟨fun _ h => h.elim, fun _ h => h.elim, fun _ h => h.elim⟩, ⟨fun _ h => h.elim, fun _ h => h.elim, fun _ h => h.elim⟩, fun h => absurd h (by decide), fun h => absurd h (by decide), fun h => absurd h (by decide)⟩
theorem put8 {α : Type} (c0 c1 c2 c3 c4 c5 c6 c7 u0 u1 u2 u3 u4 u5 u6 u7 : α) : (((((((#[c0, c1, c2, c3, c4, c5, c6, c7].setIfInBounds 0 u0).setIfInBounds 1 u1).setIfInBounds 2 u2).setIfInBounds 3 u3).setIfInBounds 4 u4).setIfInBounds 5 u5).setIfInBounds 6 u6).setIfInBounds 7 u7 = #[u0, u1, u2, u3, u4, u5, u6, u7] := by simp
theorem T3.put {w W : World} {P : Array Value} {c0 c1 c2 c3 c4 c5 c6 c7 : Value} (h : T3 w W P #[c0, c1, c2, c3, c4, c5, c6, c7]) (u0 u1 u2 u3 u4 u5 u6 u7 : Value) : T3 w ((((((((W.setCell ⟨w.heap.size + 1 + 1, 0, none⟩ u0).setCell ⟨w.heap.size + 1 + 1, 1, none⟩ u1).setCell ⟨w.heap.size + 1 + 1, 2, none⟩ u2).setCell ⟨w.heap.size + 1 + 1, 3, none⟩ u3).setCell ⟨w.heap.size + 1 + 1, 4, none⟩ u4).setCell ⟨w.heap.size + 1 + 1, 5, none⟩ u5).setCell ⟨w.heap.size + 1 + 1, 6, none⟩ u6).setCell ⟨w.heap.size + 1 + 1, 7, none⟩ u7) P #[u0, u1, u2, u3, u4, u5, u6, u7] := by
  have h8 := (((((((h.set 0 u0).set 1 u1).set 2 u2).set 3 u3).set 4 u4).set 5 u5).set 6 u6).set 7 u7
  rw [put8] at h8
  exact h8
theorem out8 {F : trees.Bset} {w w' : World} {g : Nat} (h : Out F w w') (hg : F g) (u0 u1 u2 u3 u4 u5 u6 u7 : Value) : Out F w (((((((((w').setCell ⟨g, 0, none⟩ u0).setCell ⟨g, 1, none⟩ u1).setCell ⟨g, 2, none⟩ u2).setCell ⟨g, 3, none⟩ u3).setCell ⟨g, 4, none⟩ u4).setCell ⟨g, 5, none⟩ u5).setCell ⟨g, 6, none⟩ u6).setCell ⟨g, 7, none⟩ u7) := ((((((((h).set hg 0 u0).set hg 1 u1).set hg 2 u2).set hg 3 u3).set hg 4 u4).set hg 5 u5).set hg 6 u6).set hg 7 u7
theorem below8 {B : Nat} {w w' : World} {g : Nat} (h : Below B w w') (hg : B ≤ g) (u0 u1 u2 u3 u4 u5 u6 u7 : Value) : Below B w (((((((((w').setCell ⟨g, 0, none⟩ u0).setCell ⟨g, 1, none⟩ u1).setCell ⟨g, 2, none⟩ u2).setCell ⟨g, 3, none⟩ u3).setCell ⟨g, 4, none⟩ u4).setCell ⟨g, 5, none⟩ u5).setCell ⟨g, 6, none⟩ u6).setCell ⟨g, 7, none⟩ u7) := (pairs.below_set (pairs.below_set (pairs.below_set (pairs.below_set (pairs.below_set (pairs.below_set (pairs.below_set (pairs.below_set h hg) hg) hg) hg) hg) hg) hg) hg)
/-- A Kid's cells, for as long as nothing old turns. -/
theorem kid_cells {w : World} {B : Nat} {kd : Int} {p l u x : ByteArray} {ds : List pairs.Pair} {ats : List trees.Att} {ks : List Tree} {h : Hdr} {n : Nat} (hn : NodeIn w B (.mk kd p l u x ds ats ks) h) (hk : n < ks.length) : ∃ (rb ro : Nat) (kd' : Int) (p' l' u' x' : ByteArray) (ds' : List pairs.Pair) (ats' : List trees.Att) (ks' : List Tree) (da : Option Addr) (dc : Nat) (aa : Option Addr) (ac : Nat) (ka : Option Addr) (kc : Nat),
    h.ka = some ⟨rb, ro, none⟩ ∧ kid ks n = .mk kd' p' l' u' x' ds' ats' ks' ∧ NodeIn w B (.mk kd' p' l' u' x' ds' ats' ks') ⟨da, dc, aa, ac, ka, kc⟩ ∧ ∀ W, Below w.heap.size w W →
      (W.cell? ⟨rb, ro + n * 8, none⟩ = some (.int .i64 kd') ∧ W.cell? ⟨rb, ro + n * 8 + 1, none⟩ = some (.string p') ∧ W.cell? ⟨rb, ro + n * 8 + 2, none⟩ = some (.string l') ∧ W.cell? ⟨rb, ro + n * 8 + 3, none⟩ = some (.string u')) ∧
      W.cell? ⟨rb, ro + n * 8 + 4, none⟩ = some (.slice da ds'.length dc) ∧ W.cell? ⟨rb, ro + n * 8 + 5, none⟩ = some (.slice aa ats'.length ac) ∧ W.cell? ⟨rb, ro + n * 8 + 6, none⟩ = some (.slice ka ks'.length kc) ∧ W.cell? ⟨rb, ro + n * 8 + 7, none⟩ = some (.string x') := by
  have hrow := (trees.kids_at hn).row (by show 0 < ks.length; omega)
  obtain ⟨rb, ro, hra, hrlt, hrc⟩ := hrow
  obtain ⟨h', hnode, c0, c1, c2, c3, c4, c5, c6, c7⟩ := hrc n hk
  obtain ⟨kd', p', l', u', x', ds', ats', ks', hkid⟩ : ∃ a b c d e f g i, kid ks n = .mk a b c d e f g i := by
    cases kid ks n
    exact ⟨_, _, _, _, _, _, _, _, rfl⟩
  obtain ⟨da, dc, aa, ac, ka, kc⟩ := h'
  simp only [Tree.kids, hkid, Tree.kind, Tree.pre, Tree.loc, Tree.uri, Tree.text, Tree.ds, Tree.ats] at hnode c0 c1 c2 c3 c4 c5 c6 c7
  refine ⟨rb, ro, kd', p', l', u', x', ds', ats', ks', da, dc, aa, ac, ka, kc, hra, hkid, hnode, fun W hb => ?_⟩
  rw [hb.cell (p := ⟨rb, ro + n * 8, none⟩) hrlt, hb.cell (p := ⟨rb, ro + n * 8 + 1, none⟩) hrlt, hb.cell (p := ⟨rb, ro + n * 8 + 2, none⟩) hrlt, hb.cell (p := ⟨rb, ro + n * 8 + 3, none⟩) hrlt, hb.cell (p := ⟨rb, ro + n * 8 + 4, none⟩) hrlt, hb.cell (p := ⟨rb, ro + n * 8 + 5, none⟩) hrlt, hb.cell (p := ⟨rb, ro + n * 8 + 6, none⟩) hrlt, hb.cell (p := ⟨rb, ro + n * 8 + 7, none⟩) hrlt]
  exact ⟨⟨c0, c1, c2, c3⟩, c4, c5, c6, c7⟩
set_option maxRecDepth 100000 in
set_option maxHeartbeats 8000000 in
theorem spec_nodeAt (B : Nat) (t : Tree) (h : Hdr) (P : List Int) (a : Option Addr) (cap : Nat) (w : World) (hz : nsz t ≤ 1048576) (hn : NodeIn w B t h) (hP : IntsAt w a P) : AtOk 14 t h P a cap w := by
  have HN : Hid (NodeIn w B t h) := hn
  have HZ : Hid (nsz t ≤ 1048576) := hz
  have HP : Hid (IntsAt w a P) := hP
  have hlen := hP.short
  unfold maxLen at hlen
  clear hn hz hP
  unfold AtOk
  have HT0 : Hid (T3 w _ (vals t h) (vals t h)) := T3.new w _ _
  obtain ⟨k0, p0, l0, u0, x0, ds0, ats0, ks0⟩ := t
  obtain ⟨da0, dc0, aa0, ac0, ka0, kc0⟩ := h
  simp only [vals, Tree.kind, Tree.pre, Tree.loc, Tree.uri, Tree.text, Tree.ds, Tree.ats, Tree.kids] at HT0 ⊢
  obtain ⟨T, hT⟩ : ∃ T : Tree, T = .mk k0 p0 l0 u0 x0 ds0 ats0 ks0 := ⟨_, rfl⟩
  obtain ⟨H, hH⟩ : ∃ H : Hdr, H = ⟨da0, dc0, aa0, ac0, ka0, kc0⟩ := ⟨_, rfl⟩
  rw [← hT] at HN HZ ⊢
  rw [← hH] at HN
  go_enter Try.func14, Try.ntmps14
  obtain ⟨W3, hW3⟩ : ∃ W3, ((w.alloc (.cells #[.int .i64 k0, .string p0, .string l0, .string u0, .slice da0 ds0.length dc0, .slice aa0 ats0.length ac0, .slice ka0 ks0.length kc0, .string x0] 28)).alloc (.cells #[.int .i64 0, .string ⟨#[]⟩, .string ⟨#[]⟩, .string ⟨#[]⟩, .slice none 0 0, .slice none 0 0, .slice none 0 0, .string ⟨#[]⟩] 28)).alloc (.cells #[.int .i64 k0, .string p0, .string l0, .string u0, .slice da0 ds0.length dc0, .slice aa0 ats0.length ac0, .slice ka0 ks0.length kc0, .string x0] 28) = W3 := ⟨_, rfl⟩
  rw [hW3] at HT0
  go_wp2_with fail
  clear hW3
  have HR0 : Hid (atT T (P.take 0) = some T ∧ NodeIn w B T H) := ⟨rfl, HN.out⟩
  rw [show some T = some (Tree.mk k0 p0 l0 u0 x0 ds0 ats0 ks0) by rw [hT], hH] at HR0
  rw [show NodeIn w B T = NodeIn w B (Tree.mk k0 p0 l0 u0 x0 ds0 ats0 ks0) by rw [hT]] at HR0
  have HTH : Hid (T = .mk k0 p0 l0 u0 x0 ds0 ats0 ks0) := hT
  clear hT hH
  go_loopw [7] (fun t wr => ∃ (k : Nat) (kd : Int) (p l u x : ByteArray) (ds : List pairs.Pair) (ats : List trees.Att) (ks : List Tree) (da : Option Addr) (dc : Nat) (aa : Option Addr) (ac : Nat) (ka : Option Addr) (kc : Nat), k ≤ P.length ∧ t = .int .i64 k ∧ Hid (atT T (P.take k) = some (.mk kd p l u x ds ats ks) ∧ NodeIn w B (.mk kd p l u x ds ats ks) ⟨da, dc, aa, ac, ka, kc⟩) ∧
    Hid (T3 w wr #[.int .i64 k0, .string p0, .string l0, .string u0, .slice da0 ds0.length dc0, .slice aa0 ats0.length ac0, .slice ka0 ks0.length kc0, .string x0] #[.int .i64 kd, .string p, .string l, .string u, .slice da ds.length dc, .slice aa ats.length ac, .slice ka ks.length kc, .string x])) (fun t _ => P.length - (intOf t).toNat)
  case atStart => exact ⟨0, k0, p0, l0, u0, x0, ds0, ats0, ks0, da0, dc0, aa0, ac0, ka0, kc0, Nat.zero_le _, rfl, HR0, HT0⟩
  case round =>
    obtain ⟨k, kd, p, l, u, x, ds, ats, ks, da, dc, aa, ac, ka, kc, hk, rfl, hR, hT⟩ := hrel
    by_cases hlt : k < P.length
    · obtain ⟨b, off, ha, hblt, hc⟩ := (HP.out.below (Nat.le_refl _) hT.out.bel).row (by omega)
      have hl := hc k hlt
      subst ha
      obtain ⟨i, hi⟩ : ∃ i, int0 P k = i := ⟨_, rfl⟩
      have HI : Hid (int0 P k = i ∧ okI i) := ⟨hi, by rw [← hi]; exact HP.out.fit k hlt⟩
      have hok := HI.out.2
      unfold okI at hok
      rw [hi] at hl
      clear hc hi
      obtain ⟨o0, o1, o2, o3, o4, o5, o6, o7⟩ := box8 hT.out.out
      have hkl : ks.length ≤ 1048576 := by
        have h1 := at_nsz _ _ _ hR.out.1
        have h2 := HZ.out
        rw [nsz] at h1
        have h3 := trees.nszs_eq ks
        omega
      by_cases hin : 0 ≤ i ∧ i < ks.length
      · have hib : inB 0 ((ks.length : Int) - 1) i = true := decide_eq_true ⟨hin.1, by omega⟩
        obtain ⟨n, rfl⟩ : ∃ n : Nat, i = n := ⟨i.toNat, by omega⟩
        have hst := step_yes (t := .mk kd p l u x ds ats ks) (i := (n : Int)) hin
        have hat := at_next hlt hR.out.1
        rw [HI.out.1, hst] at hat
        have hnk : n < ks.length := by omega
        obtain ⟨rb, ro, kd', p', l', u', x', ds', ats', ks', da', dc', aa', ac', ka', kc', hra, hkid, hnode, hcells⟩ := kid_cells hR.out.2 hnk
        obtain ⟨⟨c0, c1, c2, c3⟩, c4, c5, c6, c7⟩ := hcells wr hT.out.bel
        have HAT : Hid (atT T (P.take (k + 1)) = some (.mk kd' p' l' u' x' ds' ats' ks') ∧ NodeIn w B (.mk kd' p' l' u' x' ds' ats' ks') ⟨da', dc', aa', ac', ka', kc'⟩) := ⟨by rw [hat]; show some (kid ks ((n : Int)).toNat) = _; rw [Int.toNat_natCast, hkid], hnode⟩
        have hra' : ka = some ⟨rb, ro, none⟩ := hra
        subst hra'
        obtain ⟨f0, f1, f2, f3, f4, f5, f6, f7⟩ := box_froz hT.out.out
        clear hat hst hnode hcells hkid hra
        have HIB : Hid _ := hib
        clear hib
        go_wp2_with fail
        go_quiet ((go_at_call 53; exact Calls.quiet_of_same (in_is HIB.out _)))
        go_wp2_with fail
        go_region
        all_goals go_wp2
        all_goals go_roundw
        all_goals first
          | (case rel => exact ⟨k + 1, kd', p', l', u', x', ds', ats', ks', da', dc', aa', ac', ka', kc', by omega, by go_num, HAT, T3.put (hT.out.below (below_drewN (Below.refl _ _) _).drew) _ _ _ _ _ _ _ _⟩)
          | (case measure => simp [intOf]; omega)
      · have hib : inB 0 ((ks.length : Int) - 1) i = false := decide_eq_false (fun e => hin ⟨e.1, by omega⟩)
        have HST : Hid (atR T P = (noTree, false)) := by
          have h1 := at_stop hlt hR.out.1 (by rw [HI.out.1]; exact step_no hin)
          show _ = _
          unfold atR
          rw [h1]
        have HIB : Hid _ := hib
        clear hib
        go_wp2_with fail
        go_quiet ((go_at_call 53; exact Calls.quiet_of_same (in_is HIB.out _)))
        clear o0 o1 o2 o3 o4 o5 o6 o7
        obtain ⟨r0, r1, r2, r3, r4, r5, r6, r7⟩ := box8 hT.out.res
        obtain ⟨s0, s1, s2, s3, s4, s5, s6, s7⟩ := box_froz hT.out.res
        go_wp2
        refine bodyPost_ret (by simp [results, Try.results14, go_sem, r0, r1, r2, r3, r4, r5, r6, r7]; try rfl) rfl ?_
        rw [HST.out]
        exact ⟨⟨noHdr, rfl, none_own _ _⟩, pairs.below_set (pairs.below_set (pairs.below_set (pairs.below_set (pairs.below_set (pairs.below_set (pairs.below_set (pairs.below_set (below_drewN hT.out.bel _) (by omega)) (by omega)) (by omega)) (by omega)) (by omega)) (by omega)) (by omega)) (by omega)⟩
    · obtain rfl : k = P.length := by omega
      have HX : Hid (atT T P = some (.mk kd p l u x ds ats ks) ∧ NodeIn w B (.mk kd p l u x ds ats ks) ⟨da, dc, aa, ac, ka, kc⟩) := by have := hR.out; rw [List.take_length] at this; exact this
      have HAR : Hid (atR T P = (.mk kd p l u x ds ats ks, true)) := by show _ = _; unfold atR; rw [HX.out.1]
      have hxz : nsz (.mk kd p l u x ds ats ks) ≤ 1048576 := Nat.le_trans (at_nsz _ _ _ HX.out.1) HZ.out
      have hc := trees.spec_copy B _ _ _ wr (Nat.lt_succ_self _) hxz (HX.out.2.below hT.out.bel)
      unfold CopyOk at hc
      simp only [vals, Tree.kind, Tree.pre, Tree.loc, Tree.uri, Tree.text, Tree.ds, Tree.ats, Tree.kids] at hc
      have HC : Hid _ := hc
      clear hc hxz
      obtain ⟨o0, o1, o2, o3, o4, o5, o6, o7⟩ := box8 hT.out.out
      go_wp2_with fail
      refine Calls.mono HC.out ?_
      rintro e w5 ⟨⟨h', rfl, ho⟩, hb⟩
      obtain ⟨da', dc', aa', ac', ka', kc'⟩ := h'
      have HT5 : Hid _ := hT.out.below hb
      have HO5 : Hid (OwnN w5 (.mk kd p l u x ds ats ks) ⟨da', dc', aa', ac', ka', kc'⟩ (Rng wr w5)) := ho
      have hs5 := hT.out.size
      have HS5 : Hid (wr.heap.size ≤ w5.heap.size) := hb.size
      clear hb ho HC o0 o1 o2 o3 o4 o5 o6 o7
      obtain ⟨r0, r1, r2, r3, r4, r5, r6, r7⟩ := box8 HT5.out.res
      obtain ⟨s0, s1, s2, s3, s4, s5, s6, s7⟩ := box_froz HT5.out.res
      go_wp2
      refine bodyPost_ret (by simp [results, Try.results14, go_sem, r0, r1, r2, r3, r4, r5, r6, r7]; try rfl) rfl ?_
      rw [HAR.out]
      refine ⟨⟨⟨da', dc', aa', ac', ka', kc'⟩, rfl, ?_⟩, pairs.below_set (pairs.below_set (pairs.below_set (pairs.below_set (pairs.below_set (pairs.below_set (pairs.below_set (pairs.below_set HT5.out.bel (by omega)) (by omega)) (by omega)) (by omega)) (by omega)) (by omega)) (by omega)) (by omega)⟩
      have hout : Out (fun b => b = w.heap.size + 1) w5 _ := out8 (F := fun b => b = w.heap.size + 1) (g := w.heap.size + 1) (Out.refl _ w5) rfl (.int .i64 kd) (.string p) (.string l) (.string u) (.slice da' ds.length dc') (.slice aa' ats.length ac') (.slice ka' ks.length kc') (.string x)
      refine (HO5.out.out hout (fun b hb e => by have := hb.1; omega)).sub (trees.Rng.wide (by omega) hout.size)
end Go.Proofs.Ytpejcblmglbjfaa.paths
