/-
  At every argument the law FnExactPlaces returns true: Places answers as its specification at every argument, writes nothing into it, keeps nothing of it, and its answer owns its memory. No condition.
  The frame is after the kit's own program (proof-skeleton.mjs); the walk is ours.
-/
import Derived.Test.YtpejcblmglbjfaaRows
import Derived.Test.YtpejcblmglbjfaaSpecPlaces
import Derived.Test.YtpejcblmglbjfaaImplPlaces
import Derived.Test.YtpejcblmglbjfaaPathFns
import Derived.Test.YtpejcblmglbjfaaToOwn
import Derived.Test.YtpejcblmglbjfaaNodeHeldV
import Derived.Test.YtpejcblmglbjfaaNodeEq
import Derived.Test.YtpejcblmglbjfaaNodeOpen
import Derived.Test.YtpejcblmglbjfaaCalmTail
import Derived.WalkKit
import Derived.ProofKit
import Derived.OpenShut
import Derived.ShutString
import Derived.ChangeOld
import Derived.Below
import Derived.LaidMore
import Derived.OpenVars
namespace Go.Proofs.Ytpejcblmglbjfaa.fnExactPlaces
open Go.ChangeShapes Go.WideShapes Go.ChangeAt Go.RowKit Go.WideMaps Go.WideElems
open Go.ChangeMaps (open_string shut_string)
set_option linter.unusedVariables false

theorem own : ownKnob Try.prog.godebug = none := by kernel_rfl
theorem laidOut : laidOutB Try.prog = true := by kernel_rfl

theorem bx_below {w w' : World} {b : Nat} {o : Obj} (h : w.heap[b]? = some o) (hb : Below w.heap.size w w') : w'.heap[b]? = some o := (hb.block b (pairs.lt_heap h)).trans h
/-- Owned, as one word (OwnN is laid open by the unifier). -/
structure OwnV (w : World) (t : trees.Tree) (h : trees.Hdr) (F : trees.Bset) : Prop where
  own : trees.OwnN w t h F
theorem OwnV.below {w w' : World} {t : trees.Tree} {h : trees.Hdr} {F : trees.Bset} (hn : OwnV w t h F) (hb : Below w.heap.size w w') : OwnV w' t h F := ⟨hn.own.below hb⟩
theorem OwnV.out {w w' : World} {t : trees.Tree} {h : trees.Hdr} {F G : trees.Bset} (hn : OwnV w t h F) (ho : trees.Out G w w') (hd : trees.Apart F G) : OwnV w' t h F := ⟨hn.own.out ho hd⟩
theorem OwnV.in {w : World} {t : trees.Tree} {h : trees.Hdr} {F : trees.Bset} (hn : OwnV w t h F) : trees.NodeIn w 0 t h := hn.own.in
theorem short_of {L : List trees.Tree} (hz : trees.nszs L ≤ 1048576) : L.length ≤ maxLen := by
  have := trees.nszs_eq L
  unfold maxLen
  omega
theorem szn {k : Int} {p l u x : ByteArray} {ds : List pairs.Pair} {ats : List trees.Att} {ks : List trees.Tree} {w : World} {h : trees.Hdr} (hn : trees.NodeIn w 0 (.mk k p l u x ds ats ks) h) : Calls Try.prog 30 #[.agg #[.int .i64 k, .string p, .string l, .string u, .slice h.da ds.length h.dc, .slice h.aa ats.length h.ac, .slice h.ka ks.length h.kc, .string x], .int .i64 1048576] w fun e w' => (∃ r : Int, e = .returned (.int .i64 r) ∧ (0 ≤ r → r = 1048576 - trees.nsz (.mk k p l u x ds ats ks))) ∧ Below w.heap.size w w' := by
  have := trees.sz_node 0 _ (.mk k p l u x ds ats ks) h w 1048576 (Nat.lt_succ_self _) (Nat.le_refl _) hn
  unfold trees.SzOk at this
  exact this
theorem ton {k : Int} {p l u x : ByteArray} {ds : List pairs.Pair} {ats : List trees.Att} {ks : List trees.Tree} {w : World} {h : trees.Hdr} (hz : trees.nsz (.mk k p l u x ds ats ks) ≤ 1048576) (hn : trees.NodeIn w 0 (.mk k p l u x ds ats ks) h) : Calls Try.prog 31 #[.agg #[.int .i64 k, .string p, .string l, .string u, .slice h.da ds.length h.dc, .slice h.aa ats.length h.ac, .slice h.ka ks.length h.kc, .string x]] w fun e w' => (∃ h' : trees.Hdr, e = .returned (.agg #[.int .i64 k, .string p, .string l, .string u, .slice h'.da ds.length h'.dc, .slice h'.aa ats.length h'.ac, .slice h'.ka ks.length h'.kc, .string x]) ∧ OwnV w' (.mk k p l u x ds ats ks) h' (trees.Rng w w')) ∧ Below w.heap.size w w' := by
  have := trees.to_own 0 _ (.mk k p l u x ds ats ks) h w (Nat.lt_succ_self _) hz hn
  unfold trees.ToOwn at this
  exact this.mono fun e w' ⟨⟨h', he, ho⟩, hb⟩ => ⟨⟨h', he, ⟨ho⟩⟩, hb⟩
theorem eqn {k : Int} {p l u x : ByteArray} {ds : List pairs.Pair} {ats : List trees.Att} {ks : List trees.Tree} {w : World} {h h' : trees.Hdr} (hn : trees.NodeIn w 0 (.mk k p l u x ds ats ks) h) (hn' : trees.NodeIn w 0 (.mk k p l u x ds ats ks) h') : Calls Try.prog 33 #[.agg #[.int .i64 k, .string p, .string l, .string u, .slice h.da ds.length h.dc, .slice h.aa ats.length h.ac, .slice h.ka ks.length h.kc, .string x], .agg #[.int .i64 k, .string p, .string l, .string u, .slice h'.da ds.length h'.dc, .slice h'.aa ats.length h'.ac, .slice h'.ka ks.length h'.kc, .string x]] w fun e w' => e = .returned (.bool true) ∧ Below w.heap.size w w' := by
  have := trees.eq_node 0 0 _ (.mk k p l u x ds ats ks) h h' w (Nat.lt_succ_self _) hn hn'
  unfold trees.EqOk at this
  exact this
theorem marn {k : Int} {p l u x : ByteArray} {ds : List pairs.Pair} {ats : List trees.Att} {ks : List trees.Tree} {w : World} {h : trees.Hdr} {q : Nat} {F : trees.Bset} (hz : trees.nsz (.mk k p l u x ds ats ks) ≤ 1048576) (hq : 1 + trees.cntN (.mk k p l u x ds ats ks) = q) (hn : OwnV w (.mk k p l u x ds ats ks) h F) : Calls Try.prog 35 #[.agg #[.int .i64 k, .string p, .string l, .string u, .slice h.da ds.length h.dc, .slice h.aa ats.length h.ac, .slice h.ka ks.length h.kc, .string x], .int .i64 1] w fun e w' => (e = .returned (.int .i64 (q : Int)) ∧ OwnV w' (trees.mkN (.mk k p l u x ds ats ks) 1) h F) ∧ trees.Out F w w' := (trees.mark_nd (.mk k p l u x ds ats ks) h 1 q F w hz (by omega) hq hn.own).mono fun e w' hh => ⟨⟨hh.1, ⟨hh.2.1⟩⟩, hh.2.2⟩
theorem heln {k : Int} {p l u x : ByteArray} {ds : List pairs.Pair} {ats : List trees.Att} {ks : List trees.Tree} {w : World} {h : trees.Hdr} {q : Nat} {F : trees.Bset} (hz : trees.nsz (.mk k p l u x ds ats ks) ≤ 1048576) (hq : 1 + trees.cntN (.mk k p l u x ds ats ks) = q) (hn : OwnV w (trees.mkN (.mk k p l u x ds ats ks) 1) h F) : Calls Try.prog 37 #[.agg #[.int .i64 k, .string p, .string l, .string u, .slice h.da ds.length h.dc, .slice h.aa ats.length h.ac, .slice h.ka ks.length h.kc, .string x], .int .i64 1] w fun e w' => e = .returned (.int .i64 (q : Int)) ∧ Below w.heap.size w w' := trees.held_nd (.mk k p l u x ds ats ks) h 1 q F w hz (by omega) hq hn.own
theorem pl_spec {k : Int} {p l u x : ByteArray} {ds : List pairs.Pair} {ats : List trees.Att} {ks : List trees.Tree} {w : World} {I : List (List Int)} {h : trees.Hdr} (hI : places.pathsT [] (.mk k p l u x ds ats ks) = I) (hz : trees.nsz (.mk k p l u x ds ats ks) ≤ 1048576) (hn : trees.NodeIn w 0 (.mk k p l u x ds ats ks) h) : Calls Try.prog 42 #[.agg #[.int .i64 k, .string p, .string l, .string u, .slice h.da ds.length h.dc, .slice h.aa ats.length h.ac, .slice h.ka ks.length h.kc, .string x]] w fun e w' => (∃ (g : Nat) (c : Nat), e = .returned (.slice (some ⟨g, 0, none⟩) I.length c) ∧ places.ShowV w' g I (trees.Rng w w')) ∧ Below w.heap.size w w' := by
  have := places.spec_all 0 (.mk k p l u x ds ats ks) h w hz hn
  rw [hI] at this
  exact this.mono fun e w' ⟨⟨g, c, S, he, hr, hp⟩, hb⟩ => ⟨⟨g, c, he, places.show_of hr hp⟩, hb⟩
theorem pl_impl {k : Int} {p l u x : ByteArray} {ds : List pairs.Pair} {ats : List trees.Att} {ks : List trees.Tree} {w : World} {I : List (List Int)} {h : trees.Hdr} (hI : places.pathsT [] (.mk k p l u x ds ats ks) = I) (hz : trees.nsz (.mk k p l u x ds ats ks) ≤ 1048576) (hn : trees.NodeIn w 0 (.mk k p l u x ds ats ks) h) : Calls Try.prog 11 #[.agg #[.int .i64 k, .string p, .string l, .string u, .slice h.da ds.length h.dc, .slice h.aa ats.length h.ac, .slice h.ka ks.length h.kc, .string x]] w fun e w' => (∃ (g : Nat) (c : Nat) (rb : Nat), e = .returned (.slice (some ⟨g, 0, none⟩) I.length c) ∧ places.LaidV w' g rb I (trees.Rng w w')) ∧ Below w.heap.size w w' := by
  have := places.impl_all 0 (.mk k p l u x ds ats ks) h w hz hn
  rw [hI] at this
  exact this.mono fun e w' ⟨⟨g, c, rb, he, hr⟩, hb⟩ => ⟨⟨g, c, rb, he, places.laid_of hr⟩, hb⟩

/-! ### The walk: the law returns true, and nothing that was there has turned -/
set_option maxRecDepth 100000 in
set_option maxHeartbeats 16000000 in
theorem walk (t0 : trees.Tree) (hd0 : trees.Hdr) (w : World) (w0 : trees.NodeIn w 0 t0 hd0) :
    Calls Try.prog 8 #[.agg (trees.vals t0 hd0)] w fun e w' => e = .returned (.bool true) ∧ Below w.heap.size w w' := by
  obtain ⟨k, p, l, u, x, ds, ats, ks⟩ := t0
  have HN : Hid (∀ W, Below w.heap.size w W → trees.NodeIn W 0 (.mk k p l u x ds ats ks) hd0) := fun W hb => w0.below hb
  simp only [trees.vals, trees.Tree.kind, trees.Tree.pre, trees.Tree.loc, trees.Tree.uri, trees.Tree.text, trees.Tree.ds, trees.Tree.ats, trees.Tree.kids]
  clear w0
  obtain ⟨I, hI⟩ : ∃ I, places.pathsT [] (.mk k p l u x ds ats ks) = I := ⟨_, rfl⟩
  have HI : Hid _ := hI
  obtain ⟨kn, hkn⟩ : ∃ q, 1 + trees.cntN (.mk k p l u x ds ats ks) = q := ⟨_, rfl⟩
  have HKN : Hid _ := hkn
  obtain ⟨kg, hkg⟩ : ∃ q, 1 + I.flatten.length = q := ⟨_, rfl⟩
  have HKG : Hid _ := hkg
  clear hI hkn hkg
  have HB0 : Hid (Below w.heap.size w (w.alloc (.cells #[.int .i64 k, .string p, .string l, .string u, .slice hd0.da ds.length hd0.dc, .slice hd0.aa ats.length hd0.ac, .slice hd0.ka ks.length hd0.kc, .string x] 52))) := (Below.refl _ _).alloc (Nat.le_refl _) _
  have HXN_0 : Hid ((w.alloc (.cells #[.int .i64 k, .string p, .string l, .string u, .slice hd0.da ds.length hd0.dc, .slice hd0.aa ats.length hd0.ac, .slice hd0.ka ks.length hd0.kc, .string x] 52)).heap[w.heap.size]? = _) := heap_alloc_new w (.cells #[.int .i64 k, .string p, .string l, .string u, .slice hd0.da ds.length hd0.dc, .slice hd0.aa ats.length hd0.ac, .slice hd0.ka ks.length hd0.kc, .string x] 52)
  go_enter Try.func8, Try.ntmps8
  obtain ⟨z0, hz0⟩ : ∃ z0, w.alloc (.cells #[.int .i64 k, .string p, .string l, .string u, .slice hd0.da ds.length hd0.dc, .slice hd0.aa ats.length hd0.ac, .slice hd0.ka ks.length hd0.kc, .string x] 52) = z0 := ⟨_, rfl⟩
  rw [hz0] at HB0 HXN_0
  have HL_0 : Hid (w.heap.size + 1 ≤ z0.heap.size) := pairs.lt_heap HXN_0.out
  obtain ⟨n0, n1, n2, n3, n4, n5, n6, n7⟩ := trees.box8 HXN_0.out
  go_wp2_with fail
  clear hz0
  refine Calls.mono (szn (HN.out _ HB0.out)) ?_
  rintro e z1 ⟨⟨r, rfl, hr⟩, hb⟩
  have HB1 : Hid (Below w.heap.size w z1) := HB0.out.trans (hb.mono HB0.out.size)
  have HL_1 : Hid (z0.heap.size ≤ z1.heap.size) := hb.size
  have HXN_1 : Hid _ := bx_below HXN_0.out hb
  clear hb HXN_0 n0 n1 n2 n3 n4 n5 n6 n7
  by_cases hneg : r < 0
  · go_wp2
    go_ret
    exact ⟨rfl, HB1.out⟩
  have HZ : Hid (trees.nsz (.mk k p l u x ds ats ks) ≤ 1048576) := by have := hr (by omega); show _ ≤ _; omega
  clear hr
  have HF : Hid (places.LFit I) := by have := places.fit_all HZ.out; rwa [HI.out] at this
  have HKB : Hid (kn ≤ 20000000) := by have := trees.cntN_le (.mk k p l u x ds ats ks) HZ.out; have := HKN.out; show _ ≤ _; omega
  have hkg : kg ≤ 8796093022208 := by have := HF.out.2.2; have := HKG.out; omega
  obtain ⟨n0, n1, n2, n3, n4, n5, n6, n7⟩ := trees.box8 HXN_1.out
  go_wp2_with fail
  refine Calls.mono (ton HZ.out (HN.out _ HB1.out)) ?_
  rintro e z2 ⟨⟨hS, rfl, ho⟩, hb⟩
  have HB2 : Hid (Below w.heap.size w z2) := HB1.out.trans (hb.mono HB1.out.size)
  have HL_2 : Hid (z1.heap.size ≤ z2.heap.size) := hb.size
  have HXN_2 : Hid _ := bx_below HXN_1.out hb
  have HS_2 : Hid _ := ho
  clear hb HXN_1 ho n0 n1 n2 n3 n4 n5 n6 n7
  go_wp2_with fail
  refine Calls.mono (pl_spec HI.out HZ.out HS_2.out.in) ?_
  rintro e z3 ⟨⟨gW, cW, rfl, ho⟩, hb⟩
  have HB3 : Hid (Below w.heap.size w z3) := HB2.out.trans (hb.mono HB2.out.size)
  have HL_3 : Hid (z2.heap.size ≤ z3.heap.size) := hb.size
  have HXN_3 : Hid _ := bx_below HXN_2.out hb
  have HS_3 : Hid _ := OwnV.below HS_2.out hb
  have HW_3 : Hid _ := ho
  clear hb HXN_2 HS_2 ho
  clear HS_3
  obtain ⟨n0, n1, n2, n3, n4, n5, n6, n7⟩ := trees.box8 HXN_3.out
  go_wp2_with fail
  refine Calls.mono (ton HZ.out (HN.out _ HB3.out)) ?_
  rintro e z4 ⟨⟨hX, rfl, ho⟩, hb⟩
  have HB4 : Hid (Below w.heap.size w z4) := HB3.out.trans (hb.mono HB3.out.size)
  have HL_4 : Hid (z3.heap.size ≤ z4.heap.size) := hb.size
  have HXN_4 : Hid _ := bx_below HXN_3.out hb
  have HW_4 : Hid _ := places.ShowV.below HW_3.out hb
  have HX_4 : Hid _ := ho
  clear hb HXN_3 HW_3 ho n0 n1 n2 n3 n4 n5 n6 n7
  obtain ⟨n0, n1, n2, n3, n4, n5, n6, n7⟩ := trees.box8 (heap_alloc_new z4 (.cells #[.int .i64 k, .string p, .string l, .string u, .slice hX.da ds.length hX.dc, .slice hX.aa ats.length hX.ac, .slice hX.ka ks.length hX.kc, .string x] 28))
  go_wp2_with fail
  clear n0 n1 n2 n3 n4 n5 n6 n7
  obtain ⟨z5, hz⟩ : ∃ z, z4.alloc (.cells #[.int .i64 k, .string p, .string l, .string u, .slice hX.da ds.length hX.dc, .slice hX.aa ats.length hX.ac, .slice hX.ka ks.length hX.kc, .string x] 28) = z := ⟨_, rfl⟩
  have hb : Below z4.heap.size z4 z5 := hz ▸ (Below.refl _ _).alloc (Nat.le_refl _) _
  have HBX_5 : Hid (z5.heap[z4.heap.size]? = _) := hz ▸ heap_alloc_new z4 (.cells #[.int .i64 k, .string p, .string l, .string u, .slice hX.da ds.length hX.dc, .slice hX.aa ats.length hX.ac, .slice hX.ka ks.length hX.kc, .string x] 28)
  have HB5 : Hid (Below w.heap.size w z5) := HB4.out.trans (hb.mono HB4.out.size)
  have HL_5 : Hid (z4.heap.size + 1 ≤ z5.heap.size) := by show _ ≤ _; rw [← hz]; simp
  have HXN_5 : Hid _ := bx_below HXN_4.out hb
  have HW_5 : Hid _ := places.ShowV.below HW_4.out hb
  have HX_5 : Hid _ := OwnV.below HX_4.out hb
  first | rw [hz] | skip
  clear hb hz HXN_4 HW_4 HX_4
  refine Calls.mono (pl_impl HI.out HZ.out HX_5.out.in) ?_
  rintro e z6 ⟨⟨gG, cG, rG, rfl, ho⟩, hb⟩
  have HB6 : Hid (Below w.heap.size w z6) := HB5.out.trans (hb.mono HB5.out.size)
  have HL_6 : Hid (z5.heap.size ≤ z6.heap.size) := hb.size
  have HXN_6 : Hid _ := bx_below HXN_5.out hb
  have HW_6 : Hid _ := places.ShowV.below HW_5.out hb
  have HX_6 : Hid _ := OwnV.below HX_5.out hb
  have HBX_6 : Hid _ := bx_below HBX_5.out hb
  have HG_6 : Hid _ := ho
  clear hb HXN_5 HW_5 HX_5 HBX_5 ho
  go_wp2_with fail
  refine Calls.mono (places.eq_rows _ _ _ _ _ _ _ _ HF.out HG_6.out.shows HW_6.out) ?_
  rintro e z7 ⟨rfl, hb⟩
  have HB7 : Hid (Below w.heap.size w z7) := HB6.out.trans (hb.mono HB6.out.size)
  have HL_7 : Hid (z6.heap.size ≤ z7.heap.size) := hb.size
  have HXN_7 : Hid _ := bx_below HXN_6.out hb
  have HW_7 : Hid _ := places.ShowV.below HW_6.out hb
  have HX_7 : Hid _ := OwnV.below HX_6.out hb
  have HBX_7 : Hid _ := bx_below HBX_6.out hb
  have HG_7 : Hid _ := places.LaidV.below HG_6.out hb
  clear hb HXN_6 HW_6 HX_6 HBX_6 HG_6
  go_wp2_with fail
  have hl0 : ∀ W, Below z7.heap.size z7 W → W.heap[_]? = _ := fun W h => bx_below HBX_7.out h
  have hm0 := fun W h => trees.box8 (hl0 W h)
  have hl1 : ∀ W, Below z7.heap.size z7 W → W.heap[_]? = _ := fun W h => bx_below HXN_7.out h
  have hm1 := fun W h => trees.box8 (hl1 W h)
  apply quiets.wp_region_mask z7 (Below.refl _ _) [true, true] (hm := by kernel_rfl) (hB := by kernel_rfl) (hwalk := ?walk7) (htail := ?tail7)
  case walk7 =>
    intro C hC0 hC1
    simp only [quiets.onB, cond_true]
    repeat (go_big_quiet_step ((first | (intro hq; rfl) | (intro hq; simp [go_sem, (hm0 _ (hC0 _ hq)).1, (hm0 _ (hC0 _ hq)).2.1, (hm0 _ (hC0 _ hq)).2.2.1, (hm0 _ (hC0 _ hq)).2.2.2.1, (hm0 _ (hC0 _ hq)).2.2.2.2.1, (hm0 _ (hC0 _ hq)).2.2.2.2.2.1, (hm0 _ (hC0 _ hq)).2.2.2.2.2.2.1, (hm0 _ (hC0 _ hq)).2.2.2.2.2.2.2]; rfl) | (intro hq; simp [go_sem, (hm1 _ (hC0 _ hq)).1, (hm1 _ (hC0 _ hq)).2.1, (hm1 _ (hC0 _ hq)).2.2.1, (hm1 _ (hC0 _ hq)).2.2.2.1, (hm1 _ (hC0 _ hq)).2.2.2.2.1, (hm1 _ (hC0 _ hq)).2.2.2.2.2.1, (hm1 _ (hC0 _ hq)).2.2.2.2.2.2.1, (hm1 _ (hC0 _ hq)).2.2.2.2.2.2.2]; rfl))))
    exact wpQuiet_nil rfl
  clear hm0 hl0 hm1 hl1
  intro z8 hb
  have HB8 : Hid (Below w.heap.size w z8) := HB7.out.trans (hb.mono HB7.out.size)
  have HL_8 : Hid (z7.heap.size ≤ z8.heap.size) := hb.size
  have HXN_8 : Hid _ := bx_below HXN_7.out hb
  have HW_8 : Hid _ := places.ShowV.below HW_7.out hb
  have HX_8 : Hid _ := OwnV.below HX_7.out hb
  have HBX_8 : Hid _ := bx_below HBX_7.out hb
  have HG_8 : Hid _ := places.LaidV.below HG_7.out hb
  have HD8 : Hid (Below z7.heap.size z7 z8) := hb
  clear hb HXN_7 HW_7 HX_7 HBX_7 HG_7
  simp only [quiets.offB, cond_true]
  refine quiets.tail_cons fun z9 hb => ?_
  have HB9 : Hid (Below w.heap.size w z9) := HB8.out.trans (hb.mono HB8.out.size)
  have HL_9 : Hid (z8.heap.size ≤ z9.heap.size) := hb.size
  have HXN_9 : Hid _ := bx_below HXN_8.out hb
  have HW_9 : Hid _ := places.ShowV.below HW_8.out hb
  have HX_9 : Hid _ := OwnV.below HX_8.out hb
  have HBX_9 : Hid _ := bx_below HBX_8.out hb
  have HG_9 : Hid _ := places.LaidV.below HG_8.out hb
  have HD9 : Hid (Below z7.heap.size z7 z9) := HD8.out.trans (hb.mono HD8.out.size)
  clear hb HD8 HXN_8 HW_8 HX_8 HBX_8 HG_8
  go_wp2_with fail
  refine Calls.mono (ton HZ.out (HN.out _ HB9.out)) ?_
  rintro e z10 ⟨⟨hc, rfl, ho⟩, hb⟩
  have HB10 : Hid (Below w.heap.size w z10) := HB9.out.trans (hb.mono HB9.out.size)
  have HL_10 : Hid (z9.heap.size ≤ z10.heap.size) := hb.size
  have HXN_10 : Hid _ := bx_below HXN_9.out hb
  have HW_10 : Hid _ := places.ShowV.below HW_9.out hb
  have HX_10 : Hid _ := OwnV.below HX_9.out hb
  have HBX_10 : Hid _ := bx_below HBX_9.out hb
  have HG_10 : Hid _ := places.LaidV.below HG_9.out hb
  have HD10 : Hid (Below z7.heap.size z7 z10) := HD9.out.trans (hb.mono HD9.out.size)
  have HC_10 : Hid _ := ho
  clear hb HD9 HXN_9 HW_9 HX_9 HBX_9 HG_9 ho
  go_wp2_with fail
  refine ⟨HD10.out, ?_⟩
  refine quiets.tail_cons fun z11 hb => ?_
  have HB11 : Hid (Below w.heap.size w z11) := HB10.out.trans (hb.mono HB10.out.size)
  have HL_11 : Hid (z10.heap.size ≤ z11.heap.size) := hb.size
  have HXN_11 : Hid _ := bx_below HXN_10.out hb
  have HW_11 : Hid _ := places.ShowV.below HW_10.out hb
  have HX_11 : Hid _ := OwnV.below HX_10.out hb
  have HBX_11 : Hid _ := bx_below HBX_10.out hb
  have HG_11 : Hid _ := places.LaidV.below HG_10.out hb
  have HC_11 : Hid _ := OwnV.below HC_10.out hb
  have HD11 : Hid (Below z7.heap.size z7 z11) := HD10.out.trans (hb.mono HD10.out.size)
  clear hb HD10 HXN_10 HW_10 HX_10 HBX_10 HG_10 HC_10
  go_wp2_with fail
  refine Calls.mono (eqn HX_11.out.in HC_11.out.in) ?_
  rintro e z12 ⟨rfl, hb⟩
  have HB12 : Hid (Below w.heap.size w z12) := HB11.out.trans (hb.mono HB11.out.size)
  have HL_12 : Hid (z11.heap.size ≤ z12.heap.size) := hb.size
  have HXN_12 : Hid _ := bx_below HXN_11.out hb
  have HW_12 : Hid _ := places.ShowV.below HW_11.out hb
  have HX_12 : Hid _ := OwnV.below HX_11.out hb
  have HBX_12 : Hid _ := bx_below HBX_11.out hb
  have HG_12 : Hid _ := places.LaidV.below HG_11.out hb
  have HC_12 : Hid _ := OwnV.below HC_11.out hb
  have HD12 : Hid (Below z7.heap.size z7 z12) := HD11.out.trans (hb.mono HD11.out.size)
  clear hb HD11 HXN_11 HW_11 HX_11 HBX_11 HG_11 HC_11
  go_wp2_with fail
  refine ⟨HD12.out, ?_⟩
  refine quiets.tail_cons fun z13 hb => ?_
  have HB13 : Hid (Below w.heap.size w z13) := HB12.out.trans (hb.mono HB12.out.size)
  have HL_13 : Hid (z12.heap.size ≤ z13.heap.size) := hb.size
  have HXN_13 : Hid _ := bx_below HXN_12.out hb
  have HW_13 : Hid _ := places.ShowV.below HW_12.out hb
  have HX_13 : Hid _ := OwnV.below HX_12.out hb
  have HBX_13 : Hid _ := bx_below HBX_12.out hb
  have HG_13 : Hid _ := places.LaidV.below HG_12.out hb
  have HC_13 : Hid _ := OwnV.below HC_12.out hb
  have HD13 : Hid (Below z7.heap.size z7 z13) := HD12.out.trans (hb.mono HD12.out.size)
  clear hb HD12 HXN_12 HW_12 HX_12 HBX_12 HG_12 HC_12
  go_wp2_with fail
  refine ⟨HD13.out, ?_⟩
  refine quiets.tail_nil fun z14 hb => ?_
  have HB14 : Hid (Below w.heap.size w z14) := HB13.out.trans (hb.mono HB13.out.size)
  have HL_14 : Hid (z13.heap.size ≤ z14.heap.size) := hb.size
  have HXN_14 : Hid _ := bx_below HXN_13.out hb
  have HW_14 : Hid _ := places.ShowV.below HW_13.out hb
  have HX_14 : Hid _ := OwnV.below HX_13.out hb
  have HBX_14 : Hid _ := bx_below HBX_13.out hb
  have HG_14 : Hid _ := places.LaidV.below HG_13.out hb
  have HC_14 : Hid _ := OwnV.below HC_13.out hb
  clear hb HD13 HXN_13 HW_13 HX_13 HBX_13 HG_13 HC_13
  clear HC_14
  obtain ⟨n0, n1, n2, n3, n4, n5, n6, n7⟩ := trees.box8 HBX_14.out
  go_wp2_with fail
  clear n0 n1 n2 n3 n4 n5 n6 n7
  refine Calls.mono (marn HZ.out HKN.out HX_14.out) ?_
  rintro e z15 ⟨⟨rfl, -⟩, hout⟩
  have HB15 : Hid (Below w.heap.size w z15) := trees.Out.below hout HB14.out (fun b hb => Nat.le_trans HB3.out.size hb.1) HB14.out.size
  have HL_15 : Hid (z14.heap.size ≤ z15.heap.size) := hout.size
  have HXN_15 : Hid _ := (hout.block _ (pairs.lt_heap HXN_14.out) (fun hc => by have := hc.1; have := hc.2; have := HL_0.out; have := HL_1.out; have := HL_2.out; have := HL_3.out; have := HL_4.out; have := HL_5.out; have := HL_6.out; have := HL_7.out; have := HL_8.out; have := HL_9.out; have := HL_10.out; have := HL_11.out; have := HL_12.out; have := HL_13.out; have := HL_14.out; omega)).trans HXN_14.out
  have HW_15 : Hid _ := places.ShowV.out HW_14.out hout (fun b hb hc => by have := hb.1; have := hb.2; have := hc.1; have := hc.2; have := HL_0.out; have := HL_1.out; have := HL_2.out; have := HL_3.out; have := HL_4.out; have := HL_5.out; have := HL_6.out; have := HL_7.out; have := HL_8.out; have := HL_9.out; have := HL_10.out; have := HL_11.out; have := HL_12.out; have := HL_13.out; have := HL_14.out; omega)
  have HBX_15 : Hid _ := (hout.block _ (pairs.lt_heap HBX_14.out) (fun hc => by have := hc.1; have := hc.2; have := HL_0.out; have := HL_1.out; have := HL_2.out; have := HL_3.out; have := HL_4.out; have := HL_5.out; have := HL_6.out; have := HL_7.out; have := HL_8.out; have := HL_9.out; have := HL_10.out; have := HL_11.out; have := HL_12.out; have := HL_13.out; have := HL_14.out; omega)).trans HBX_14.out
  have HG_15 : Hid _ := places.LaidV.out HG_14.out hout (fun b hb hc => by have := hb.1; have := hb.2; have := hc.1; have := hc.2; have := HL_0.out; have := HL_1.out; have := HL_2.out; have := HL_3.out; have := HL_4.out; have := HL_5.out; have := HL_6.out; have := HL_7.out; have := HL_8.out; have := HL_9.out; have := HL_10.out; have := HL_11.out; have := HL_12.out; have := HL_13.out; have := HL_14.out; omega)
  clear hout HXN_14 HW_14 HX_14 HBX_14 HG_14
  clear HBX_15
  go_wp2_with fail
  refine Calls.mono (places.eq_rows _ _ _ _ _ _ _ _ HF.out HG_15.out.shows HW_15.out) ?_
  rintro e z16 ⟨rfl, hb⟩
  have HB16 : Hid (Below w.heap.size w z16) := HB15.out.trans (hb.mono HB15.out.size)
  have HL_16 : Hid (z15.heap.size ≤ z16.heap.size) := hb.size
  have HXN_16 : Hid _ := bx_below HXN_15.out hb
  have HW_16 : Hid _ := places.ShowV.below HW_15.out hb
  have HG_16 : Hid _ := places.LaidV.below HG_15.out hb
  clear hb HXN_15 HW_15 HG_15
  go_wp2_with fail
  refine Calls.mono (places.mark_rows _ _ _ _ _ _ _ HF.out HKG.out HG_16.out) ?_
  rintro e z17 ⟨⟨rfl, ho⟩, hout⟩
  have HB17 : Hid (Below w.heap.size w z17) := trees.Out.below hout HB16.out (fun b hb => Nat.le_trans HB5.out.size hb.1) HB16.out.size
  have HL_17 : Hid (z16.heap.size ≤ z17.heap.size) := hout.size
  have HXN_17 : Hid _ := (hout.block _ (pairs.lt_heap HXN_16.out) (fun hc => by have := hc.1; have := hc.2; have := HL_0.out; have := HL_1.out; have := HL_2.out; have := HL_3.out; have := HL_4.out; have := HL_5.out; have := HL_6.out; have := HL_7.out; have := HL_8.out; have := HL_9.out; have := HL_10.out; have := HL_11.out; have := HL_12.out; have := HL_13.out; have := HL_14.out; have := HL_15.out; have := HL_16.out; omega)).trans HXN_16.out
  have HW_17 : Hid _ := places.ShowV.out HW_16.out hout (fun b hb hc => by have := hb.1; have := hb.2; have := hc.1; have := hc.2; have := HL_0.out; have := HL_1.out; have := HL_2.out; have := HL_3.out; have := HL_4.out; have := HL_5.out; have := HL_6.out; have := HL_7.out; have := HL_8.out; have := HL_9.out; have := HL_10.out; have := HL_11.out; have := HL_12.out; have := HL_13.out; have := HL_14.out; have := HL_15.out; have := HL_16.out; omega)
  have HG_17 : Hid _ := ho
  clear hout HXN_16 HW_16 HG_16 ho
  go_wp2_with fail
  refine Calls.mono (places.held_rows _ _ _ _ _ _ _ HF.out HKG.out HG_17.out) ?_
  rintro e z18 ⟨rfl, hb⟩
  have HB18 : Hid (Below w.heap.size w z18) := HB17.out.trans (hb.mono HB17.out.size)
  have HL_18 : Hid (z17.heap.size ≤ z18.heap.size) := hb.size
  have HXN_18 : Hid _ := bx_below HXN_17.out hb
  have HW_18 : Hid _ := places.ShowV.below HW_17.out hb
  have HG_18 : Hid _ := places.MarkV.below HG_17.out hb
  clear hb HXN_17 HW_17 HG_17
  obtain ⟨n0, n1, n2, n3, n4, n5, n6, n7⟩ := trees.box8 HXN_18.out
  go_wp2_with fail
  refine Calls.mono (ton HZ.out (HN.out _ HB18.out)) ?_
  rintro e z19 ⟨⟨hD, rfl, ho⟩, hb⟩
  have HB19 : Hid (Below w.heap.size w z19) := HB18.out.trans (hb.mono HB18.out.size)
  have HL_19 : Hid (z18.heap.size ≤ z19.heap.size) := hb.size
  have HXN_19 : Hid _ := bx_below HXN_18.out hb
  have HW_19 : Hid _ := places.ShowV.below HW_18.out hb
  have HG_19 : Hid _ := places.MarkV.below HG_18.out hb
  have HD_19 : Hid _ := ho
  clear hb HXN_18 HW_18 HG_18 ho n0 n1 n2 n3 n4 n5 n6 n7
  go_wp2_with fail
  refine Calls.mono (pl_impl HI.out HZ.out HD_19.out.in) ?_
  rintro e z20 ⟨⟨gK, cK, rK, rfl, ho⟩, hb⟩
  have HB20 : Hid (Below w.heap.size w z20) := HB19.out.trans (hb.mono HB19.out.size)
  have HL_20 : Hid (z19.heap.size ≤ z20.heap.size) := hb.size
  have HXN_20 : Hid _ := bx_below HXN_19.out hb
  have HW_20 : Hid _ := places.ShowV.below HW_19.out hb
  have HG_20 : Hid _ := places.MarkV.below HG_19.out hb
  have HD_20 : Hid _ := OwnV.below HD_19.out hb
  have HK_20 : Hid _ := ho
  clear hb HXN_19 HW_19 HG_19 HD_19 ho
  clear HD_20
  go_wp2_with fail
  refine Calls.mono (places.eq_rows _ _ _ _ _ _ _ _ HF.out HK_20.out.shows HW_20.out) ?_
  rintro e z21 ⟨rfl, hb⟩
  have HB21 : Hid (Below w.heap.size w z21) := HB20.out.trans (hb.mono HB20.out.size)
  have HL_21 : Hid (z20.heap.size ≤ z21.heap.size) := hb.size
  have HXN_21 : Hid _ := bx_below HXN_20.out hb
  have HW_21 : Hid _ := places.ShowV.below HW_20.out hb
  have HG_21 : Hid _ := places.MarkV.below HG_20.out hb
  have HK_21 : Hid _ := places.LaidV.below HK_20.out hb
  clear hb HXN_20 HW_20 HG_20 HK_20
  go_wp2_with fail
  refine Calls.mono (places.held_rows _ _ _ _ _ _ _ HF.out HKG.out HG_21.out) ?_
  rintro e z22 ⟨rfl, hb⟩
  have HB22 : Hid (Below w.heap.size w z22) := HB21.out.trans (hb.mono HB21.out.size)
  have HL_22 : Hid (z21.heap.size ≤ z22.heap.size) := hb.size
  have HXN_22 : Hid _ := bx_below HXN_21.out hb
  have HW_22 : Hid _ := places.ShowV.below HW_21.out hb
  have HG_22 : Hid _ := places.MarkV.below HG_21.out hb
  have HK_22 : Hid _ := places.LaidV.below HK_21.out hb
  clear hb HXN_21 HW_21 HG_21 HK_21
  go_wp2
  go_ret
  exact ⟨rfl, HB22.out⟩

/-! ### The row -/
set_option maxRecDepth 100000 in
theorem lifted (os : Os) (started : os.Started) (H : Type) (enc : TypeId × Value → H) :
    ReturnsInHanded {} Try.checked os 8 .any (Rows.fnExactPlacesSpec.pre6 enc Try.prog Try.f8 Rows.fnExactPlacesRow.domain false) (Rows.fnExactPlacesSpec.post enc Try.prog Try.f8 false true false false) := by
  refine returnsInHanded_of_change (C := Try.checked) own started (by kernel_rfl) Try.func8
    (ChangeSpec.witness6 (enc := enc) (C := Try.checked) false ⟨#[], #[.agg #[.int .i64 0, .string ByteArray.empty, .string ByteArray.empty, .string ByteArray.empty, .slice none 0 0, .slice none 0 0, .slice none 0 0, .string ByteArray.empty]], []⟩ 8 (by kernel_rfl) (by kernel_rfl) (by kernel_rfl) (by kernel_rfl)) ?_
  intro W base args ds gs before hval0 hW hcnd _
  have hval : ∀ (j : Nat) t v, Try.f8.params[j]? = some t → args[j]? = some v → Value.okWide Try.prog W .any base t v := hval0
  have hW' := hW
  obtain ⟨p, q, hA0, hV, rfl, hfz, hnd⟩ := hW
  have hA : DataW.TrodAll enc Try.prog W 0 (fun _ => true) true Try.f8.params.toList args.toList ds p := hA0
  rw [Try.params8] at hA hval
  obtain ⟨v0, vs0, d0, ds0, p0, q0, hargs, rfl, rfl, h0, r0⟩ := trodAll_cons hA
  obtain ⟨rfl, rfl, rfl⟩ := trodAll_nil r0
  obtain rfl : args = #[v0] := by cases args; simp_all
  obtain ⟨rfl, rfl⟩ := trodVars_none hV
  have k0 := h0
  have lt0 : ∀ x ∈ p0, x.block < W.heap.size := by obtain ⟨m, hm⟩ := k0; exact DataW.trod_lt m _ _ _ hm
  obtain ⟨t0, hd0, rfl, w0⟩ := trees.open_val_node (hval 0 52 v0 rfl rfl) h0
  clear hA0 hval0
  simp only [List.append_nil] at hW'
  refine (walk t0 hd0 W w0).mono fun e W' ⟨he, bel⟩ => ?_
  subst he
  exact ⟨_, rfl, _, _, _, [], _, [], hW', (trodAll_cons_mk (shut_bool Try.underlying4 _) trodAll_mk0), (trodAll_cons_mk (Below.trod laidOut (by kernel_rfl) (of_decide_eq_true (by kernel_rfl)) k0 bel lt0) trodAll_mk0), rfl, bel.frame _, fun h => by cases h⟩

/-- The statement. -/
theorem proved : Rows.FnExactPlacesSaid :=
  OpenClaim.holds_of_wide 8 Try.f8 rfl rfl rfl rfl rfl rfl rfl ⟨rfl, rfl, rfl, rfl, rfl⟩ rfl rfl rfl rfl rfl (by kernel_rfl) Try.func8 (by kernel_rfl)
    (of_decide_eq_true (by kernel_rfl)) (by unfold Func.isWrapper; first | (rw [if_pos (by decide +kernel)]; kernel_rfl) | (rw [if_neg (by decide +kernel)]; exact ⟨rfl, rfl⟩))
    (fun os started H enc _ => lifted os started H enc)
#print axioms proved
end Go.Proofs.Ytpejcblmglbjfaa.fnExactPlaces
