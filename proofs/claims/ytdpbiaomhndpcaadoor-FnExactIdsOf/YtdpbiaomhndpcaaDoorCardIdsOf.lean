/-
  At every argument the law FnExactIdsOf returns true: IdsOf answers as its specification at every argument, writes nothing into it, keeps nothing of it, and its answer owns its memory, the program's tables being what its text lays (the tied card). No condition.
  The frame is after the kit's guide (MapyProofs, UptoLaidToy); the walk is ours.
-/
import Derived.Test.YtdpbiaomhndpcaaDoorCards
import Derived.Test.YtdpbiaomhndpcaaDoorTie
import Derived.Test.YtdpbiaomhndpcaaDoorSpecIds
import Derived.Test.YtdpbiaomhndpcaaDoorImplIds
import Derived.Test.YtdpbiaomhndpcaaDoorNodeMarkV
import Derived.Test.YtdpbiaomhndpcaaDoorHeadOpen
import Derived.Test.YtdpbiaomhndpcaaDoorToOwn
import Derived.Test.YtdpbiaomhndpcaaDoorNodeEq
import Derived.Test.YtdpbiaomhndpcaaDoorNodeOpen
import Derived.WalkKit
import Derived.ProofKit
import Derived.OpenShut
import Derived.ShutString
import Derived.ChangeOld
import Derived.Below
import Derived.LaidMore
import Derived.OpenVars
import Derived.Stop.Joined
namespace Go.Proofs.YtdpbiaomhndpcaaDoor.fnExactIdsOf
open Go.ChangeShapes Go.WideShapes Go.ChangeAt Go.RowKit Go.WideMaps Go.WideElems
open Go.ChangeMaps (open_string shut_string)
set_option linter.unusedVariables false

theorem own : ownKnob Tryd.prog.godebug = none := by kernel_rfl
theorem laidOut : laidOutB Tryd.prog = true := by kernel_rfl

theorem tables {W : World} (h : laidMetH Tryd.prog Rows.fnExactIdsOfRow.laid W) : names.Tabs W := by
  rw [MakeChecks.laidMetH_plain _ _ _ (by kernel_rfl)] at h
  obtain ⟨ps, ⟨g0, t0, cs0, f0, p0, q0, hg0, ht0, hv0, hd0, ⟨g1, t1, cs1, f1, p1, q1, hg1, ht1, hv1, hd1, _, _⟩, _⟩, _, _⟩ := h
  obtain rfl := Option.some.inj ((show Tryd.prog.globalNamed "loop.example/g00484/impl.startSpans" = some 0 by kernel_rfl).symm.trans hg0)
  obtain rfl := Option.some.inj ((show (Tryd.prog.globals[0]?).map (·.type) = some 114 by kernel_rfl).symm.trans ht0)
  obtain rfl := Option.some.inj ((show Tryd.prog.globalNamed "loop.example/g00484/impl.partSpans" = some 1 by kernel_rfl).symm.trans hg1)
  obtain rfl := Option.some.inj ((show (Tryd.prog.globals[1]?).map (·.type) = some 114 by kernel_rfl).symm.trans ht1)
  exact ⟨spans.spans_of hg0 hv0 (by decide) (by decide) hd0, spans.spans_of hg1 hv1 (by decide) (by decide) hd1⟩
/-- Owned, as one word (OwnN is laid open by the unifier). -/
structure OwnV (w : World) (t : trees.Tree) (h : trees.Hdr) (F : trees.Bset) : Prop where
  own : trees.OwnN w t h F
theorem OwnV.below {w w' : World} {t : trees.Tree} {h : trees.Hdr} {F : trees.Bset} (hn : OwnV w t h F) (hb : Below w.heap.size w w') : OwnV w' t h F := ⟨hn.own.below hb⟩
theorem OwnV.out {w w' : World} {t : trees.Tree} {h : trees.Hdr} {F G : trees.Bset} (hn : OwnV w t h F) (ho : trees.Out G w w') (hd : trees.Apart F G) : OwnV w' t h F := ⟨hn.own.out ho hd⟩
theorem OwnV.in {w : World} {t : trees.Tree} {h : trees.Hdr} {F : trees.Bset} (hn : OwnV w t h F) : trees.NodeIn w 0 t h := hn.own.in
theorem ownA_below {w w' : World} {a : Option Addr} {L : List trees.Att} {F : trees.Bset} (h : trees.OwnA w a L F) (hb : Below w.heap.size w w') : trees.OwnA w' a L F := trees.OwnA.out (G := fun _ => False) h (trees.Out.of_below hb) (fun _ _ h => h)
theorem szn {k : Int} {p l u x : ByteArray} {ds : List pairs.Pair} {ats : List trees.Att} {ks : List trees.Tree} {w : World} {h : trees.Hdr} (hn : trees.NodeIn w 0 (.mk k p l u x ds ats ks) h) : Calls Tryd.prog 4 #[.agg #[.int .i64 k, .string p, .string l, .string u, .slice h.da ds.length h.dc, .slice h.aa ats.length h.ac, .slice h.ka ks.length h.kc, .string x], .int .i64 1048576] w fun e w' => (∃ r : Int, e = .returned (.int .i64 r) ∧ (0 ≤ r → r = 1048576 - trees.nsz (.mk k p l u x ds ats ks))) ∧ Below w.heap.size w w' := by
  have := trees.sz_node 0 _ (.mk k p l u x ds ats ks) h w 1048576 (Nat.lt_succ_self _) (Nat.le_refl _) hn
  unfold trees.SzOk at this
  exact this
theorem ton {k : Int} {p l u x : ByteArray} {ds : List pairs.Pair} {ats : List trees.Att} {ks : List trees.Tree} {w : World} {h : trees.Hdr} (hz : trees.nsz (.mk k p l u x ds ats ks) ≤ 1048576) (hn : trees.NodeIn w 0 (.mk k p l u x ds ats ks) h) : Calls Tryd.prog 7 #[.agg #[.int .i64 k, .string p, .string l, .string u, .slice h.da ds.length h.dc, .slice h.aa ats.length h.ac, .slice h.ka ks.length h.kc, .string x]] w fun e w' => (∃ h' : trees.Hdr, e = .returned (.agg #[.int .i64 k, .string p, .string l, .string u, .slice h'.da ds.length h'.dc, .slice h'.aa ats.length h'.ac, .slice h'.ka ks.length h'.kc, .string x]) ∧ OwnV w' (.mk k p l u x ds ats ks) h' (trees.Rng w w')) ∧ Below w.heap.size w w' := by
  have := trees.to_own 0 _ (.mk k p l u x ds ats ks) h w (Nat.lt_succ_self _) hz hn
  unfold trees.ToOwn at this
  exact this.mono fun e w' ⟨⟨h', he, ho⟩, hb⟩ => ⟨⟨h', he, ⟨ho⟩⟩, hb⟩
theorem eqn {k : Int} {p l u x : ByteArray} {ds : List pairs.Pair} {ats : List trees.Att} {ks : List trees.Tree} {w : World} {h h' : trees.Hdr} (hn : trees.NodeIn w 0 (.mk k p l u x ds ats ks) h) (hn' : trees.NodeIn w 0 (.mk k p l u x ds ats ks) h') : Calls Tryd.prog 11 #[.agg #[.int .i64 k, .string p, .string l, .string u, .slice h.da ds.length h.dc, .slice h.aa ats.length h.ac, .slice h.ka ks.length h.kc, .string x], .agg #[.int .i64 k, .string p, .string l, .string u, .slice h'.da ds.length h'.dc, .slice h'.aa ats.length h'.ac, .slice h'.ka ks.length h'.kc, .string x]] w fun e w' => e = .returned (.bool true) ∧ Below w.heap.size w w' := by
  have := trees.eq_node 0 0 _ (.mk k p l u x ds ats ks) h h' w (Nat.lt_succ_self _) hn hn'
  unfold trees.EqOk at this
  exact this
theorem szh {w : World} {nm : ByteArray} {E : List pairs.Pair} {D : List heads.Df} {q : heads.Ha} {left : Nat} (hl : left ≤ 1048576) (hn : heads.HeadIn w ⟨nm, E, D⟩ q) : Calls Tryd.prog 5 #[.agg #[.string nm, .slice q.ea E.length q.ec, .slice q.da D.length q.dc], .int .i64 left] w fun e w' => (∃ r : Int, e = .returned (.int .i64 r) ∧ (0 ≤ r → r = (left : Int) - heads.hsmall ⟨nm, E, D⟩)) ∧ Below w.heap.size w w' := heads.sz_hd ⟨nm, E, D⟩ q left w hl hn
theorem toh {w : World} {nm : ByteArray} {E : List pairs.Pair} {D : List heads.Df} {q : heads.Ha} (hz : heads.hsmall ⟨nm, E, D⟩ ≤ 1048576) (hn : heads.HeadIn w ⟨nm, E, D⟩ q) : Calls Tryd.prog 8 #[.agg #[.string nm, .slice q.ea E.length q.ec, .slice q.da D.length q.dc]] w fun e w' => (∃ q' : heads.Ha, e = .returned (.agg #[.string nm, .slice q'.ea E.length q'.ec, .slice q'.da D.length q'.dc]) ∧ heads.OwnH w' ⟨nm, E, D⟩ q' (trees.Rng w w')) ∧ Below w.heap.size w w' := heads.mk_hd ⟨nm, E, D⟩ q w hz hn
theorem eqh {w : World} {nm : ByteArray} {E : List pairs.Pair} {D : List heads.Df} {q q' : heads.Ha} (hn : heads.HeadIn w ⟨nm, E, D⟩ q) (hn' : heads.HeadIn w ⟨nm, E, D⟩ q') : Calls Tryd.prog 12 #[.agg #[.string nm, .slice q.ea E.length q.ec, .slice q.da D.length q.dc], .agg #[.string nm, .slice q'.ea E.length q'.ec, .slice q'.da D.length q'.dc]] w fun e w' => e = .returned (.bool true) ∧ Below w.heap.size w w' := heads.eq_hd ⟨nm, E, D⟩ q q' w hn hn'
theorem ids_spec {k : Int} {p l u x : ByteArray} {ds : List pairs.Pair} {ats : List trees.Att} {ks : List trees.Tree} {w : World} {nm : ByteArray} {E : List pairs.Pair} {D : List heads.Df} {h : trees.Hdr} {q : heads.Ha} {I : List trees.Att} (hI : ids.idsT D (.mk k p l u x ds ats ks) = I) (hz : trees.nsz (.mk k p l u x ds ats ks) ≤ 1048576) (hh : heads.HeadIn w ⟨nm, E, D⟩ q) (hn : trees.NodeIn w 0 (.mk k p l u x ds ats ks) h) : Calls Tryd.prog 6 #[.agg #[.int .i64 k, .string p, .string l, .string u, .slice h.da ds.length h.dc, .slice h.aa ats.length h.ac, .slice h.ka ks.length h.kc, .string x], .agg #[.string nm, .slice q.ea E.length q.ec, .slice q.da D.length q.dc]] w fun e w' => (∃ g c, e = .returned (.slice (some ⟨g, 0, none⟩) I.length c) ∧ trees.OwnA w' (some ⟨g, 0, none⟩) I (trees.Rng w w')) ∧ Below w.heap.size w w' := by
  have := ids.spec_idsOf ⟨nm, E, D⟩ q (.mk k p l u x ds ats ks) h w hz hh hn
  unfold ids.IdsOk at this
  rw [hI] at this
  exact this
theorem ids_impl {k : Int} {p l u x : ByteArray} {ds : List pairs.Pair} {ats : List trees.Att} {ks : List trees.Tree} {w : World} {nm : ByteArray} {E : List pairs.Pair} {D : List heads.Df} {h : trees.Hdr} {q : heads.Ha} {I : List trees.Att} (hI : ids.idsT D (.mk k p l u x ds ats ks) = I) (hz : trees.nsz (.mk k p l u x ds ats ks) ≤ 1048576) (hT : names.Tabs w) (hh : heads.HeadIn w ⟨nm, E, D⟩ q) (hn : trees.NodeIn w 0 (.mk k p l u x ds ats ks) h) : Calls Tryd.prog 9 #[.agg #[.int .i64 k, .string p, .string l, .string u, .slice h.da ds.length h.dc, .slice h.aa ats.length h.ac, .slice h.ka ks.length h.kc, .string x], .agg #[.string nm, .slice q.ea E.length q.ec, .slice q.da D.length q.dc]] w fun e w' => (∃ g c, e = .returned (.slice (some ⟨g, 0, none⟩) I.length c) ∧ trees.OwnA w' (some ⟨g, 0, none⟩) I (trees.Rng w w')) ∧ Below w.heap.size w w' := by
  have := ids.impl_ids 0 ⟨nm, E, D⟩ q _ (.mk k p l u x ds ats ks) h w (Nat.lt_succ_self _) hz hT hh hn
  unfold ids.IdsOk at this
  rw [hI] at this
  exact this
theorem marn {k : Int} {p l u x : ByteArray} {ds : List pairs.Pair} {ats : List trees.Att} {ks : List trees.Tree} {w : World} {h : trees.Hdr} {q : Nat} {F : trees.Bset} (hz : trees.nsz (.mk k p l u x ds ats ks) ≤ 1048576) (hq : 1 + trees.cntN (.mk k p l u x ds ats ks) = q) (hn : OwnV w (.mk k p l u x ds ats ks) h F) : Calls Tryd.prog 13 #[.agg #[.int .i64 k, .string p, .string l, .string u, .slice h.da ds.length h.dc, .slice h.aa ats.length h.ac, .slice h.ka ks.length h.kc, .string x], .int .i64 1] w fun e w' => e = .returned (.int .i64 (q : Int)) ∧ trees.Out F w w' := (trees.mark_nd (.mk k p l u x ds ats ks) h 1 q F w hz (by omega) hq hn.own).mono fun e w' hh => ⟨hh.1, hh.2.2⟩
theorem marh {w : World} {nm : ByteArray} {E : List pairs.Pair} {D : List heads.Df} {q : heads.Ha} {k0 k1 : Nat} {F : trees.Bset} (hz : heads.hsmall ⟨nm, E, D⟩ ≤ 1048576) (hk : k0 ≤ 50000000) (hq : k0 + heads.cntH ⟨nm, E, D⟩ = k1) (hn : heads.OwnH w ⟨nm, E, D⟩ q F) : Calls Tryd.prog 14 #[.agg #[.string nm, .slice q.ea E.length q.ec, .slice q.da D.length q.dc], .int .i64 k0] w fun e w' => e = .returned (.int .i64 (k1 : Int)) ∧ trees.Out F w w' := (heads.mark_hd ⟨nm, E, D⟩ q k0 k1 F w hz hk hq hn).mono fun e w' hh => ⟨hh.1, hh.2.2⟩
theorem eqa {w : World} {I : List trees.Att} {a a' : Option Addr} {c c' : Nat} {F F' : trees.Bset} (hf : trees.AFit I) (hn : trees.OwnA w a I F) (hn' : trees.OwnA w a' I F') : Calls Tryd.prog 10 #[.slice a I.length c, .slice a' I.length c'] w fun e w' => e = .returned (.bool true) ∧ Below w.heap.size w w' := trees.eq_atts w a a' I c c' (hn.at hf) (hn'.at hf)
theorem mara {w : World} {I : List trees.Att} {a : Option Addr} {c q : Nat} {F : trees.Bset} (hl : I.length ≤ 1048576) (hq : 1 + 4 * I.length = q) (hn : trees.OwnA w a I F) : Calls Tryd.prog 15 #[.slice a I.length c, .int .i64 1] w fun e w' => e = .returned (.int .i64 (q : Int)) ∧ trees.OwnA w' a (trees.marksA 1 I.length) F ∧ trees.Out F w w' := by
  have := trees.mark_ownA w a I c 1 F (by omega) (by omega) hn
  rw [hq] at this
  exact this
theorem hela {w : World} {n : Nat} {a : Option Addr} {c q : Nat} {F : trees.Bset} (hl : n ≤ 1048576) (hq : 1 + 4 * n = q) (hn : trees.OwnA w a (trees.marksA 1 n) F) : Calls Tryd.prog 16 #[.slice a n c, .int .i64 1] w fun e w' => e = .returned (.int .i64 (q : Int)) ∧ Below w.heap.size w w' := by
  have := trees.held_ownA w a n c 1 F (by omega) (by omega) hn
  rw [hq] at this
  exact this

/-! ### The walk: the law returns true, and nothing that was there has turned -/
set_option maxRecDepth 100000 in
set_option maxHeartbeats 16000000 in
theorem walk (t0 : trees.Tree) (hd0 : trees.Hdr) (v1 : heads.Hv) (q1 : heads.Ha) (w : World) (w0 : trees.NodeIn w 0 t0 hd0) (w1 : heads.HeadIn w v1 q1) (hL : laidMetH Tryd.prog Rows.fnExactIdsOfRow.laid w) :
    Calls Tryd.prog 3 #[.agg (trees.vals t0 hd0), .agg (heads.hcells v1 q1)] w fun e w' => e = .returned (.bool true) ∧ Below w.heap.size w w' := by
  have HT : Hid (names.Tabs w) := tables hL
  clear hL
  obtain ⟨k, p, l, u, x, ds, ats, ks⟩ := t0
  obtain ⟨nm, E, D⟩ := v1
  have HN : Hid (∀ W, Below w.heap.size w W → trees.NodeIn W 0 (.mk k p l u x ds ats ks) hd0) := fun W hb => w0.below hb
  have HH : Hid (∀ W, Below w.heap.size w W → heads.HeadIn W ⟨nm, E, D⟩ q1) := fun W hb => w1.below hb
  have HTB : Hid (∀ W, Below w.heap.size w W → names.Tabs W) := fun W hb => HT.out.below hb
  simp only [trees.vals, heads.hcells, trees.Tree.kind, trees.Tree.pre, trees.Tree.loc, trees.Tree.uri, trees.Tree.text, trees.Tree.ds, trees.Tree.ats, trees.Tree.kids]
  clear w0 w1
  obtain ⟨I, hI⟩ : ∃ I, ids.idsT D (.mk k p l u x ds ats ks) = I := ⟨_, rfl⟩
  have HI : Hid _ := hI
  obtain ⟨kn, hkn⟩ : ∃ q, 1 + trees.cntN (.mk k p l u x ds ats ks) = q := ⟨_, rfl⟩
  have HKN : Hid _ := hkn
  obtain ⟨kh, hkh⟩ : ∃ q, kn + heads.cntH ⟨nm, E, D⟩ = q := ⟨_, rfl⟩
  have HKH : Hid _ := hkh
  obtain ⟨kg, hkg⟩ : ∃ q, 1 + 4 * I.length = q := ⟨_, rfl⟩
  have HKG : Hid _ := hkg
  clear hI hkn hkh hkg
  have HB0 : Hid (Below w.heap.size w ((w.alloc (.cells #[.int .i64 k, .string p, .string l, .string u, .slice hd0.da ds.length hd0.dc, .slice hd0.aa ats.length hd0.ac, .slice hd0.ka ks.length hd0.kc, .string x] 26)).alloc (.cells #[.string nm, .slice q1.ea E.length q1.ec, .slice q1.da D.length q1.dc] 30))) := ((Below.refl _ _).alloc (Nat.le_refl _) _).alloc (by simp) _
  have HXN_0 : Hid (((w.alloc (.cells #[.int .i64 k, .string p, .string l, .string u, .slice hd0.da ds.length hd0.dc, .slice hd0.aa ats.length hd0.ac, .slice hd0.ka ks.length hd0.kc, .string x] 26)).alloc (.cells #[.string nm, .slice q1.ea E.length q1.ec, .slice q1.da D.length q1.dc] 30)).heap[w.heap.size]? = _) := (Below.heap_alloc _ _ _ (by simp)).trans (heap_alloc_new w (.cells #[.int .i64 k, .string p, .string l, .string u, .slice hd0.da ds.length hd0.dc, .slice hd0.aa ats.length hd0.ac, .slice hd0.ka ks.length hd0.kc, .string x] 26))
  have hx2 := heap_alloc_new (w.alloc (.cells #[.int .i64 k, .string p, .string l, .string u, .slice hd0.da ds.length hd0.dc, .slice hd0.aa ats.length hd0.ac, .slice hd0.ka ks.length hd0.kc, .string x] 26)) (.cells #[.string nm, .slice q1.ea E.length q1.ec, .slice q1.da D.length q1.dc] 30)
  rw [World.size_alloc] at hx2
  have HXH_0 : Hid _ := hx2
  clear hx2
  go_enter Tryd.func3, Tryd.ntmps3
  obtain ⟨z0, hz0⟩ : ∃ z0, ((w.alloc (.cells #[.int .i64 k, .string p, .string l, .string u, .slice hd0.da ds.length hd0.dc, .slice hd0.aa ats.length hd0.ac, .slice hd0.ka ks.length hd0.kc, .string x] 26)).alloc (.cells #[.string nm, .slice q1.ea E.length q1.ec, .slice q1.da D.length q1.dc] 30)) = z0 := ⟨_, rfl⟩
  rw [hz0] at HB0 HXN_0 HXH_0
  have HL_0 : Hid (w.heap.size + 2 ≤ z0.heap.size) := pairs.lt_heap HXH_0.out
  obtain ⟨n0, n1, n2, n3, n4, n5, n6, n7⟩ := trees.box8 HXN_0.out
  go_wp2_with fail
  clear hz0
  refine (szn (HN.out _ HB0.out)).mono ?_
  rintro e z1 ⟨⟨r, rfl, hr⟩, hb⟩
  have HB1 : Hid (Below w.heap.size w z1) := HB0.out.trans (hb.mono HB0.out.size)
  have HL_1 : Hid (z0.heap.size ≤ z1.heap.size) := hb.size
  have HXN_1 : Hid _ := heads.box_below HXN_0.out hb
  have HXH_1 : Hid _ := heads.box_below HXH_0.out hb
  clear hb HXN_0 HXH_0 n0 n1 n2 n3 n4 n5 n6 n7
  by_cases hneg : r < 0
  · go_wp2
    go_ret
    exact ⟨rfl, HB1.out⟩
  have HZ : Hid (trees.nsz (.mk k p l u x ds ats ks) ≤ 1048576) := by have := hr (by omega); show _ ≤ _; omega
  obtain ⟨lf, hlf⟩ : ∃ lf : Nat, r = lf := ⟨r.toNat, by omega⟩
  subst hlf
  have hlf2 : lf ≤ 1048576 := by have := hr (by omega); omega
  clear hr
  obtain ⟨n0, n1, n2, n3, n4, n5, n6, n7⟩ := trees.box8 HXN_1.out
  obtain ⟨⟨m0, m1, m2⟩, -⟩ := heads.box3 HXH_1.out
  go_wp2_with fail
  refine (szh hlf2 (HH.out _ HB1.out)).mono ?_
  rintro e z2 ⟨⟨r2, rfl, hr⟩, hb⟩
  have HB2 : Hid (Below w.heap.size w z2) := HB1.out.trans (hb.mono HB1.out.size)
  have HL_2 : Hid (z1.heap.size ≤ z2.heap.size) := hb.size
  have HXN_2 : Hid _ := heads.box_below HXN_1.out hb
  have HXH_2 : Hid _ := heads.box_below HXH_1.out hb
  clear hb HXN_1 HXH_1 n0 n1 n2 n3 n4 n5 n6 n7 m0 m1 m2
  by_cases hneg2 : r2 < 0
  · go_wp2
    go_ret
    exact ⟨rfl, HB2.out⟩
  have HZH : Hid (heads.hsmall ⟨nm, E, D⟩ ≤ 1048576) := by have := hr (by omega); show _ ≤ _; omega
  clear hr hlf2
  have HIL : Hid (I.length ≤ 1048576 ∧ trees.AFit I) := by have h1 := ids.ids_len D (.mk k p l u x ds ats ks); have h2 : trees.AFit (ids.idsT D (.mk k p l u x ds ats ks)) := ids.ids_fit HZ.out; rw [HI.out] at h1 h2; exact ⟨Nat.le_trans h1 HZ.out, h2⟩
  have HKB : Hid (kn ≤ 50000000) := by have := trees.cntN_le (.mk k p l u x ds ats ks) HZ.out; have := HKN.out; show _ ≤ _; omega
  obtain ⟨n0, n1, n2, n3, n4, n5, n6, n7⟩ := trees.box8 HXN_2.out
  obtain ⟨⟨m0, m1, m2⟩, -⟩ := heads.box3 HXH_2.out
  go_wp2_with fail
  clear n0 n1 n2 n3 n4 n5 n6 n7 m0 m1 m2
  have hl0 : ∀ W, Below z2.heap.size z2 W → W.heap[_]? = _ := fun W h => heads.box_below HXN_2.out h
  have hm0 := fun W h => trees.box8 (hl0 W h)
  have hl1 : ∀ W, Below z2.heap.size z2 W → W.heap[_]? = _ := fun W h => heads.box_below HXH_2.out h
  have hm1 := fun W h => (heads.box3 (hl1 W h)).1
  apply quiets.wp_region_mask z2 (Below.refl _ _) [true, false, true] (hm := by kernel_rfl) (hB := by kernel_rfl) (hwalk := ?walk2) (htail := ?tail2)
  case walk2 =>
    intro C hC0 hC1
    simp only [quiets.onB, cond_true, cond_false]
    repeat (go_big_quiet_step ((first | (intro hq; rfl) | (intro hq; simp [go_sem, (hm0 _ (hC0 _ hq)).1, (hm0 _ (hC0 _ hq)).2.1, (hm0 _ (hC0 _ hq)).2.2.1, (hm0 _ (hC0 _ hq)).2.2.2.1, (hm0 _ (hC0 _ hq)).2.2.2.2.1, (hm0 _ (hC0 _ hq)).2.2.2.2.2.1, (hm0 _ (hC0 _ hq)).2.2.2.2.2.2.1, (hm0 _ (hC0 _ hq)).2.2.2.2.2.2.2]; rfl) | (intro hq; simp [go_sem, (hm1 _ (hC0 _ hq)).1, (hm1 _ (hC0 _ hq)).2.1, (hm1 _ (hC0 _ hq)).2.2]; rfl))))
    exact wpQuiet_nil rfl
  clear hm0 hl0 hm1 hl1
  intro z3 hb
  have HB3 : Hid (Below w.heap.size w z3) := HB2.out.trans (hb.mono HB2.out.size)
  have HL_3 : Hid (z2.heap.size ≤ z3.heap.size) := hb.size
  have HXN_3 : Hid _ := heads.box_below HXN_2.out hb
  have HXH_3 : Hid _ := heads.box_below HXH_2.out hb
  have HD3 : Hid (Below z2.heap.size z2 z3) := hb
  clear hb HXN_2 HXH_2
  simp only [quiets.offB, cond_true, cond_false]
  refine quiets.tail_cons fun z4 hb => ?_
  have HB4 : Hid (Below w.heap.size w z4) := HB3.out.trans (hb.mono HB3.out.size)
  have HL_4 : Hid (z3.heap.size ≤ z4.heap.size) := hb.size
  have HXN_4 : Hid _ := heads.box_below HXN_3.out hb
  have HXH_4 : Hid _ := heads.box_below HXH_3.out hb
  have HD4 : Hid (Below z2.heap.size z2 z4) := HD3.out.trans (hb.mono HD3.out.size)
  clear hb HD3 HXN_3 HXH_3
  go_wp2_with fail
  refine (ton HZ.out (HN.out _ HB4.out)).mono ?_
  rintro e z5 ⟨⟨hS, rfl, ho⟩, hb⟩
  have HB5 : Hid (Below w.heap.size w z5) := HB4.out.trans (hb.mono HB4.out.size)
  have HL_5 : Hid (z4.heap.size ≤ z5.heap.size) := hb.size
  have HXN_5 : Hid _ := heads.box_below HXN_4.out hb
  have HXH_5 : Hid _ := heads.box_below HXH_4.out hb
  have HD5 : Hid (Below z2.heap.size z2 z5) := HD4.out.trans (hb.mono HD4.out.size)
  have HSN_5 : Hid _ := ho
  clear hb HD4 HXN_4 HXH_4 ho
  go_wp2_with fail
  refine ⟨HD5.out, ?_⟩
  refine quiets.tail_cons fun z6 hb => ?_
  have HB6 : Hid (Below w.heap.size w z6) := HB5.out.trans (hb.mono HB5.out.size)
  have HL_6 : Hid (z5.heap.size ≤ z6.heap.size) := hb.size
  have HXN_6 : Hid _ := heads.box_below HXN_5.out hb
  have HXH_6 : Hid _ := heads.box_below HXH_5.out hb
  have HSN_6 : Hid _ := OwnV.below HSN_5.out hb
  have HD6 : Hid (Below z2.heap.size z2 z6) := HD5.out.trans (hb.mono HD5.out.size)
  clear hb HD5 HXN_5 HXH_5 HSN_5
  go_wp2_with fail
  refine (toh HZH.out (HH.out _ HB6.out)).mono ?_
  rintro e z7 ⟨⟨qS, rfl, ho⟩, hb⟩
  have HB7 : Hid (Below w.heap.size w z7) := HB6.out.trans (hb.mono HB6.out.size)
  have HL_7 : Hid (z6.heap.size ≤ z7.heap.size) := hb.size
  have HXN_7 : Hid _ := heads.box_below HXN_6.out hb
  have HXH_7 : Hid _ := heads.box_below HXH_6.out hb
  have HSN_7 : Hid _ := OwnV.below HSN_6.out hb
  have HD7 : Hid (Below z2.heap.size z2 z7) := HD6.out.trans (hb.mono HD6.out.size)
  have HSH_7 : Hid _ := ho
  clear hb HD6 HXN_6 HXH_6 HSN_6 ho
  go_wp2_with fail
  refine ⟨HD7.out, ?_⟩
  refine quiets.tail_cons fun z8 hb => ?_
  have HB8 : Hid (Below w.heap.size w z8) := HB7.out.trans (hb.mono HB7.out.size)
  have HL_8 : Hid (z7.heap.size ≤ z8.heap.size) := hb.size
  have HXN_8 : Hid _ := heads.box_below HXN_7.out hb
  have HXH_8 : Hid _ := heads.box_below HXH_7.out hb
  have HSN_8 : Hid _ := OwnV.below HSN_7.out hb
  have HSH_8 : Hid _ := heads.OwnH.below HSH_7.out hb
  have HD8 : Hid (Below z2.heap.size z2 z8) := HD7.out.trans (hb.mono HD7.out.size)
  clear hb HD7 HXN_7 HXH_7 HSN_7 HSH_7
  go_wp2_with fail
  refine (ids_spec HI.out HZ.out HSH_8.out.at HSN_8.out.in).mono ?_
  rintro e z9 ⟨⟨gW, cW, rfl, ho⟩, hb⟩
  have HB9 : Hid (Below w.heap.size w z9) := HB8.out.trans (hb.mono HB8.out.size)
  have HL_9 : Hid (z8.heap.size ≤ z9.heap.size) := hb.size
  have HXN_9 : Hid _ := heads.box_below HXN_8.out hb
  have HXH_9 : Hid _ := heads.box_below HXH_8.out hb
  have HSN_9 : Hid _ := OwnV.below HSN_8.out hb
  have HSH_9 : Hid _ := heads.OwnH.below HSH_8.out hb
  have HD9 : Hid (Below z2.heap.size z2 z9) := HD8.out.trans (hb.mono HD8.out.size)
  have HW_9 : Hid _ := ho
  clear hb HD8 HXN_8 HXH_8 HSN_8 HSH_8 ho
  go_wp2_with fail
  refine ⟨HD9.out, ?_⟩
  refine quiets.tail_cons fun z10 hb => ?_
  have HB10 : Hid (Below w.heap.size w z10) := HB9.out.trans (hb.mono HB9.out.size)
  have HL_10 : Hid (z9.heap.size ≤ z10.heap.size) := hb.size
  have HXN_10 : Hid _ := heads.box_below HXN_9.out hb
  have HXH_10 : Hid _ := heads.box_below HXH_9.out hb
  have HSN_10 : Hid _ := OwnV.below HSN_9.out hb
  have HSH_10 : Hid _ := heads.OwnH.below HSH_9.out hb
  have HW_10 : Hid _ := ownA_below HW_9.out hb
  have HD10 : Hid (Below z2.heap.size z2 z10) := HD9.out.trans (hb.mono HD9.out.size)
  clear hb HD9 HXN_9 HXH_9 HSN_9 HSH_9 HW_9
  go_wp2_with fail
  refine ⟨HD10.out, ?_⟩
  refine quiets.tail_nil fun z11 hb => ?_
  have HB11 : Hid (Below w.heap.size w z11) := HB10.out.trans (hb.mono HB10.out.size)
  have HL_11 : Hid (z10.heap.size ≤ z11.heap.size) := hb.size
  have HXN_11 : Hid _ := heads.box_below HXN_10.out hb
  have HXH_11 : Hid _ := heads.box_below HXH_10.out hb
  have HSN_11 : Hid _ := OwnV.below HSN_10.out hb
  have HSH_11 : Hid _ := heads.OwnH.below HSH_10.out hb
  have HW_11 : Hid _ := ownA_below HW_10.out hb
  clear hb HD10 HXN_10 HXH_10 HSN_10 HSH_10 HW_10
  clear HSN_11
  clear HSH_11
  obtain ⟨n0, n1, n2, n3, n4, n5, n6, n7⟩ := trees.box8 HXN_11.out
  go_wp2_with fail
  refine (ton HZ.out (HN.out _ HB11.out)).mono ?_
  rintro e z12 ⟨⟨hx, rfl, ho⟩, hb⟩
  have HB12 : Hid (Below w.heap.size w z12) := HB11.out.trans (hb.mono HB11.out.size)
  have HL_12 : Hid (z11.heap.size ≤ z12.heap.size) := hb.size
  have HXN_12 : Hid _ := heads.box_below HXN_11.out hb
  have HXH_12 : Hid _ := heads.box_below HXH_11.out hb
  have HW_12 : Hid _ := ownA_below HW_11.out hb
  have HX_12 : Hid _ := ho
  clear hb HXN_11 HXH_11 HW_11 ho n0 n1 n2 n3 n4 n5 n6 n7
  have HXB : Hid (∀ o, (z12.alloc o).heap[w.heap.size + 1]? = _) := fun o => heads.box_below HXH_12.out ((Below.refl _ _).alloc (Nat.le_refl _) o)
  obtain ⟨⟨m0, m1, m2⟩, -⟩ := heads.box3 (HXB.out (.cells #[.int .i64 k, .string p, .string l, .string u, .slice hx.da ds.length hx.dc, .slice hx.aa ats.length hx.ac, .slice hx.ka ks.length hx.kc, .string x] 38))
  go_wp2_with fail
  clear m0 m1 m2 HXB
  obtain ⟨z13, hz⟩ : ∃ z, z12.alloc (.cells #[.int .i64 k, .string p, .string l, .string u, .slice hx.da ds.length hx.dc, .slice hx.aa ats.length hx.ac, .slice hx.ka ks.length hx.kc, .string x] 38) = z := ⟨_, rfl⟩
  have hb : Below z12.heap.size z12 z13 := hz ▸ (Below.refl _ _).alloc (Nat.le_refl _) _
  have HBN_13 : Hid (z13.heap[z12.heap.size]? = _) := hz ▸ heap_alloc_new z12 (.cells #[.int .i64 k, .string p, .string l, .string u, .slice hx.da ds.length hx.dc, .slice hx.aa ats.length hx.ac, .slice hx.ka ks.length hx.kc, .string x] 38)
  have HB13 : Hid (Below w.heap.size w z13) := HB12.out.trans (hb.mono HB12.out.size)
  have HL_13 : Hid (z12.heap.size ≤ z13.heap.size) := hb.size
  have HXN_13 : Hid _ := heads.box_below HXN_12.out hb
  have HXH_13 : Hid _ := heads.box_below HXH_12.out hb
  have HW_13 : Hid _ := ownA_below HW_12.out hb
  have HX_13 : Hid _ := OwnV.below HX_12.out hb
  first | rw [hz] | skip
  clear hb hz HXN_12 HXH_12 HW_12 HX_12
  refine (toh HZH.out (HH.out _ HB13.out)).mono ?_
  rintro e z14 ⟨⟨qx, rfl, ho⟩, hb⟩
  have HB14 : Hid (Below w.heap.size w z14) := HB13.out.trans (hb.mono HB13.out.size)
  have HL_14 : Hid (z13.heap.size ≤ z14.heap.size) := hb.size
  have HXN_14 : Hid _ := heads.box_below HXN_13.out hb
  have HXH_14 : Hid _ := heads.box_below HXH_13.out hb
  have HW_14 : Hid _ := ownA_below HW_13.out hb
  have HX_14 : Hid _ := OwnV.below HX_13.out hb
  have HBN_14 : Hid _ := heads.box_below HBN_13.out hb
  have HY_14 : Hid _ := ho
  clear hb HXN_13 HXH_13 HW_13 HX_13 HBN_13 ho
  have HXB : Hid (∀ o, (z14.alloc o).heap[z12.heap.size]? = _) := fun o => heads.box_below HBN_14.out ((Below.refl _ _).alloc (Nat.le_refl _) o)
  obtain ⟨n0, n1, n2, n3, n4, n5, n6, n7⟩ := trees.box8 (HXB.out (.cells #[.string nm, .slice qx.ea E.length qx.ec, .slice qx.da D.length qx.dc] 43))
  obtain ⟨⟨m0, m1, m2⟩, -⟩ := heads.box3 (heap_alloc_new z14 (.cells #[.string nm, .slice qx.ea E.length qx.ec, .slice qx.da D.length qx.dc] 43))
  go_wp2_with fail
  clear n0 n1 n2 n3 n4 n5 n6 n7 m0 m1 m2 HXB
  obtain ⟨z15, hz⟩ : ∃ z, z14.alloc (.cells #[.string nm, .slice qx.ea E.length qx.ec, .slice qx.da D.length qx.dc] 43) = z := ⟨_, rfl⟩
  have hb : Below z14.heap.size z14 z15 := hz ▸ (Below.refl _ _).alloc (Nat.le_refl _) _
  have HBH_15 : Hid (z15.heap[z14.heap.size]? = _) := hz ▸ heap_alloc_new z14 (.cells #[.string nm, .slice qx.ea E.length qx.ec, .slice qx.da D.length qx.dc] 43)
  have HB15 : Hid (Below w.heap.size w z15) := HB14.out.trans (hb.mono HB14.out.size)
  have HL_15 : Hid (z14.heap.size ≤ z15.heap.size) := hb.size
  have HXN_15 : Hid _ := heads.box_below HXN_14.out hb
  have HXH_15 : Hid _ := heads.box_below HXH_14.out hb
  have HW_15 : Hid _ := ownA_below HW_14.out hb
  have HX_15 : Hid _ := OwnV.below HX_14.out hb
  have HBN_15 : Hid _ := heads.box_below HBN_14.out hb
  have HY_15 : Hid _ := heads.OwnH.below HY_14.out hb
  first | rw [hz] | skip
  clear hb hz HXN_14 HXH_14 HW_14 HX_14 HBN_14 HY_14
  refine (ids_impl HI.out HZ.out (HTB.out _ HB15.out) HY_15.out.at HX_15.out.in).mono ?_
  rintro e z16 ⟨⟨gG, cG, rfl, ho⟩, hb⟩
  have HB16 : Hid (Below w.heap.size w z16) := HB15.out.trans (hb.mono HB15.out.size)
  have HL_16 : Hid (z15.heap.size ≤ z16.heap.size) := hb.size
  have HXN_16 : Hid _ := heads.box_below HXN_15.out hb
  have HXH_16 : Hid _ := heads.box_below HXH_15.out hb
  have HW_16 : Hid _ := ownA_below HW_15.out hb
  have HX_16 : Hid _ := OwnV.below HX_15.out hb
  have HBN_16 : Hid _ := heads.box_below HBN_15.out hb
  have HY_16 : Hid _ := heads.OwnH.below HY_15.out hb
  have HBH_16 : Hid _ := heads.box_below HBH_15.out hb
  have HG_16 : Hid _ := ho
  clear hb HXN_15 HXH_15 HW_15 HX_15 HBN_15 HY_15 HBH_15 ho
  go_wp2_with fail
  refine (eqa HIL.out.2 HG_16.out HW_16.out).mono ?_
  rintro e z17 ⟨rfl, hb⟩
  have HB17 : Hid (Below w.heap.size w z17) := HB16.out.trans (hb.mono HB16.out.size)
  have HL_17 : Hid (z16.heap.size ≤ z17.heap.size) := hb.size
  have HXN_17 : Hid _ := heads.box_below HXN_16.out hb
  have HXH_17 : Hid _ := heads.box_below HXH_16.out hb
  have HW_17 : Hid _ := ownA_below HW_16.out hb
  have HX_17 : Hid _ := OwnV.below HX_16.out hb
  have HBN_17 : Hid _ := heads.box_below HBN_16.out hb
  have HY_17 : Hid _ := heads.OwnH.below HY_16.out hb
  have HBH_17 : Hid _ := heads.box_below HBH_16.out hb
  have HG_17 : Hid _ := ownA_below HG_16.out hb
  clear hb HXN_16 HXH_16 HW_16 HX_16 HBN_16 HY_16 HBH_16 HG_16
  go_wp2_with fail
  have hl0 : ∀ W, Below z17.heap.size z17 W → W.heap[_]? = _ := fun W h => heads.box_below HBN_17.out h
  have hm0 := fun W h => trees.box8 (hl0 W h)
  have hl1 : ∀ W, Below z17.heap.size z17 W → W.heap[_]? = _ := fun W h => heads.box_below HXN_17.out h
  have hm1 := fun W h => trees.box8 (hl1 W h)
  apply quiets.wp_region_mask z17 (Below.refl _ _) [true, true] (hm := by kernel_rfl) (hB := by kernel_rfl) (hwalk := ?walk17) (htail := ?tail17)
  case walk17 =>
    intro C hC0 hC1
    simp only [quiets.onB, cond_true]
    repeat (go_big_quiet_step ((first | (intro hq; rfl) | (intro hq; simp [go_sem, (hm0 _ (hC0 _ hq)).1, (hm0 _ (hC0 _ hq)).2.1, (hm0 _ (hC0 _ hq)).2.2.1, (hm0 _ (hC0 _ hq)).2.2.2.1, (hm0 _ (hC0 _ hq)).2.2.2.2.1, (hm0 _ (hC0 _ hq)).2.2.2.2.2.1, (hm0 _ (hC0 _ hq)).2.2.2.2.2.2.1, (hm0 _ (hC0 _ hq)).2.2.2.2.2.2.2]; rfl) | (intro hq; simp [go_sem, (hm1 _ (hC0 _ hq)).1, (hm1 _ (hC0 _ hq)).2.1, (hm1 _ (hC0 _ hq)).2.2.1, (hm1 _ (hC0 _ hq)).2.2.2.1, (hm1 _ (hC0 _ hq)).2.2.2.2.1, (hm1 _ (hC0 _ hq)).2.2.2.2.2.1, (hm1 _ (hC0 _ hq)).2.2.2.2.2.2.1, (hm1 _ (hC0 _ hq)).2.2.2.2.2.2.2]; rfl))))
    exact wpQuiet_nil rfl
  clear hm0 hl0 hm1 hl1
  intro z18 hb
  have HB18 : Hid (Below w.heap.size w z18) := HB17.out.trans (hb.mono HB17.out.size)
  have HL_18 : Hid (z17.heap.size ≤ z18.heap.size) := hb.size
  have HXN_18 : Hid _ := heads.box_below HXN_17.out hb
  have HXH_18 : Hid _ := heads.box_below HXH_17.out hb
  have HW_18 : Hid _ := ownA_below HW_17.out hb
  have HX_18 : Hid _ := OwnV.below HX_17.out hb
  have HBN_18 : Hid _ := heads.box_below HBN_17.out hb
  have HY_18 : Hid _ := heads.OwnH.below HY_17.out hb
  have HBH_18 : Hid _ := heads.box_below HBH_17.out hb
  have HG_18 : Hid _ := ownA_below HG_17.out hb
  have HD18 : Hid (Below z17.heap.size z17 z18) := hb
  clear hb HXN_17 HXH_17 HW_17 HX_17 HBN_17 HY_17 HBH_17 HG_17
  simp only [quiets.offB, cond_true]
  refine quiets.tail_cons fun z19 hb => ?_
  have HB19 : Hid (Below w.heap.size w z19) := HB18.out.trans (hb.mono HB18.out.size)
  have HL_19 : Hid (z18.heap.size ≤ z19.heap.size) := hb.size
  have HXN_19 : Hid _ := heads.box_below HXN_18.out hb
  have HXH_19 : Hid _ := heads.box_below HXH_18.out hb
  have HW_19 : Hid _ := ownA_below HW_18.out hb
  have HX_19 : Hid _ := OwnV.below HX_18.out hb
  have HBN_19 : Hid _ := heads.box_below HBN_18.out hb
  have HY_19 : Hid _ := heads.OwnH.below HY_18.out hb
  have HBH_19 : Hid _ := heads.box_below HBH_18.out hb
  have HG_19 : Hid _ := ownA_below HG_18.out hb
  have HD19 : Hid (Below z17.heap.size z17 z19) := HD18.out.trans (hb.mono HD18.out.size)
  clear hb HD18 HXN_18 HXH_18 HW_18 HX_18 HBN_18 HY_18 HBH_18 HG_18
  go_wp2_with fail
  refine (ton HZ.out (HN.out _ HB19.out)).mono ?_
  rintro e z20 ⟨⟨hc, rfl, ho⟩, hb⟩
  have HB20 : Hid (Below w.heap.size w z20) := HB19.out.trans (hb.mono HB19.out.size)
  have HL_20 : Hid (z19.heap.size ≤ z20.heap.size) := hb.size
  have HXN_20 : Hid _ := heads.box_below HXN_19.out hb
  have HXH_20 : Hid _ := heads.box_below HXH_19.out hb
  have HW_20 : Hid _ := ownA_below HW_19.out hb
  have HX_20 : Hid _ := OwnV.below HX_19.out hb
  have HBN_20 : Hid _ := heads.box_below HBN_19.out hb
  have HY_20 : Hid _ := heads.OwnH.below HY_19.out hb
  have HBH_20 : Hid _ := heads.box_below HBH_19.out hb
  have HG_20 : Hid _ := ownA_below HG_19.out hb
  have HD20 : Hid (Below z17.heap.size z17 z20) := HD19.out.trans (hb.mono HD19.out.size)
  have HC_20 : Hid _ := ho
  clear hb HD19 HXN_19 HXH_19 HW_19 HX_19 HBN_19 HY_19 HBH_19 HG_19 ho
  go_wp2_with fail
  refine ⟨HD20.out, ?_⟩
  refine quiets.tail_cons fun z21 hb => ?_
  have HB21 : Hid (Below w.heap.size w z21) := HB20.out.trans (hb.mono HB20.out.size)
  have HL_21 : Hid (z20.heap.size ≤ z21.heap.size) := hb.size
  have HXN_21 : Hid _ := heads.box_below HXN_20.out hb
  have HXH_21 : Hid _ := heads.box_below HXH_20.out hb
  have HW_21 : Hid _ := ownA_below HW_20.out hb
  have HX_21 : Hid _ := OwnV.below HX_20.out hb
  have HBN_21 : Hid _ := heads.box_below HBN_20.out hb
  have HY_21 : Hid _ := heads.OwnH.below HY_20.out hb
  have HBH_21 : Hid _ := heads.box_below HBH_20.out hb
  have HG_21 : Hid _ := ownA_below HG_20.out hb
  have HC_21 : Hid _ := OwnV.below HC_20.out hb
  have HD21 : Hid (Below z17.heap.size z17 z21) := HD20.out.trans (hb.mono HD20.out.size)
  clear hb HD20 HXN_20 HXH_20 HW_20 HX_20 HBN_20 HY_20 HBH_20 HG_20 HC_20
  go_wp2_with fail
  refine (eqn HX_21.out.in HC_21.out.in).mono ?_
  rintro e z22 ⟨rfl, hb⟩
  have HB22 : Hid (Below w.heap.size w z22) := HB21.out.trans (hb.mono HB21.out.size)
  have HL_22 : Hid (z21.heap.size ≤ z22.heap.size) := hb.size
  have HXN_22 : Hid _ := heads.box_below HXN_21.out hb
  have HXH_22 : Hid _ := heads.box_below HXH_21.out hb
  have HW_22 : Hid _ := ownA_below HW_21.out hb
  have HX_22 : Hid _ := OwnV.below HX_21.out hb
  have HBN_22 : Hid _ := heads.box_below HBN_21.out hb
  have HY_22 : Hid _ := heads.OwnH.below HY_21.out hb
  have HBH_22 : Hid _ := heads.box_below HBH_21.out hb
  have HG_22 : Hid _ := ownA_below HG_21.out hb
  have HC_22 : Hid _ := OwnV.below HC_21.out hb
  have HD22 : Hid (Below z17.heap.size z17 z22) := HD21.out.trans (hb.mono HD21.out.size)
  clear hb HD21 HXN_21 HXH_21 HW_21 HX_21 HBN_21 HY_21 HBH_21 HG_21 HC_21
  go_wp2_with fail
  refine ⟨HD22.out, ?_⟩
  refine quiets.tail_cons fun z23 hb => ?_
  have HB23 : Hid (Below w.heap.size w z23) := HB22.out.trans (hb.mono HB22.out.size)
  have HL_23 : Hid (z22.heap.size ≤ z23.heap.size) := hb.size
  have HXN_23 : Hid _ := heads.box_below HXN_22.out hb
  have HXH_23 : Hid _ := heads.box_below HXH_22.out hb
  have HW_23 : Hid _ := ownA_below HW_22.out hb
  have HX_23 : Hid _ := OwnV.below HX_22.out hb
  have HBN_23 : Hid _ := heads.box_below HBN_22.out hb
  have HY_23 : Hid _ := heads.OwnH.below HY_22.out hb
  have HBH_23 : Hid _ := heads.box_below HBH_22.out hb
  have HG_23 : Hid _ := ownA_below HG_22.out hb
  have HC_23 : Hid _ := OwnV.below HC_22.out hb
  have HD23 : Hid (Below z17.heap.size z17 z23) := HD22.out.trans (hb.mono HD22.out.size)
  clear hb HD22 HXN_22 HXH_22 HW_22 HX_22 HBN_22 HY_22 HBH_22 HG_22 HC_22
  go_wp2_with fail
  refine ⟨HD23.out, ?_⟩
  refine quiets.tail_nil fun z24 hb => ?_
  have HB24 : Hid (Below w.heap.size w z24) := HB23.out.trans (hb.mono HB23.out.size)
  have HL_24 : Hid (z23.heap.size ≤ z24.heap.size) := hb.size
  have HXN_24 : Hid _ := heads.box_below HXN_23.out hb
  have HXH_24 : Hid _ := heads.box_below HXH_23.out hb
  have HW_24 : Hid _ := ownA_below HW_23.out hb
  have HX_24 : Hid _ := OwnV.below HX_23.out hb
  have HBN_24 : Hid _ := heads.box_below HBN_23.out hb
  have HY_24 : Hid _ := heads.OwnH.below HY_23.out hb
  have HBH_24 : Hid _ := heads.box_below HBH_23.out hb
  have HG_24 : Hid _ := ownA_below HG_23.out hb
  have HC_24 : Hid _ := OwnV.below HC_23.out hb
  clear hb HD23 HXN_23 HXH_23 HW_23 HX_23 HBN_23 HY_23 HBH_23 HG_23 HC_23
  clear HC_24
  go_wp2_with fail
  have hl0 : ∀ W, Below z24.heap.size z24 W → W.heap[_]? = _ := fun W h => heads.box_below HBH_24.out h
  have hm0 := fun W h => (heads.box3 (hl0 W h)).1
  have hl1 : ∀ W, Below z24.heap.size z24 W → W.heap[_]? = _ := fun W h => heads.box_below HXH_24.out h
  have hm1 := fun W h => (heads.box3 (hl1 W h)).1
  apply quiets.wp_region_mask z24 (Below.refl _ _) [true, true] (hm := by kernel_rfl) (hB := by kernel_rfl) (hwalk := ?walk24) (htail := ?tail24)
  case walk24 =>
    intro C hC0 hC1
    simp only [quiets.onB, cond_true]
    repeat (go_big_quiet_step ((first | (intro hq; rfl) | (intro hq; simp [go_sem, (hm0 _ (hC0 _ hq)).1, (hm0 _ (hC0 _ hq)).2.1, (hm0 _ (hC0 _ hq)).2.2]; rfl) | (intro hq; simp [go_sem, (hm1 _ (hC0 _ hq)).1, (hm1 _ (hC0 _ hq)).2.1, (hm1 _ (hC0 _ hq)).2.2]; rfl))))
    exact wpQuiet_nil rfl
  clear hm0 hl0 hm1 hl1
  intro z25 hb
  have HB25 : Hid (Below w.heap.size w z25) := HB24.out.trans (hb.mono HB24.out.size)
  have HL_25 : Hid (z24.heap.size ≤ z25.heap.size) := hb.size
  have HXN_25 : Hid _ := heads.box_below HXN_24.out hb
  have HXH_25 : Hid _ := heads.box_below HXH_24.out hb
  have HW_25 : Hid _ := ownA_below HW_24.out hb
  have HX_25 : Hid _ := OwnV.below HX_24.out hb
  have HBN_25 : Hid _ := heads.box_below HBN_24.out hb
  have HY_25 : Hid _ := heads.OwnH.below HY_24.out hb
  have HBH_25 : Hid _ := heads.box_below HBH_24.out hb
  have HG_25 : Hid _ := ownA_below HG_24.out hb
  have HD25 : Hid (Below z24.heap.size z24 z25) := hb
  clear hb HXN_24 HXH_24 HW_24 HX_24 HBN_24 HY_24 HBH_24 HG_24
  simp only [quiets.offB, cond_true]
  refine quiets.tail_cons fun z26 hb => ?_
  have HB26 : Hid (Below w.heap.size w z26) := HB25.out.trans (hb.mono HB25.out.size)
  have HL_26 : Hid (z25.heap.size ≤ z26.heap.size) := hb.size
  have HXN_26 : Hid _ := heads.box_below HXN_25.out hb
  have HXH_26 : Hid _ := heads.box_below HXH_25.out hb
  have HW_26 : Hid _ := ownA_below HW_25.out hb
  have HX_26 : Hid _ := OwnV.below HX_25.out hb
  have HBN_26 : Hid _ := heads.box_below HBN_25.out hb
  have HY_26 : Hid _ := heads.OwnH.below HY_25.out hb
  have HBH_26 : Hid _ := heads.box_below HBH_25.out hb
  have HG_26 : Hid _ := ownA_below HG_25.out hb
  have HD26 : Hid (Below z24.heap.size z24 z26) := HD25.out.trans (hb.mono HD25.out.size)
  clear hb HD25 HXN_25 HXH_25 HW_25 HX_25 HBN_25 HY_25 HBH_25 HG_25
  go_wp2_with fail
  refine (toh HZH.out (HH.out _ HB26.out)).mono ?_
  rintro e z27 ⟨⟨hc, rfl, ho⟩, hb⟩
  have HB27 : Hid (Below w.heap.size w z27) := HB26.out.trans (hb.mono HB26.out.size)
  have HL_27 : Hid (z26.heap.size ≤ z27.heap.size) := hb.size
  have HXN_27 : Hid _ := heads.box_below HXN_26.out hb
  have HXH_27 : Hid _ := heads.box_below HXH_26.out hb
  have HW_27 : Hid _ := ownA_below HW_26.out hb
  have HX_27 : Hid _ := OwnV.below HX_26.out hb
  have HBN_27 : Hid _ := heads.box_below HBN_26.out hb
  have HY_27 : Hid _ := heads.OwnH.below HY_26.out hb
  have HBH_27 : Hid _ := heads.box_below HBH_26.out hb
  have HG_27 : Hid _ := ownA_below HG_26.out hb
  have HD27 : Hid (Below z24.heap.size z24 z27) := HD26.out.trans (hb.mono HD26.out.size)
  have HC_27 : Hid _ := ho
  clear hb HD26 HXN_26 HXH_26 HW_26 HX_26 HBN_26 HY_26 HBH_26 HG_26 ho
  go_wp2_with fail
  refine ⟨HD27.out, ?_⟩
  refine quiets.tail_cons fun z28 hb => ?_
  have HB28 : Hid (Below w.heap.size w z28) := HB27.out.trans (hb.mono HB27.out.size)
  have HL_28 : Hid (z27.heap.size ≤ z28.heap.size) := hb.size
  have HXN_28 : Hid _ := heads.box_below HXN_27.out hb
  have HXH_28 : Hid _ := heads.box_below HXH_27.out hb
  have HW_28 : Hid _ := ownA_below HW_27.out hb
  have HX_28 : Hid _ := OwnV.below HX_27.out hb
  have HBN_28 : Hid _ := heads.box_below HBN_27.out hb
  have HY_28 : Hid _ := heads.OwnH.below HY_27.out hb
  have HBH_28 : Hid _ := heads.box_below HBH_27.out hb
  have HG_28 : Hid _ := ownA_below HG_27.out hb
  have HC_28 : Hid _ := heads.OwnH.below HC_27.out hb
  have HD28 : Hid (Below z24.heap.size z24 z28) := HD27.out.trans (hb.mono HD27.out.size)
  clear hb HD27 HXN_27 HXH_27 HW_27 HX_27 HBN_27 HY_27 HBH_27 HG_27 HC_27
  go_wp2_with fail
  refine (eqh HY_28.out.at HC_28.out.at).mono ?_
  rintro e z29 ⟨rfl, hb⟩
  have HB29 : Hid (Below w.heap.size w z29) := HB28.out.trans (hb.mono HB28.out.size)
  have HL_29 : Hid (z28.heap.size ≤ z29.heap.size) := hb.size
  have HXN_29 : Hid _ := heads.box_below HXN_28.out hb
  have HXH_29 : Hid _ := heads.box_below HXH_28.out hb
  have HW_29 : Hid _ := ownA_below HW_28.out hb
  have HX_29 : Hid _ := OwnV.below HX_28.out hb
  have HBN_29 : Hid _ := heads.box_below HBN_28.out hb
  have HY_29 : Hid _ := heads.OwnH.below HY_28.out hb
  have HBH_29 : Hid _ := heads.box_below HBH_28.out hb
  have HG_29 : Hid _ := ownA_below HG_28.out hb
  have HC_29 : Hid _ := heads.OwnH.below HC_28.out hb
  have HD29 : Hid (Below z24.heap.size z24 z29) := HD28.out.trans (hb.mono HD28.out.size)
  clear hb HD28 HXN_28 HXH_28 HW_28 HX_28 HBN_28 HY_28 HBH_28 HG_28 HC_28
  go_wp2_with fail
  refine ⟨HD29.out, ?_⟩
  refine quiets.tail_cons fun z30 hb => ?_
  have HB30 : Hid (Below w.heap.size w z30) := HB29.out.trans (hb.mono HB29.out.size)
  have HL_30 : Hid (z29.heap.size ≤ z30.heap.size) := hb.size
  have HXN_30 : Hid _ := heads.box_below HXN_29.out hb
  have HXH_30 : Hid _ := heads.box_below HXH_29.out hb
  have HW_30 : Hid _ := ownA_below HW_29.out hb
  have HX_30 : Hid _ := OwnV.below HX_29.out hb
  have HBN_30 : Hid _ := heads.box_below HBN_29.out hb
  have HY_30 : Hid _ := heads.OwnH.below HY_29.out hb
  have HBH_30 : Hid _ := heads.box_below HBH_29.out hb
  have HG_30 : Hid _ := ownA_below HG_29.out hb
  have HC_30 : Hid _ := heads.OwnH.below HC_29.out hb
  have HD30 : Hid (Below z24.heap.size z24 z30) := HD29.out.trans (hb.mono HD29.out.size)
  clear hb HD29 HXN_29 HXH_29 HW_29 HX_29 HBN_29 HY_29 HBH_29 HG_29 HC_29
  go_wp2_with fail
  refine ⟨HD30.out, ?_⟩
  refine quiets.tail_nil fun z31 hb => ?_
  have HB31 : Hid (Below w.heap.size w z31) := HB30.out.trans (hb.mono HB30.out.size)
  have HL_31 : Hid (z30.heap.size ≤ z31.heap.size) := hb.size
  have HXN_31 : Hid _ := heads.box_below HXN_30.out hb
  have HXH_31 : Hid _ := heads.box_below HXH_30.out hb
  have HW_31 : Hid _ := ownA_below HW_30.out hb
  have HX_31 : Hid _ := OwnV.below HX_30.out hb
  have HBN_31 : Hid _ := heads.box_below HBN_30.out hb
  have HY_31 : Hid _ := heads.OwnH.below HY_30.out hb
  have HBH_31 : Hid _ := heads.box_below HBH_30.out hb
  have HG_31 : Hid _ := ownA_below HG_30.out hb
  have HC_31 : Hid _ := heads.OwnH.below HC_30.out hb
  clear hb HD30 HXN_30 HXH_30 HW_30 HX_30 HBN_30 HY_30 HBH_30 HG_30 HC_30
  clear HC_31
  obtain ⟨n0, n1, n2, n3, n4, n5, n6, n7⟩ := trees.box8 HBN_31.out
  go_wp2_with fail
  clear n0 n1 n2 n3 n4 n5 n6 n7
  refine (marn HZ.out HKN.out HX_31.out).mono ?_
  rintro e z32 ⟨rfl, hout⟩
  have HB32 : Hid (Below w.heap.size w z32) := trees.Out.below hout HB31.out (fun b hb => Nat.le_trans HB11.out.size hb.1) HB31.out.size
  have HL_32 : Hid (z31.heap.size ≤ z32.heap.size) := hout.size
  have HXN_32 : Hid _ := (hout.block _ (pairs.lt_heap HXN_31.out) (fun hc => by have := hc.1; have := hc.2; have := HL_0.out; have := HL_1.out; have := HL_2.out; have := HL_3.out; have := HL_4.out; have := HL_5.out; have := HL_6.out; have := HL_7.out; have := HL_8.out; have := HL_9.out; have := HL_10.out; have := HL_11.out; have := HL_12.out; have := HL_13.out; have := HL_14.out; have := HL_15.out; have := HL_16.out; have := HL_17.out; have := HL_18.out; have := HL_19.out; have := HL_20.out; have := HL_21.out; have := HL_22.out; have := HL_23.out; have := HL_24.out; have := HL_25.out; have := HL_26.out; have := HL_27.out; have := HL_28.out; have := HL_29.out; have := HL_30.out; have := HL_31.out; omega)).trans HXN_31.out
  have HXH_32 : Hid _ := (hout.block _ (pairs.lt_heap HXH_31.out) (fun hc => by have := hc.1; have := hc.2; have := HL_0.out; have := HL_1.out; have := HL_2.out; have := HL_3.out; have := HL_4.out; have := HL_5.out; have := HL_6.out; have := HL_7.out; have := HL_8.out; have := HL_9.out; have := HL_10.out; have := HL_11.out; have := HL_12.out; have := HL_13.out; have := HL_14.out; have := HL_15.out; have := HL_16.out; have := HL_17.out; have := HL_18.out; have := HL_19.out; have := HL_20.out; have := HL_21.out; have := HL_22.out; have := HL_23.out; have := HL_24.out; have := HL_25.out; have := HL_26.out; have := HL_27.out; have := HL_28.out; have := HL_29.out; have := HL_30.out; have := HL_31.out; omega)).trans HXH_31.out
  have HW_32 : Hid _ := trees.OwnA.out HW_31.out hout (fun b hb hc => by have := hb.1; have := hb.2; have := hc.1; have := hc.2; have := HL_0.out; have := HL_1.out; have := HL_2.out; have := HL_3.out; have := HL_4.out; have := HL_5.out; have := HL_6.out; have := HL_7.out; have := HL_8.out; have := HL_9.out; have := HL_10.out; have := HL_11.out; have := HL_12.out; have := HL_13.out; have := HL_14.out; have := HL_15.out; have := HL_16.out; have := HL_17.out; have := HL_18.out; have := HL_19.out; have := HL_20.out; have := HL_21.out; have := HL_22.out; have := HL_23.out; have := HL_24.out; have := HL_25.out; have := HL_26.out; have := HL_27.out; have := HL_28.out; have := HL_29.out; have := HL_30.out; have := HL_31.out; omega)
  have HBN_32 : Hid _ := (hout.block _ (pairs.lt_heap HBN_31.out) (fun hc => by have := hc.1; have := hc.2; have := HL_0.out; have := HL_1.out; have := HL_2.out; have := HL_3.out; have := HL_4.out; have := HL_5.out; have := HL_6.out; have := HL_7.out; have := HL_8.out; have := HL_9.out; have := HL_10.out; have := HL_11.out; have := HL_12.out; have := HL_13.out; have := HL_14.out; have := HL_15.out; have := HL_16.out; have := HL_17.out; have := HL_18.out; have := HL_19.out; have := HL_20.out; have := HL_21.out; have := HL_22.out; have := HL_23.out; have := HL_24.out; have := HL_25.out; have := HL_26.out; have := HL_27.out; have := HL_28.out; have := HL_29.out; have := HL_30.out; have := HL_31.out; omega)).trans HBN_31.out
  have HY_32 : Hid _ := heads.OwnH.out HY_31.out hout (fun b hb hc => by have := hb.1; have := hb.2; have := hc.1; have := hc.2; have := HL_0.out; have := HL_1.out; have := HL_2.out; have := HL_3.out; have := HL_4.out; have := HL_5.out; have := HL_6.out; have := HL_7.out; have := HL_8.out; have := HL_9.out; have := HL_10.out; have := HL_11.out; have := HL_12.out; have := HL_13.out; have := HL_14.out; have := HL_15.out; have := HL_16.out; have := HL_17.out; have := HL_18.out; have := HL_19.out; have := HL_20.out; have := HL_21.out; have := HL_22.out; have := HL_23.out; have := HL_24.out; have := HL_25.out; have := HL_26.out; have := HL_27.out; have := HL_28.out; have := HL_29.out; have := HL_30.out; have := HL_31.out; omega)
  have HBH_32 : Hid _ := (hout.block _ (pairs.lt_heap HBH_31.out) (fun hc => by have := hc.1; have := hc.2; have := HL_0.out; have := HL_1.out; have := HL_2.out; have := HL_3.out; have := HL_4.out; have := HL_5.out; have := HL_6.out; have := HL_7.out; have := HL_8.out; have := HL_9.out; have := HL_10.out; have := HL_11.out; have := HL_12.out; have := HL_13.out; have := HL_14.out; have := HL_15.out; have := HL_16.out; have := HL_17.out; have := HL_18.out; have := HL_19.out; have := HL_20.out; have := HL_21.out; have := HL_22.out; have := HL_23.out; have := HL_24.out; have := HL_25.out; have := HL_26.out; have := HL_27.out; have := HL_28.out; have := HL_29.out; have := HL_30.out; have := HL_31.out; omega)).trans HBH_31.out
  have HG_32 : Hid _ := trees.OwnA.out HG_31.out hout (fun b hb hc => by have := hb.1; have := hb.2; have := hc.1; have := hc.2; have := HL_0.out; have := HL_1.out; have := HL_2.out; have := HL_3.out; have := HL_4.out; have := HL_5.out; have := HL_6.out; have := HL_7.out; have := HL_8.out; have := HL_9.out; have := HL_10.out; have := HL_11.out; have := HL_12.out; have := HL_13.out; have := HL_14.out; have := HL_15.out; have := HL_16.out; have := HL_17.out; have := HL_18.out; have := HL_19.out; have := HL_20.out; have := HL_21.out; have := HL_22.out; have := HL_23.out; have := HL_24.out; have := HL_25.out; have := HL_26.out; have := HL_27.out; have := HL_28.out; have := HL_29.out; have := HL_30.out; have := HL_31.out; omega)
  clear hout HXN_31 HXH_31 HW_31 HX_31 HBN_31 HY_31 HBH_31 HG_31
  clear HBN_32
  obtain ⟨⟨m0, m1, m2⟩, -⟩ := heads.box3 HBH_32.out
  go_wp2_with fail
  clear m0 m1 m2
  refine (marh HZH.out HKB.out HKH.out HY_32.out).mono ?_
  rintro e z33 ⟨rfl, hout⟩
  have HB33 : Hid (Below w.heap.size w z33) := trees.Out.below hout HB32.out (fun b hb => Nat.le_trans HB13.out.size hb.1) HB32.out.size
  have HL_33 : Hid (z32.heap.size ≤ z33.heap.size) := hout.size
  have HXN_33 : Hid _ := (hout.block _ (pairs.lt_heap HXN_32.out) (fun hc => by have := hc.1; have := hc.2; have := HL_0.out; have := HL_1.out; have := HL_2.out; have := HL_3.out; have := HL_4.out; have := HL_5.out; have := HL_6.out; have := HL_7.out; have := HL_8.out; have := HL_9.out; have := HL_10.out; have := HL_11.out; have := HL_12.out; have := HL_13.out; have := HL_14.out; have := HL_15.out; have := HL_16.out; have := HL_17.out; have := HL_18.out; have := HL_19.out; have := HL_20.out; have := HL_21.out; have := HL_22.out; have := HL_23.out; have := HL_24.out; have := HL_25.out; have := HL_26.out; have := HL_27.out; have := HL_28.out; have := HL_29.out; have := HL_30.out; have := HL_31.out; have := HL_32.out; omega)).trans HXN_32.out
  have HXH_33 : Hid _ := (hout.block _ (pairs.lt_heap HXH_32.out) (fun hc => by have := hc.1; have := hc.2; have := HL_0.out; have := HL_1.out; have := HL_2.out; have := HL_3.out; have := HL_4.out; have := HL_5.out; have := HL_6.out; have := HL_7.out; have := HL_8.out; have := HL_9.out; have := HL_10.out; have := HL_11.out; have := HL_12.out; have := HL_13.out; have := HL_14.out; have := HL_15.out; have := HL_16.out; have := HL_17.out; have := HL_18.out; have := HL_19.out; have := HL_20.out; have := HL_21.out; have := HL_22.out; have := HL_23.out; have := HL_24.out; have := HL_25.out; have := HL_26.out; have := HL_27.out; have := HL_28.out; have := HL_29.out; have := HL_30.out; have := HL_31.out; have := HL_32.out; omega)).trans HXH_32.out
  have HW_33 : Hid _ := trees.OwnA.out HW_32.out hout (fun b hb hc => by have := hb.1; have := hb.2; have := hc.1; have := hc.2; have := HL_0.out; have := HL_1.out; have := HL_2.out; have := HL_3.out; have := HL_4.out; have := HL_5.out; have := HL_6.out; have := HL_7.out; have := HL_8.out; have := HL_9.out; have := HL_10.out; have := HL_11.out; have := HL_12.out; have := HL_13.out; have := HL_14.out; have := HL_15.out; have := HL_16.out; have := HL_17.out; have := HL_18.out; have := HL_19.out; have := HL_20.out; have := HL_21.out; have := HL_22.out; have := HL_23.out; have := HL_24.out; have := HL_25.out; have := HL_26.out; have := HL_27.out; have := HL_28.out; have := HL_29.out; have := HL_30.out; have := HL_31.out; have := HL_32.out; omega)
  have HBH_33 : Hid _ := (hout.block _ (pairs.lt_heap HBH_32.out) (fun hc => by have := hc.1; have := hc.2; have := HL_0.out; have := HL_1.out; have := HL_2.out; have := HL_3.out; have := HL_4.out; have := HL_5.out; have := HL_6.out; have := HL_7.out; have := HL_8.out; have := HL_9.out; have := HL_10.out; have := HL_11.out; have := HL_12.out; have := HL_13.out; have := HL_14.out; have := HL_15.out; have := HL_16.out; have := HL_17.out; have := HL_18.out; have := HL_19.out; have := HL_20.out; have := HL_21.out; have := HL_22.out; have := HL_23.out; have := HL_24.out; have := HL_25.out; have := HL_26.out; have := HL_27.out; have := HL_28.out; have := HL_29.out; have := HL_30.out; have := HL_31.out; have := HL_32.out; omega)).trans HBH_32.out
  have HG_33 : Hid _ := trees.OwnA.out HG_32.out hout (fun b hb hc => by have := hb.1; have := hb.2; have := hc.1; have := hc.2; have := HL_0.out; have := HL_1.out; have := HL_2.out; have := HL_3.out; have := HL_4.out; have := HL_5.out; have := HL_6.out; have := HL_7.out; have := HL_8.out; have := HL_9.out; have := HL_10.out; have := HL_11.out; have := HL_12.out; have := HL_13.out; have := HL_14.out; have := HL_15.out; have := HL_16.out; have := HL_17.out; have := HL_18.out; have := HL_19.out; have := HL_20.out; have := HL_21.out; have := HL_22.out; have := HL_23.out; have := HL_24.out; have := HL_25.out; have := HL_26.out; have := HL_27.out; have := HL_28.out; have := HL_29.out; have := HL_30.out; have := HL_31.out; have := HL_32.out; omega)
  clear hout HXN_32 HXH_32 HW_32 HY_32 HBH_32 HG_32
  clear HBH_33
  go_wp2_with fail
  refine (eqa HIL.out.2 HG_33.out HW_33.out).mono ?_
  rintro e z34 ⟨rfl, hb⟩
  have HB34 : Hid (Below w.heap.size w z34) := HB33.out.trans (hb.mono HB33.out.size)
  have HL_34 : Hid (z33.heap.size ≤ z34.heap.size) := hb.size
  have HXN_34 : Hid _ := heads.box_below HXN_33.out hb
  have HXH_34 : Hid _ := heads.box_below HXH_33.out hb
  have HW_34 : Hid _ := ownA_below HW_33.out hb
  have HG_34 : Hid _ := ownA_below HG_33.out hb
  clear hb HXN_33 HXH_33 HW_33 HG_33
  go_wp2_with fail
  refine (mara HIL.out.1 HKG.out HG_34.out).mono ?_
  rintro e z35 ⟨rfl, ho, hout⟩
  have HB35 : Hid (Below w.heap.size w z35) := trees.Out.below hout HB34.out (fun b hb => Nat.le_trans HB15.out.size hb.1) HB34.out.size
  have HL_35 : Hid (z34.heap.size ≤ z35.heap.size) := hout.size
  have HXN_35 : Hid _ := (hout.block _ (pairs.lt_heap HXN_34.out) (fun hc => by have := hc.1; have := hc.2; have := HL_0.out; have := HL_1.out; have := HL_2.out; have := HL_3.out; have := HL_4.out; have := HL_5.out; have := HL_6.out; have := HL_7.out; have := HL_8.out; have := HL_9.out; have := HL_10.out; have := HL_11.out; have := HL_12.out; have := HL_13.out; have := HL_14.out; have := HL_15.out; have := HL_16.out; have := HL_17.out; have := HL_18.out; have := HL_19.out; have := HL_20.out; have := HL_21.out; have := HL_22.out; have := HL_23.out; have := HL_24.out; have := HL_25.out; have := HL_26.out; have := HL_27.out; have := HL_28.out; have := HL_29.out; have := HL_30.out; have := HL_31.out; have := HL_32.out; have := HL_33.out; have := HL_34.out; omega)).trans HXN_34.out
  have HXH_35 : Hid _ := (hout.block _ (pairs.lt_heap HXH_34.out) (fun hc => by have := hc.1; have := hc.2; have := HL_0.out; have := HL_1.out; have := HL_2.out; have := HL_3.out; have := HL_4.out; have := HL_5.out; have := HL_6.out; have := HL_7.out; have := HL_8.out; have := HL_9.out; have := HL_10.out; have := HL_11.out; have := HL_12.out; have := HL_13.out; have := HL_14.out; have := HL_15.out; have := HL_16.out; have := HL_17.out; have := HL_18.out; have := HL_19.out; have := HL_20.out; have := HL_21.out; have := HL_22.out; have := HL_23.out; have := HL_24.out; have := HL_25.out; have := HL_26.out; have := HL_27.out; have := HL_28.out; have := HL_29.out; have := HL_30.out; have := HL_31.out; have := HL_32.out; have := HL_33.out; have := HL_34.out; omega)).trans HXH_34.out
  have HW_35 : Hid _ := trees.OwnA.out HW_34.out hout (fun b hb hc => by have := hb.1; have := hb.2; have := hc.1; have := hc.2; have := HL_0.out; have := HL_1.out; have := HL_2.out; have := HL_3.out; have := HL_4.out; have := HL_5.out; have := HL_6.out; have := HL_7.out; have := HL_8.out; have := HL_9.out; have := HL_10.out; have := HL_11.out; have := HL_12.out; have := HL_13.out; have := HL_14.out; have := HL_15.out; have := HL_16.out; have := HL_17.out; have := HL_18.out; have := HL_19.out; have := HL_20.out; have := HL_21.out; have := HL_22.out; have := HL_23.out; have := HL_24.out; have := HL_25.out; have := HL_26.out; have := HL_27.out; have := HL_28.out; have := HL_29.out; have := HL_30.out; have := HL_31.out; have := HL_32.out; have := HL_33.out; have := HL_34.out; omega)
  have HG_35 : Hid _ := ho
  clear hout HXN_34 HXH_34 HW_34 HG_34 ho
  go_wp2_with fail
  refine (hela HIL.out.1 HKG.out HG_35.out).mono ?_
  rintro e z36 ⟨rfl, hb⟩
  have HB36 : Hid (Below w.heap.size w z36) := HB35.out.trans (hb.mono HB35.out.size)
  have HL_36 : Hid (z35.heap.size ≤ z36.heap.size) := hb.size
  have HXN_36 : Hid _ := heads.box_below HXN_35.out hb
  have HXH_36 : Hid _ := heads.box_below HXH_35.out hb
  have HW_36 : Hid _ := ownA_below HW_35.out hb
  have HG_36 : Hid _ := ownA_below HG_35.out hb
  clear hb HXN_35 HXH_35 HW_35 HG_35
  go_wp2_with fail
  have hl0 : ∀ W, Below z36.heap.size z36 W → W.heap[_]? = _ := fun W h => heads.box_below HXN_36.out h
  have hm0 := fun W h => trees.box8 (hl0 W h)
  have hl1 : ∀ W, Below z36.heap.size z36 W → W.heap[_]? = _ := fun W h => heads.box_below HXH_36.out h
  have hm1 := fun W h => (heads.box3 (hl1 W h)).1
  apply quiets.wp_region_mask z36 (Below.refl _ _) [true, false, true] (hm := by kernel_rfl) (hB := by kernel_rfl) (hwalk := ?walk36) (htail := ?tail36)
  case walk36 =>
    intro C hC0 hC1
    simp only [quiets.onB, cond_true, cond_false]
    repeat (go_big_quiet_step ((first | (intro hq; rfl) | (intro hq; simp [go_sem, (hm0 _ (hC0 _ hq)).1, (hm0 _ (hC0 _ hq)).2.1, (hm0 _ (hC0 _ hq)).2.2.1, (hm0 _ (hC0 _ hq)).2.2.2.1, (hm0 _ (hC0 _ hq)).2.2.2.2.1, (hm0 _ (hC0 _ hq)).2.2.2.2.2.1, (hm0 _ (hC0 _ hq)).2.2.2.2.2.2.1, (hm0 _ (hC0 _ hq)).2.2.2.2.2.2.2]; rfl) | (intro hq; simp [go_sem, (hm1 _ (hC0 _ hq)).1, (hm1 _ (hC0 _ hq)).2.1, (hm1 _ (hC0 _ hq)).2.2]; rfl))))
    exact wpQuiet_nil rfl
  clear hm0 hl0 hm1 hl1
  intro z37 hb
  have HB37 : Hid (Below w.heap.size w z37) := HB36.out.trans (hb.mono HB36.out.size)
  have HL_37 : Hid (z36.heap.size ≤ z37.heap.size) := hb.size
  have HXN_37 : Hid _ := heads.box_below HXN_36.out hb
  have HXH_37 : Hid _ := heads.box_below HXH_36.out hb
  have HW_37 : Hid _ := ownA_below HW_36.out hb
  have HG_37 : Hid _ := ownA_below HG_36.out hb
  have HD37 : Hid (Below z36.heap.size z36 z37) := hb
  clear hb HXN_36 HXH_36 HW_36 HG_36
  simp only [quiets.offB, cond_true, cond_false]
  refine quiets.tail_cons fun z38 hb => ?_
  have HB38 : Hid (Below w.heap.size w z38) := HB37.out.trans (hb.mono HB37.out.size)
  have HL_38 : Hid (z37.heap.size ≤ z38.heap.size) := hb.size
  have HXN_38 : Hid _ := heads.box_below HXN_37.out hb
  have HXH_38 : Hid _ := heads.box_below HXH_37.out hb
  have HW_38 : Hid _ := ownA_below HW_37.out hb
  have HG_38 : Hid _ := ownA_below HG_37.out hb
  have HD38 : Hid (Below z36.heap.size z36 z38) := HD37.out.trans (hb.mono HD37.out.size)
  clear hb HD37 HXN_37 HXH_37 HW_37 HG_37
  go_wp2_with fail
  refine (ton HZ.out (HN.out _ HB38.out)).mono ?_
  rintro e z39 ⟨⟨hD, rfl, ho⟩, hb⟩
  have HB39 : Hid (Below w.heap.size w z39) := HB38.out.trans (hb.mono HB38.out.size)
  have HL_39 : Hid (z38.heap.size ≤ z39.heap.size) := hb.size
  have HXN_39 : Hid _ := heads.box_below HXN_38.out hb
  have HXH_39 : Hid _ := heads.box_below HXH_38.out hb
  have HW_39 : Hid _ := ownA_below HW_38.out hb
  have HG_39 : Hid _ := ownA_below HG_38.out hb
  have HD39 : Hid (Below z36.heap.size z36 z39) := HD38.out.trans (hb.mono HD38.out.size)
  have HDN_39 : Hid _ := ho
  clear hb HD38 HXN_38 HXH_38 HW_38 HG_38 ho
  go_wp2_with fail
  refine ⟨HD39.out, ?_⟩
  refine quiets.tail_cons fun z40 hb => ?_
  have HB40 : Hid (Below w.heap.size w z40) := HB39.out.trans (hb.mono HB39.out.size)
  have HL_40 : Hid (z39.heap.size ≤ z40.heap.size) := hb.size
  have HXN_40 : Hid _ := heads.box_below HXN_39.out hb
  have HXH_40 : Hid _ := heads.box_below HXH_39.out hb
  have HW_40 : Hid _ := ownA_below HW_39.out hb
  have HG_40 : Hid _ := ownA_below HG_39.out hb
  have HDN_40 : Hid _ := OwnV.below HDN_39.out hb
  have HD40 : Hid (Below z36.heap.size z36 z40) := HD39.out.trans (hb.mono HD39.out.size)
  clear hb HD39 HXN_39 HXH_39 HW_39 HG_39 HDN_39
  go_wp2_with fail
  refine (toh HZH.out (HH.out _ HB40.out)).mono ?_
  rintro e z41 ⟨⟨qD, rfl, ho⟩, hb⟩
  have HB41 : Hid (Below w.heap.size w z41) := HB40.out.trans (hb.mono HB40.out.size)
  have HL_41 : Hid (z40.heap.size ≤ z41.heap.size) := hb.size
  have HXN_41 : Hid _ := heads.box_below HXN_40.out hb
  have HXH_41 : Hid _ := heads.box_below HXH_40.out hb
  have HW_41 : Hid _ := ownA_below HW_40.out hb
  have HG_41 : Hid _ := ownA_below HG_40.out hb
  have HDN_41 : Hid _ := OwnV.below HDN_40.out hb
  have HD41 : Hid (Below z36.heap.size z36 z41) := HD40.out.trans (hb.mono HD40.out.size)
  have HDH_41 : Hid _ := ho
  clear hb HD40 HXN_40 HXH_40 HW_40 HG_40 HDN_40 ho
  go_wp2_with fail
  refine ⟨HD41.out, ?_⟩
  refine quiets.tail_cons fun z42 hb => ?_
  have HB42 : Hid (Below w.heap.size w z42) := HB41.out.trans (hb.mono HB41.out.size)
  have HL_42 : Hid (z41.heap.size ≤ z42.heap.size) := hb.size
  have HXN_42 : Hid _ := heads.box_below HXN_41.out hb
  have HXH_42 : Hid _ := heads.box_below HXH_41.out hb
  have HW_42 : Hid _ := ownA_below HW_41.out hb
  have HG_42 : Hid _ := ownA_below HG_41.out hb
  have HDN_42 : Hid _ := OwnV.below HDN_41.out hb
  have HDH_42 : Hid _ := heads.OwnH.below HDH_41.out hb
  have HD42 : Hid (Below z36.heap.size z36 z42) := HD41.out.trans (hb.mono HD41.out.size)
  clear hb HD41 HXN_41 HXH_41 HW_41 HG_41 HDN_41 HDH_41
  go_wp2_with fail
  refine (ids_impl HI.out HZ.out (HTB.out _ HB42.out) HDH_42.out.at HDN_42.out.in).mono ?_
  rintro e z43 ⟨⟨gK, cK, rfl, ho⟩, hb⟩
  have HB43 : Hid (Below w.heap.size w z43) := HB42.out.trans (hb.mono HB42.out.size)
  have HL_43 : Hid (z42.heap.size ≤ z43.heap.size) := hb.size
  have HXN_43 : Hid _ := heads.box_below HXN_42.out hb
  have HXH_43 : Hid _ := heads.box_below HXH_42.out hb
  have HW_43 : Hid _ := ownA_below HW_42.out hb
  have HG_43 : Hid _ := ownA_below HG_42.out hb
  have HDN_43 : Hid _ := OwnV.below HDN_42.out hb
  have HDH_43 : Hid _ := heads.OwnH.below HDH_42.out hb
  have HD43 : Hid (Below z36.heap.size z36 z43) := HD42.out.trans (hb.mono HD42.out.size)
  have HK_43 : Hid _ := ho
  clear hb HD42 HXN_42 HXH_42 HW_42 HG_42 HDN_42 HDH_42 ho
  go_wp2_with fail
  refine ⟨HD43.out, ?_⟩
  refine quiets.tail_cons fun z44 hb => ?_
  have HB44 : Hid (Below w.heap.size w z44) := HB43.out.trans (hb.mono HB43.out.size)
  have HL_44 : Hid (z43.heap.size ≤ z44.heap.size) := hb.size
  have HXN_44 : Hid _ := heads.box_below HXN_43.out hb
  have HXH_44 : Hid _ := heads.box_below HXH_43.out hb
  have HW_44 : Hid _ := ownA_below HW_43.out hb
  have HG_44 : Hid _ := ownA_below HG_43.out hb
  have HDN_44 : Hid _ := OwnV.below HDN_43.out hb
  have HDH_44 : Hid _ := heads.OwnH.below HDH_43.out hb
  have HK_44 : Hid _ := ownA_below HK_43.out hb
  have HD44 : Hid (Below z36.heap.size z36 z44) := HD43.out.trans (hb.mono HD43.out.size)
  clear hb HD43 HXN_43 HXH_43 HW_43 HG_43 HDN_43 HDH_43 HK_43
  go_wp2_with fail
  refine ⟨HD44.out, ?_⟩
  refine quiets.tail_nil fun z45 hb => ?_
  have HB45 : Hid (Below w.heap.size w z45) := HB44.out.trans (hb.mono HB44.out.size)
  have HL_45 : Hid (z44.heap.size ≤ z45.heap.size) := hb.size
  have HXN_45 : Hid _ := heads.box_below HXN_44.out hb
  have HXH_45 : Hid _ := heads.box_below HXH_44.out hb
  have HW_45 : Hid _ := ownA_below HW_44.out hb
  have HG_45 : Hid _ := ownA_below HG_44.out hb
  have HDN_45 : Hid _ := OwnV.below HDN_44.out hb
  have HDH_45 : Hid _ := heads.OwnH.below HDH_44.out hb
  have HK_45 : Hid _ := ownA_below HK_44.out hb
  clear hb HD44 HXN_44 HXH_44 HW_44 HG_44 HDN_44 HDH_44 HK_44
  clear HDN_45
  clear HDH_45
  go_wp2_with fail
  refine (eqa HIL.out.2 HK_45.out HW_45.out).mono ?_
  rintro e z46 ⟨rfl, hb⟩
  have HB46 : Hid (Below w.heap.size w z46) := HB45.out.trans (hb.mono HB45.out.size)
  have HL_46 : Hid (z45.heap.size ≤ z46.heap.size) := hb.size
  have HXN_46 : Hid _ := heads.box_below HXN_45.out hb
  have HXH_46 : Hid _ := heads.box_below HXH_45.out hb
  have HW_46 : Hid _ := ownA_below HW_45.out hb
  have HG_46 : Hid _ := ownA_below HG_45.out hb
  have HK_46 : Hid _ := ownA_below HK_45.out hb
  clear hb HXN_45 HXH_45 HW_45 HG_45 HK_45
  go_wp2_with fail
  refine (hela HIL.out.1 HKG.out HG_46.out).mono ?_
  rintro e z47 ⟨rfl, hb⟩
  have HB47 : Hid (Below w.heap.size w z47) := HB46.out.trans (hb.mono HB46.out.size)
  have HL_47 : Hid (z46.heap.size ≤ z47.heap.size) := hb.size
  have HXN_47 : Hid _ := heads.box_below HXN_46.out hb
  have HXH_47 : Hid _ := heads.box_below HXH_46.out hb
  have HW_47 : Hid _ := ownA_below HW_46.out hb
  have HG_47 : Hid _ := ownA_below HG_46.out hb
  have HK_47 : Hid _ := ownA_below HK_46.out hb
  clear hb HXN_46 HXH_46 HW_46 HG_46 HK_46
  go_wp2
  go_ret
  exact ⟨rfl, HB47.out⟩

/-! ### The row -/
theorem vars_len {H : Type} {enc : TypeId × Value → H} {P : Program} {w : World} {sp : Nat → Bool} : ∀ {ns : List String} {gs : List (DataW H)} {ps : List MemPlace}, DataW.TrodVars enc P w sp ns gs ps → gs.length = ns.length
  | [], [], _, _ => rfl
  | [], _ :: _, _, h => h.elim
  | _ :: _, [], _, h => h.elim
  | _ :: ns, _ :: gs, _, h => by
    obtain ⟨_, _, _, _, _, _, _, _, _, _, h, _⟩ := h
    simp [vars_len h]
theorem list_len {α : Type} {l : List α} (h : l.length = 2) : ∃ g1 g2, l = [g1, g2] := by
  match l, h with
  | [g1, g2], _ => exact ⟨g1, g2, rfl⟩
set_option maxRecDepth 100000 in
theorem door_met (os : Os) (args : Array Value) : laidMetH Tryd.prog Rows.fnExactIdsOfRow.laid ((World.doorLaid Tryd.prog 400 os).forCall (fun _ _ => 0) ⟨#[], args, []⟩).memory :=
  laidMetH_of_parts3 (fuel := 8) (laidMet_of_run' 8 (by kernel_rfl) (by kernel_rfl)) (by kernel_rfl) (by kernel_rfl)
set_option maxRecDepth 100000 in
theorem lifted (os : Os) (started : os.Started) (H : Type) (enc : TypeId × Value → H) :
    ReturnsInHanded {} Tryd.checked os 3 .any (fun w args => (Rows.fnExactIdsOfSpec.pre enc Tryd.prog Tryd.f3 [] false w args ∧ laidMetH Tryd.prog Rows.fnExactIdsOfRow.laid w) ∧ sizedMet enc Tryd.prog Tryd.f3 (OpenSpec.ofChange Rows.fnExactIdsOfSpec) false w args)
      (Rows.fnExactIdsOfSpec.post enc Tryd.prog Tryd.f3 false true false false) := by
  refine returnsInHanded_of_change_and (C := Tryd.checked) (X := fun w _ => laidMetH Tryd.prog Rows.fnExactIdsOfRow.laid w) (fun _ _ _ hh h => h.of_heap hh) own started (by kernel_rfl) Tryd.func3
    (ChangeSpec.witness_shaped (enc := enc) (C := Tryd.checked) (os := os) (X := fun w _ => laidMetH Tryd.prog Rows.fnExactIdsOfRow.laid w) false (World.doorLaid Tryd.prog 400 os) #[.agg #[.int .i64 0, .string ByteArray.empty, .string ByteArray.empty, .string ByteArray.empty, .slice none 0 0, .slice none 0 0, .slice none 0 0, .string ByteArray.empty], .agg #[.string ByteArray.empty, .slice none 0 0, .slice none 0 0]] 8 rfl (World.shaped_of_RefB (by kernel_rfl) (by kernel_rfl)) (by kernel_rfl) (by kernel_rfl) (by kernel_rfl) (door_met os _)) ?_
  intro W base args ds gs before hval0 hW _ _ hL _
  have hval : ∀ (j : Nat) t v, Tryd.f3.params[j]? = some t → args[j]? = some v → Value.okWide Tryd.prog W .any base t v := hval0
  have hW' := hW
  obtain ⟨p, q, hA0, hV, rfl, hfz, hnd⟩ := hW
  have hA : DataW.TrodAll enc Tryd.prog W 0 (fun _ => true) true Tryd.f3.params.toList args.toList ds p := hA0
  rw [Tryd.params3] at hA hval
  obtain ⟨v0, vs0, d0, ds0, p0, q0, hargs, rfl, rfl, h0, r0⟩ := trodAll_cons hA
  obtain ⟨v1, vs1, d1, ds1, p1, q1, rfl, rfl, rfl, h1, r1⟩ := trodAll_cons r0
  obtain ⟨rfl, rfl, rfl⟩ := trodAll_nil r1
  obtain rfl : args = #[v0, v1] := by cases args; simp_all
  obtain ⟨g1, g2, rfl⟩ := list_len (vars_len hV)
  have k0 := h0
  have lt0 : ∀ x ∈ p0, x.block < W.heap.size := by obtain ⟨m, hm⟩ := k0; exact DataW.trod_lt m _ _ _ hm
  obtain ⟨t0, hd0, rfl, w0⟩ := trees.open_val_node (hval 0 26 v0 rfl rfl) h0
  have k1 := h1
  have lt1 : ∀ x ∈ p1, x.block < W.heap.size := by obtain ⟨m, hm⟩ := k1; exact DataW.trod_lt m _ _ _ hm
  obtain ⟨e1, hq1, rfl, w1⟩ := heads.open_val_head (hval 1 30 v1 rfl rfl) h1
  clear hA0 hval0
  refine (walk t0 hd0 e1 hq1 W w0 w1 hL).mono fun e W' ⟨he, bel⟩ => ?_
  subst he
  exact ⟨_, rfl, _, _, _, [], _, _, hW', trodAll_mk1 (shut_bool Tryd.underlying4 _), (trodAll_cons_mk (Below.trod laidOut (by kernel_rfl) (of_decide_eq_true (by kernel_rfl)) k0 bel lt0) (trodAll_cons_mk (Below.trod laidOut (by kernel_rfl) (of_decide_eq_true (by kernel_rfl)) k1 bel lt1) trodAll_mk0)), Below.trodVars laidOut bel (by kernel_rfl) hV, bel.frame _, fun h => by cases h⟩

theorem said : Rows.FnExactIdsOfSaid :=
  OpenClaim.holds_of_wide 3 Tryd.f3 rfl rfl rfl rfl rfl rfl rfl ⟨rfl, rfl, rfl, rfl, rfl⟩ rfl rfl rfl rfl rfl (by kernel_rfl) Tryd.func3 (by kernel_rfl)
    (of_decide_eq_true (by kernel_rfl)) (by unfold Func.isWrapper; first | (rw [if_pos (by decide +kernel)]; kernel_rfl) | (rw [if_neg (by decide +kernel)]; exact ⟨rfl, rfl⟩))
    (fun os started H enc _ => lifted os started H enc)

/-! ### The card -/
theorem plain (f : FuncId) (fn : Func) (hf : Tryd.pinned.checked.prog.funcNamed "loop.example/g00484/laws.FnExactIdsOf" = some f) (hfn : Tryd.pinned.checked.prog.funcs[f]? = some fn) :
    false = Tryd.pinned.checked.prog.looks [] ∧ ∀ (j : Nat) t, fn.params[j]? = some t → Tryd.pinned.checked.prog.wantsStandIn t = false := by
  obtain rfl : f = 3 := Option.some.inj ((show Tryd.prog.funcNamed "loop.example/g00484/laws.FnExactIdsOf" = some 3 by kernel_rfl).symm.trans hf) |>.symm
  obtain rfl : fn = Tryd.f3 := (Option.some.inj (Tryd.func3.symm.trans hfn)).symm
  refine ⟨by kernel_rfl, fun j t ht => ?_⟩
  rw [Tryd.params3] at ht
  have hm : t ∈ [26, 30] := by simpa using Array.mem_of_getElem? ht
  have hall : ([26, 30].all fun u => !Tryd.prog.wantsStandIn u) = true := by kernel_rfl
  exact (show Tryd.prog.wantsStandIn t = false by simpa using List.all_eq_true.1 hall t hm)

/-- The statement. -/
theorem card : Rows.FnExactIdsOfCardSaid :=
  Claim7.holds_tied_plain_at .later [] _ _ _ _ said (fun _ h => by cases h) (by kernel_rfl) (fun _ h => by cases h) fnExactIdsOf_row_tie rfl ⟨rfl, rfl⟩ (by kernel_rfl) rfl plain (by kernel_rfl)
#print axioms card
end Go.Proofs.YtdpbiaomhndpcaaDoor.fnExactIdsOf
