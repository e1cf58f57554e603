/-
  At every argument the law FnExactInsertAt returns true: InsertAt answers as its specification at every argument, writes nothing into it, keeps nothing of it, and its answer owns its memory. No condition.
  The frame is after the kit's own program (proof-skeleton.mjs); the walk is ours.
-/
import Derived.Test.YtpejcblmglbjfaaRows
import Derived.Test.YtpejcblmglbjfaaImplPutAt
import Derived.Test.YtpejcblmglbjfaaToOwn
import Derived.Test.YtpejcblmglbjfaaNodeHeldV
import Derived.Test.YtpejcblmglbjfaaIntMarks
import Derived.Test.YtpejcblmglbjfaaNodeEq
import Derived.Test.YtpejcblmglbjfaaNodeOpen
import Derived.Test.YtpejcblmglbjfaaCalmTail
import Derived.WalkKit
import Derived.ProofKit
import Derived.OpenShut
import Derived.ShutString
import Derived.ChangeOld
import Derived.Below
import Derived.LaidMore
import Derived.OpenVars
namespace Go.Proofs.Ytpejcblmglbjfaa.fnExactInsertAt
open Go.ChangeShapes Go.WideShapes Go.ChangeAt Go.RowKit Go.WideMaps Go.WideElems
open Go.ChangeMaps (open_string shut_string)
set_option linter.unusedVariables false

theorem own : ownKnob Try.prog.godebug = none := by kernel_rfl
theorem laidOut : laidOutB Try.prog = true := by kernel_rfl

theorem bx_below {w w' : World} {b : Nat} {o : Obj} (h : w.heap[b]? = some o) (hb : Below w.heap.size w w') : w'.heap[b]? = some o := (hb.block b (pairs.lt_heap h)).trans h
/-- Owned, as one word (OwnN is laid open by the unifier). -/
structure OwnV (w : World) (t : trees.Tree) (h : trees.Hdr) (F : trees.Bset) : Prop where
  own : trees.OwnN w t h F
theorem OwnV.below {w w' : World} {t : trees.Tree} {h : trees.Hdr} {F : trees.Bset} (hn : OwnV w t h F) (hb : Below w.heap.size w w') : OwnV w' t h F := ⟨hn.own.below hb⟩
theorem OwnV.out {w w' : World} {t : trees.Tree} {h : trees.Hdr} {F G : trees.Bset} (hn : OwnV w t h F) (ho : trees.Out G w w') (hd : trees.Apart F G) : OwnV w' t h F := ⟨hn.own.out ho hd⟩
theorem OwnV.in {w : World} {t : trees.Tree} {h : trees.Hdr} {F : trees.Bset} (hn : OwnV w t h F) : trees.NodeIn w 0 t h := hn.own.in
theorem short_of {L : List trees.Tree} (hz : trees.nszs L ≤ 1048576) : L.length ≤ maxLen := by
  have := trees.nszs_eq L
  unfold maxLen
  omega
theorem szn {k : Int} {p l u x : ByteArray} {ds : List pairs.Pair} {ats : List trees.Att} {ks : List trees.Tree} {w : World} {h : trees.Hdr} (hn : trees.NodeIn w 0 (.mk k p l u x ds ats ks) h) : Calls Try.prog 30 #[.agg #[.int .i64 k, .string p, .string l, .string u, .slice h.da ds.length h.dc, .slice h.aa ats.length h.ac, .slice h.ka ks.length h.kc, .string x], .int .i64 1048576] w fun e w' => (∃ r : Int, e = .returned (.int .i64 r) ∧ (0 ≤ r → r = 1048576 - trees.nsz (.mk k p l u x ds ats ks))) ∧ Below w.heap.size w w' := by
  have := trees.sz_node 0 _ (.mk k p l u x ds ats ks) h w 1048576 (Nat.lt_succ_self _) (Nat.le_refl _) hn
  unfold trees.SzOk at this
  exact this
theorem ton {k : Int} {p l u x : ByteArray} {ds : List pairs.Pair} {ats : List trees.Att} {ks : List trees.Tree} {w : World} {h : trees.Hdr} (hz : trees.nsz (.mk k p l u x ds ats ks) ≤ 1048576) (hn : trees.NodeIn w 0 (.mk k p l u x ds ats ks) h) : Calls Try.prog 31 #[.agg #[.int .i64 k, .string p, .string l, .string u, .slice h.da ds.length h.dc, .slice h.aa ats.length h.ac, .slice h.ka ks.length h.kc, .string x]] w fun e w' => (∃ h' : trees.Hdr, e = .returned (.agg #[.int .i64 k, .string p, .string l, .string u, .slice h'.da ds.length h'.dc, .slice h'.aa ats.length h'.ac, .slice h'.ka ks.length h'.kc, .string x]) ∧ OwnV w' (.mk k p l u x ds ats ks) h' (trees.Rng w w')) ∧ Below w.heap.size w w' := by
  have := trees.to_own 0 _ (.mk k p l u x ds ats ks) h w (Nat.lt_succ_self _) hz hn
  unfold trees.ToOwn at this
  exact this.mono fun e w' ⟨⟨h', he, ho⟩, hb⟩ => ⟨⟨h', he, ⟨ho⟩⟩, hb⟩
theorem eqn {k : Int} {p l u x : ByteArray} {ds : List pairs.Pair} {ats : List trees.Att} {ks : List trees.Tree} {w : World} {h h' : trees.Hdr} (hn : trees.NodeIn w 0 (.mk k p l u x ds ats ks) h) (hn' : trees.NodeIn w 0 (.mk k p l u x ds ats ks) h') : Calls Try.prog 33 #[.agg #[.int .i64 k, .string p, .string l, .string u, .slice h.da ds.length h.dc, .slice h.aa ats.length h.ac, .slice h.ka ks.length h.kc, .string x], .agg #[.int .i64 k, .string p, .string l, .string u, .slice h'.da ds.length h'.dc, .slice h'.aa ats.length h'.ac, .slice h'.ka ks.length h'.kc, .string x]] w fun e w' => e = .returned (.bool true) ∧ Below w.heap.size w w' := by
  have := trees.eq_node 0 0 _ (.mk k p l u x ds ats ks) h h' w (Nat.lt_succ_self _) hn hn'
  unfold trees.EqOk at this
  exact this
theorem marn {k : Int} {p l u x : ByteArray} {ds : List pairs.Pair} {ats : List trees.Att} {ks : List trees.Tree} {w : World} {h : trees.Hdr} {q : Nat} {F : trees.Bset} (hz : trees.nsz (.mk k p l u x ds ats ks) ≤ 1048576) (hq : 1 + trees.cntN (.mk k p l u x ds ats ks) = q) (hn : OwnV w (.mk k p l u x ds ats ks) h F) : Calls Try.prog 35 #[.agg #[.int .i64 k, .string p, .string l, .string u, .slice h.da ds.length h.dc, .slice h.aa ats.length h.ac, .slice h.ka ks.length h.kc, .string x], .int .i64 1] w fun e w' => (e = .returned (.int .i64 (q : Int)) ∧ OwnV w' (trees.mkN (.mk k p l u x ds ats ks) 1) h F) ∧ trees.Out F w w' := (trees.mark_nd (.mk k p l u x ds ats ks) h 1 q F w hz (by omega) hq hn.own).mono fun e w' hh => ⟨⟨hh.1, ⟨hh.2.1⟩⟩, hh.2.2⟩
theorem heln {k : Int} {p l u x : ByteArray} {ds : List pairs.Pair} {ats : List trees.Att} {ks : List trees.Tree} {w : World} {h : trees.Hdr} {q : Nat} {F : trees.Bset} (hz : trees.nsz (.mk k p l u x ds ats ks) ≤ 1048576) (hq : 1 + trees.cntN (.mk k p l u x ds ats ks) = q) (hn : OwnV w (trees.mkN (.mk k p l u x ds ats ks) 1) h F) : Calls Try.prog 37 #[.agg #[.int .i64 k, .string p, .string l, .string u, .slice h.da ds.length h.dc, .slice h.aa ats.length h.ac, .slice h.ka ks.length h.kc, .string x], .int .i64 1] w fun e w' => e = .returned (.int .i64 (q : Int)) ∧ Below w.heap.size w w' := trees.held_nd (.mk k p l u x ds ats ks) h 1 q F w hz (by omega) hq hn.own
theorem tol {cap : Nat} {L : List trees.Tree} {a : Option Addr} {w : World} (hz : trees.nszs L ≤ 1048576) (hn : trees.NodesAt w 0 a L) : Calls Try.prog 39 #[.slice a L.length cap] w fun e w' => (∃ g, e = .returned (.slice (some ⟨g, 0, none⟩) L.length L.length) ∧ trees.OwnL w' (some ⟨g, 0, none⟩) L (trees.Rng w w')) ∧ Below w.heap.size w w' := trees.to_owns 0 w a L cap hz hn
theorem eql {c c' : Nat} {L : List trees.Tree} {a a' : Option Addr} {w : World} {F F' : trees.Bset} (hz : trees.nszs L ≤ 1048576) (hn : trees.OwnL w a L F) (hn' : trees.OwnL w a' L F') : Calls Try.prog 40 #[.slice a L.length c, .slice a' L.length c'] w fun e w' => e = .returned (.bool true) ∧ Below w.heap.size w w' :=
  trees.eq_nodes 0 0 w a a' L c c' (hn.at (short_of hz)) (hn'.at (short_of hz))
theorem marl {c k q : Nat} {L : List trees.Tree} {a : Option Addr} {w : World} {F : trees.Bset} (hz : trees.nszs L ≤ 1048576) (hk : k ≤ 20000000) (hq : k + trees.cntMs L = q) (hn : trees.OwnL w a L F) : Calls Try.prog 41 #[.slice a L.length c, .int .i64 k] w fun e w' => e = .returned (.int .i64 (q : Int)) ∧ trees.Out F w w' := by
  have h := trees.mark_nodes _ L a c k F w (Nat.lt_succ_self _) hz (by have := trees.cntMs_le L; omega) hn
  unfold trees.MarkOk at h
  rw [hq] at h
  exact h.mono fun e w' hh => ⟨hh.1, hh.2.2⟩
theorem at_spec {k : Int} {p l u x : ByteArray} {ds : List pairs.Pair} {ats : List trees.Att} {ks : List trees.Tree} {w : World} {rk : Int} {rp rl ru rx : ByteArray} {rds : List pairs.Pair} {rats : List trees.Att} {rks : List trees.Tree} {ok : Bool} {h : trees.Hdr} {P : List Int} {a : Option Addr} {c : Nat} {i : Int} {L : List trees.Tree} {b : Option Addr} {cl : Nat} {FL : trees.Bset} (hR : paths.insR (.mk k p l u x ds ats ks) P i L = ((.mk rk rp rl ru rx rds rats rks), ok)) (hz : trees.nsz (.mk k p l u x ds ats ks) + trees.nszs L ≤ 1048576) (hn : trees.NodeIn w 0 (.mk k p l u x ds ats ks) h) (hp : ints.IntsAt w a P) (hl : trees.OwnL w b L FL) (hi : ints.okI i) (hc : P.length ≤ c) : Calls Try.prog 29 #[.agg #[.int .i64 k, .string p, .string l, .string u, .slice h.da ds.length h.dc, .slice h.aa ats.length h.ac, .slice h.ka ks.length h.kc, .string x], .slice a P.length c, .int .i64 i, .slice b L.length cl] w fun e w' => (∃ h' : trees.Hdr, e = .returned (.tuple #[.agg #[.int .i64 rk, .string rp, .string rl, .string ru, .slice h'.da rds.length h'.dc, .slice h'.aa rats.length h'.ac, .slice h'.ka rks.length h'.kc, .string rx], .bool ok]) ∧ OwnV w' (.mk rk rp rl ru rx rds rats rks) h' (trees.Rng w w')) ∧ Below w.heap.size w w' := by
  have := paths.spec_insertAt (.mk k p l u x ds ats ks) h P a c i L b cl w hz hc hi hn hp (hl.at (short_of (by omega)))
  unfold paths.AtAns at this
  rw [hR] at this
  exact this.mono fun e w' ⟨⟨h', he, ho⟩, hb⟩ => ⟨⟨h', he, ⟨ho⟩⟩, hb⟩
theorem at_impl {k : Int} {p l u x : ByteArray} {ds : List pairs.Pair} {ats : List trees.Att} {ks : List trees.Tree} {w : World} {rk : Int} {rp rl ru rx : ByteArray} {rds : List pairs.Pair} {rats : List trees.Att} {rks : List trees.Tree} {ok : Bool} {h : trees.Hdr} {P : List Int} {a : Option Addr} {c : Nat} {i : Int} {L : List trees.Tree} {b : Option Addr} {cl : Nat} {FL : trees.Bset} (hR : paths.insR (.mk k p l u x ds ats ks) P i L = ((.mk rk rp rl ru rx rds rats rks), ok)) (hz : trees.nsz (.mk k p l u x ds ats ks) + trees.nszs L ≤ 1048576) (hn : trees.NodeIn w 0 (.mk k p l u x ds ats ks) h) (hp : ints.IntsAt w a P) (hl : trees.OwnL w b L FL) (hi : ints.okI i) (hc : P.length ≤ c) : Calls Try.prog 28 #[.agg #[.int .i64 k, .string p, .string l, .string u, .slice h.da ds.length h.dc, .slice h.aa ats.length h.ac, .slice h.ka ks.length h.kc, .string x], .slice a P.length c, .int .i64 i, .slice b L.length cl] w fun e w' => (∃ h' : trees.Hdr, e = .returned (.tuple #[.agg #[.int .i64 rk, .string rp, .string rl, .string ru, .slice h'.da rds.length h'.dc, .slice h'.aa rats.length h'.ac, .slice h'.ka rks.length h'.kc, .string rx], .bool ok]) ∧ OwnV w' (.mk rk rp rl ru rx rds rats rks) h' (trees.Rng w w')) ∧ Below w.heap.size w w' := by
  have := paths.impl_insertAt (.mk k p l u x ds ats ks) h P a c i L b cl w hz hc hi hn hp (hl.at (short_of (by omega)))
  unfold paths.AtAns at this
  rw [hR] at this
  exact this.mono fun e w' ⟨⟨h', he, ho⟩, hb⟩ => ⟨⟨h', he, ⟨ho⟩⟩, hb⟩

/-! ### The walk: the law returns true, and nothing that was there has turned -/
set_option maxRecDepth 100000 in
set_option maxHeartbeats 16000000 in
theorem walk (t0 : trees.Tree) (hd0 : trees.Hdr) (a1 : Option Addr) (cap1 : Nat) (L1 : List Int) (a2 : Int) (a3 : Option Addr) (cap3 : Nat) (L3 : List trees.Tree) (w : World) (w0 : trees.NodeIn w 0 t0 hd0) (w1 : ints.IntsAt w a1 L1) (w2 : (Lit.int .i64 a2).wf = true) (w3 : trees.NodesAt w 0 a3 L3) :
    Calls Try.prog 7 #[.agg (trees.vals t0 hd0), .slice a1 L1.length cap1, .int .i64 a2, .slice a3 L3.length cap3] w fun e w' => e = .returned (.bool true) ∧ Below w.heap.size w w' := by
  obtain ⟨k, p, l, u, x, ds, ats, ks⟩ := t0
  have HN : Hid (∀ W, Below w.heap.size w W → trees.NodeIn W 0 (.mk k p l u x ds ats ks) hd0) := fun W hb => w0.below hb
  have HP : Hid (∀ W, Below w.heap.size w W → ints.IntsAt W a1 L1) := fun W hb => w1.below (Nat.le_refl _) hb
  have HLL : Hid (∀ W, Below w.heap.size w W → trees.NodesAt W 0 a3 L3) := fun W hb => w3.below hb
  have HI : Hid (ints.okI a2) := ints.ok_of w2
  have HPF : Hid (ints.IFit L1) := ⟨w1.short, w1.fit⟩
  simp only [trees.vals, trees.Tree.kind, trees.Tree.pre, trees.Tree.loc, trees.Tree.uri, trees.Tree.text, trees.Tree.ds, trees.Tree.ats, trees.Tree.kids]
  clear w0 w1 w3
  by_cases hlen : (1048576 : Int) < L1.length
  · go_enter Try.func7, Try.ntmps7
    go_wp2
    go_ret
    exact ⟨rfl, (Below.refl _ _).alloc (Nat.le_refl _) _⟩
  have HPL : Hid (L1.length ≤ 1048576) := by show _ ≤ _; omega
  obtain ⟨⟨rk, rp, rl, ru, rx, rds, rats, rks⟩, ok, hR⟩ : ∃ (r : trees.Tree) (ok : Bool), paths.insR (.mk k p l u x ds ats ks) L1 a2 L3  = (r, ok) := ⟨_, _, rfl⟩
  have HR : Hid _ := hR
  have hoo : (ok != ok) = false := by cases ok <;> rfl
  obtain ⟨kn, hkn⟩ : ∃ q, 1 + trees.cntN (.mk k p l u x ds ats ks) = q := ⟨_, rfl⟩
  have HKN : Hid _ := hkn
  obtain ⟨kp, hkp⟩ : ∃ q, kn + L1.length = q := ⟨_, rfl⟩
  have HKP : Hid _ := hkp
  obtain ⟨kl, hkl⟩ : ∃ q, kp + trees.cntMs L3 = q := ⟨_, rfl⟩
  have HKL : Hid _ := hkl
  obtain ⟨kg, hkg⟩ : ∃ q, 1 + trees.cntN (.mk rk rp rl ru rx rds rats rks) = q := ⟨_, rfl⟩
  have HKG : Hid _ := hkg
  clear hR hkn hkp hkg hkl
  have HB0 : Hid (Below w.heap.size w (w.alloc (.cells #[.int .i64 k, .string p, .string l, .string u, .slice hd0.da ds.length hd0.dc, .slice hd0.aa ats.length hd0.ac, .slice hd0.ka ks.length hd0.kc, .string x] 52))) := (Below.refl _ _).alloc (Nat.le_refl _) _
  have HXN_0 : Hid ((w.alloc (.cells #[.int .i64 k, .string p, .string l, .string u, .slice hd0.da ds.length hd0.dc, .slice hd0.aa ats.length hd0.ac, .slice hd0.ka ks.length hd0.kc, .string x] 52)).heap[w.heap.size]? = _) := heap_alloc_new w (.cells #[.int .i64 k, .string p, .string l, .string u, .slice hd0.da ds.length hd0.dc, .slice hd0.aa ats.length hd0.ac, .slice hd0.ka ks.length hd0.kc, .string x] 52)
  go_enter Try.func7, Try.ntmps7
  obtain ⟨z0, hz0⟩ : ∃ z0, w.alloc (.cells #[.int .i64 k, .string p, .string l, .string u, .slice hd0.da ds.length hd0.dc, .slice hd0.aa ats.length hd0.ac, .slice hd0.ka ks.length hd0.kc, .string x] 52) = z0 := ⟨_, rfl⟩
  rw [hz0] at HB0 HXN_0
  have HL_0 : Hid (w.heap.size + 1 ≤ z0.heap.size) := pairs.lt_heap HXN_0.out
  obtain ⟨n0, n1, n2, n3, n4, n5, n6, n7⟩ := trees.box8 HXN_0.out
  go_wp2_with fail
  clear hz0
  refine Calls.mono (szn (HN.out _ HB0.out)) ?_
  rintro e z1 ⟨⟨r, rfl, hr⟩, hb⟩
  have HB1 : Hid (Below w.heap.size w z1) := HB0.out.trans (hb.mono HB0.out.size)
  have HL_1 : Hid (z0.heap.size ≤ z1.heap.size) := hb.size
  have HXN_1 : Hid _ := bx_below HXN_0.out hb
  clear hb HXN_0 n0 n1 n2 n3 n4 n5 n6 n7
  by_cases hneg : r < 0
  · go_wp2
    go_ret
    exact ⟨rfl, HB1.out⟩
  have HZ0 : Hid (r = 1048576 - trees.nsz (.mk k p l u x ds ats ks)) := hr (by omega)
  obtain ⟨lf, hlf⟩ : ∃ lf : Nat, r = lf := ⟨r.toNat, by omega⟩
  subst hlf
  have hlf2 : lf ≤ 1048576 := by have := hr (by omega); omega
  clear hr
  go_wp2_with fail
  refine Calls.mono (trees.sz_nodes 0 _ _ _ _ lf hlf2 (HLL.out _ HB1.out)) ?_
  rintro e z2 ⟨⟨r2, rfl, hr⟩, hb⟩
  have HB2 : Hid (Below w.heap.size w z2) := HB1.out.trans (hb.mono HB1.out.size)
  have HL_2 : Hid (z1.heap.size ≤ z2.heap.size) := hb.size
  have HXN_2 : Hid _ := bx_below HXN_1.out hb
  clear hb HXN_1
  by_cases hneg2 : r2 < 0
  · go_wp2
    go_ret
    exact ⟨rfl, HB2.out⟩
  have HZA : Hid (trees.nsz (.mk k p l u x ds ats ks) + trees.nszs L3 ≤ 1048576) := by have h1 := hr (by omega); have h2 := HZ0.out; show _ ≤ _; omega
  clear hr hlf2
  have HZ : Hid (trees.nsz (.mk k p l u x ds ats ks) ≤ 1048576) := by have := HZA.out; show _ ≤ _; omega
  have HZL : Hid (trees.nszs L3 ≤ 1048576) := by have := HZA.out; show _ ≤ _; omega
  have HZR : Hid (trees.nsz (.mk rk rp rl ru rx rds rats rks) ≤ 1048576) := paths.ins_nsz HZA.out HR.out
  have HKB : Hid (kn ≤ 20000000) := by have := trees.cntN_le (.mk k p l u x ds ats ks) HZ.out; have := HKN.out; show _ ≤ _; omega
  have HKB2 : Hid (kp ≤ 20000000) := by have := trees.cntN_le (.mk k p l u x ds ats ks) HZ.out; have := HKN.out; have := HKP.out; have := HPL.out; show _ ≤ _; omega
  obtain ⟨n0, n1, n2, n3, n4, n5, n6, n7⟩ := trees.box8 HXN_2.out
  go_wp2_with fail
  refine Calls.mono (ton HZ.out (HN.out _ HB2.out)) ?_
  rintro e z3 ⟨⟨hS, rfl, ho⟩, hb⟩
  have HB3 : Hid (Below w.heap.size w z3) := HB2.out.trans (hb.mono HB2.out.size)
  have HL_3 : Hid (z2.heap.size ≤ z3.heap.size) := hb.size
  have HXN_3 : Hid _ := bx_below HXN_2.out hb
  have HSN_3 : Hid _ := ho
  clear hb HXN_2 ho n0 n1 n2 n3 n4 n5 n6 n7
  go_wp2_with fail
  refine Calls.mono (ints.to_own _ _ _ _ (HP.out _ HB3.out) HPL.out) ?_
  rintro e z4 ⟨⟨gS, rfl, ho⟩, hb⟩
  have HB4 : Hid (Below w.heap.size w z4) := HB3.out.trans (hb.mono HB3.out.size)
  have HL_4 : Hid (z3.heap.size ≤ z4.heap.size) := hb.size
  have HXN_4 : Hid _ := bx_below HXN_3.out hb
  have HSN_4 : Hid _ := OwnV.below HSN_3.out hb
  have HSP_4 : Hid _ := ho
  clear hb HXN_3 HSN_3 ho
  go_wp2_with fail
  refine Calls.mono (tol HZL.out (HLL.out _ HB4.out)) ?_
  rintro e z5 ⟨⟨lS, rfl, ho⟩, hb⟩
  have HB5 : Hid (Below w.heap.size w z5) := HB4.out.trans (hb.mono HB4.out.size)
  have HL_5 : Hid (z4.heap.size ≤ z5.heap.size) := hb.size
  have HXN_5 : Hid _ := bx_below HXN_4.out hb
  have HSN_5 : Hid _ := OwnV.below HSN_4.out hb
  have HSP_5 : Hid _ := ints.OwnI.below HSP_4.out hb
  have HSL_5 : Hid _ := ho
  clear hb HXN_4 HSN_4 HSP_4 ho
  go_wp2_with fail
  refine Calls.mono (at_spec HR.out HZA.out HSN_5.out.in (ints.OwnI.at HSP_5.out HPF.out) HSL_5.out HI.out (Nat.le_refl _)) ?_
  rintro e z6 ⟨⟨hW, rfl, ho⟩, hb⟩
  have HB6 : Hid (Below w.heap.size w z6) := HB5.out.trans (hb.mono HB5.out.size)
  have HL_6 : Hid (z5.heap.size ≤ z6.heap.size) := hb.size
  have HXN_6 : Hid _ := bx_below HXN_5.out hb
  have HSN_6 : Hid _ := OwnV.below HSN_5.out hb
  have HSP_6 : Hid _ := ints.OwnI.below HSP_5.out hb
  have HSL_6 : Hid _ := trees.OwnL.below HSL_5.out hb
  have HW_6 : Hid _ := ho
  clear hb HXN_5 HSN_5 HSP_5 HSL_5 ho
  clear HSN_6
  clear HSP_6
  clear HSL_6
  obtain ⟨n0, n1, n2, n3, n4, n5, n6, n7⟩ := trees.box8 (bx_below HXN_6.out ((Below.refl z6.heap.size z6).alloc (Nat.le_refl _) (.cells #[.int .i64 rk, .string rp, .string rl, .string ru, .slice hW.da rds.length hW.dc, .slice hW.aa rats.length hW.ac, .slice hW.ka rks.length hW.kc, .string rx] 28)))
  go_wp2_with fail
  clear n0 n1 n2 n3 n4 n5 n6 n7
  obtain ⟨z7, hz⟩ : ∃ z, z6.alloc (.cells #[.int .i64 rk, .string rp, .string rl, .string ru, .slice hW.da rds.length hW.dc, .slice hW.aa rats.length hW.ac, .slice hW.ka rks.length hW.kc, .string rx] 28) = z := ⟨_, rfl⟩
  have hb : Below z6.heap.size z6 z7 := hz ▸ (Below.refl _ _).alloc (Nat.le_refl _) _
  have HBW_7 : Hid (z7.heap[z6.heap.size]? = _) := hz ▸ heap_alloc_new z6 (.cells #[.int .i64 rk, .string rp, .string rl, .string ru, .slice hW.da rds.length hW.dc, .slice hW.aa rats.length hW.ac, .slice hW.ka rks.length hW.kc, .string rx] 28)
  have HB7 : Hid (Below w.heap.size w z7) := HB6.out.trans (hb.mono HB6.out.size)
  have HL_7 : Hid (z6.heap.size + 1 ≤ z7.heap.size) := by show _ ≤ _; rw [← hz]; simp
  have HXN_7 : Hid _ := bx_below HXN_6.out hb
  have HW_7 : Hid _ := OwnV.below HW_6.out hb
  first | rw [hz] | skip
  clear hb hz HXN_6 HW_6
  refine Calls.mono (ton HZ.out (HN.out _ HB7.out)) ?_
  rintro e z8 ⟨⟨hX, rfl, ho⟩, hb⟩
  have HB8 : Hid (Below w.heap.size w z8) := HB7.out.trans (hb.mono HB7.out.size)
  have HL_8 : Hid (z7.heap.size ≤ z8.heap.size) := hb.size
  have HXN_8 : Hid _ := bx_below HXN_7.out hb
  have HW_8 : Hid _ := OwnV.below HW_7.out hb
  have HBW_8 : Hid _ := bx_below HBW_7.out hb
  have HX_8 : Hid _ := ho
  clear hb HXN_7 HW_7 HBW_7 ho
  go_wp2_with fail
  obtain ⟨z9, hz⟩ : ∃ z, z8.alloc (.cells #[.int .i64 k, .string p, .string l, .string u, .slice hX.da ds.length hX.dc, .slice hX.aa ats.length hX.ac, .slice hX.ka ks.length hX.kc, .string x] 28) = z := ⟨_, rfl⟩
  have hb : Below z8.heap.size z8 z9 := hz ▸ (Below.refl _ _).alloc (Nat.le_refl _) _
  have HBX_9 : Hid (z9.heap[z8.heap.size]? = _) := hz ▸ heap_alloc_new z8 (.cells #[.int .i64 k, .string p, .string l, .string u, .slice hX.da ds.length hX.dc, .slice hX.aa ats.length hX.ac, .slice hX.ka ks.length hX.kc, .string x] 28)
  have HB9 : Hid (Below w.heap.size w z9) := HB8.out.trans (hb.mono HB8.out.size)
  have HL_9 : Hid (z8.heap.size + 1 ≤ z9.heap.size) := by show _ ≤ _; rw [← hz]; simp
  have HXN_9 : Hid _ := bx_below HXN_8.out hb
  have HW_9 : Hid _ := OwnV.below HW_8.out hb
  have HBW_9 : Hid _ := bx_below HBW_8.out hb
  have HX_9 : Hid _ := OwnV.below HX_8.out hb
  first | rw [hz] | skip
  clear hb hz HXN_8 HW_8 HBW_8 HX_8
  refine Calls.mono (ints.to_own _ _ _ _ (HP.out _ HB9.out) HPL.out) ?_
  rintro e z10 ⟨⟨gY, rfl, ho⟩, hb⟩
  have HB10 : Hid (Below w.heap.size w z10) := HB9.out.trans (hb.mono HB9.out.size)
  have HL_10 : Hid (z9.heap.size ≤ z10.heap.size) := hb.size
  have HXN_10 : Hid _ := bx_below HXN_9.out hb
  have HW_10 : Hid _ := OwnV.below HW_9.out hb
  have HBW_10 : Hid _ := bx_below HBW_9.out hb
  have HX_10 : Hid _ := OwnV.below HX_9.out hb
  have HBX_10 : Hid _ := bx_below HBX_9.out hb
  have HY_10 : Hid _ := ho
  clear hb HXN_9 HW_9 HBW_9 HX_9 HBX_9 ho
  go_wp2_with fail
  refine Calls.mono (tol HZL.out (HLL.out _ HB10.out)) ?_
  rintro e z11 ⟨⟨lV, rfl, ho⟩, hb⟩
  have HB11 : Hid (Below w.heap.size w z11) := HB10.out.trans (hb.mono HB10.out.size)
  have HL_11 : Hid (z10.heap.size ≤ z11.heap.size) := hb.size
  have HXN_11 : Hid _ := bx_below HXN_10.out hb
  have HW_11 : Hid _ := OwnV.below HW_10.out hb
  have HBW_11 : Hid _ := bx_below HBW_10.out hb
  have HX_11 : Hid _ := OwnV.below HX_10.out hb
  have HBX_11 : Hid _ := bx_below HBX_10.out hb
  have HY_11 : Hid _ := ints.OwnI.below HY_10.out hb
  have HV_11 : Hid _ := ho
  clear hb HXN_10 HW_10 HBW_10 HX_10 HBX_10 HY_10 ho
  obtain ⟨n0, n1, n2, n3, n4, n5, n6, n7⟩ := trees.box8 HBX_11.out
  go_wp2_with fail
  clear n0 n1 n2 n3 n4 n5 n6 n7
  refine Calls.mono (at_impl HR.out HZA.out HX_11.out.in (ints.OwnI.at HY_11.out HPF.out) HV_11.out HI.out (Nat.le_refl _)) ?_
  rintro e z12 ⟨⟨hG, rfl, ho⟩, hb⟩
  have HB12 : Hid (Below w.heap.size w z12) := HB11.out.trans (hb.mono HB11.out.size)
  have HL_12 : Hid (z11.heap.size ≤ z12.heap.size) := hb.size
  have HXN_12 : Hid _ := bx_below HXN_11.out hb
  have HW_12 : Hid _ := OwnV.below HW_11.out hb
  have HBW_12 : Hid _ := bx_below HBW_11.out hb
  have HX_12 : Hid _ := OwnV.below HX_11.out hb
  have HBX_12 : Hid _ := bx_below HBX_11.out hb
  have HY_12 : Hid _ := ints.OwnI.below HY_11.out hb
  have HV_12 : Hid _ := trees.OwnL.below HV_11.out hb
  have HG_12 : Hid _ := ho
  clear hb HXN_11 HW_11 HBW_11 HX_11 HBX_11 HY_11 HV_11 ho
  obtain ⟨m0, m1, m2, m3, m4, m5, m6, m7⟩ := trees.box8 (bx_below HBW_12.out ((Below.refl z12.heap.size z12).alloc (Nat.le_refl _) (.cells #[.int .i64 rk, .string rp, .string rl, .string ru, .slice hG.da rds.length hG.dc, .slice hG.aa rats.length hG.ac, .slice hG.ka rks.length hG.kc, .string rx] 28)))
  obtain ⟨n0, n1, n2, n3, n4, n5, n6, n7⟩ := trees.box8 (heap_alloc_new z12 (.cells #[.int .i64 rk, .string rp, .string rl, .string ru, .slice hG.da rds.length hG.dc, .slice hG.aa rats.length hG.ac, .slice hG.ka rks.length hG.kc, .string rx] 28))
  go_wp2_with fail
  clear m0 m1 m2 m3 m4 m5 m6 m7 n0 n1 n2 n3 n4 n5 n6 n7
  obtain ⟨z13, hz⟩ : ∃ z, z12.alloc (.cells #[.int .i64 rk, .string rp, .string rl, .string ru, .slice hG.da rds.length hG.dc, .slice hG.aa rats.length hG.ac, .slice hG.ka rks.length hG.kc, .string rx] 28) = z := ⟨_, rfl⟩
  have hb : Below z12.heap.size z12 z13 := hz ▸ (Below.refl _ _).alloc (Nat.le_refl _) _
  have HBG_13 : Hid (z13.heap[z12.heap.size]? = _) := hz ▸ heap_alloc_new z12 (.cells #[.int .i64 rk, .string rp, .string rl, .string ru, .slice hG.da rds.length hG.dc, .slice hG.aa rats.length hG.ac, .slice hG.ka rks.length hG.kc, .string rx] 28)
  have HB13 : Hid (Below w.heap.size w z13) := HB12.out.trans (hb.mono HB12.out.size)
  have HL_13 : Hid (z12.heap.size + 1 ≤ z13.heap.size) := by show _ ≤ _; rw [← hz]; simp
  have HXN_13 : Hid _ := bx_below HXN_12.out hb
  have HW_13 : Hid _ := OwnV.below HW_12.out hb
  have HBW_13 : Hid _ := bx_below HBW_12.out hb
  have HX_13 : Hid _ := OwnV.below HX_12.out hb
  have HBX_13 : Hid _ := bx_below HBX_12.out hb
  have HY_13 : Hid _ := ints.OwnI.below HY_12.out hb
  have HV_13 : Hid _ := trees.OwnL.below HV_12.out hb
  have HG_13 : Hid _ := OwnV.below HG_12.out hb
  first | rw [hz] | skip
  clear hb hz HXN_12 HW_12 HBW_12 HX_12 HBX_12 HY_12 HV_12 HG_12
  refine Calls.mono (eqn HG_13.out.in HW_13.out.in) ?_
  rintro e z14 ⟨rfl, hb⟩
  have HB14 : Hid (Below w.heap.size w z14) := HB13.out.trans (hb.mono HB13.out.size)
  have HL_14 : Hid (z13.heap.size ≤ z14.heap.size) := hb.size
  have HXN_14 : Hid _ := bx_below HXN_13.out hb
  have HW_14 : Hid _ := OwnV.below HW_13.out hb
  have HBW_14 : Hid _ := bx_below HBW_13.out hb
  have HX_14 : Hid _ := OwnV.below HX_13.out hb
  have HBX_14 : Hid _ := bx_below HBX_13.out hb
  have HY_14 : Hid _ := ints.OwnI.below HY_13.out hb
  have HV_14 : Hid _ := trees.OwnL.below HV_13.out hb
  have HG_14 : Hid _ := OwnV.below HG_13.out hb
  have HBG_14 : Hid _ := bx_below HBG_13.out hb
  clear hb HXN_13 HW_13 HBW_13 HX_13 HBX_13 HY_13 HV_13 HG_13 HBG_13
  go_wp2_with fail
  have hl0 : ∀ W, Below z14.heap.size z14 W → W.heap[_]? = _ := fun W h => bx_below HBX_14.out h
  have hm0 := fun W h => trees.box8 (hl0 W h)
  have hl1 : ∀ W, Below z14.heap.size z14 W → W.heap[_]? = _ := fun W h => bx_below HXN_14.out h
  have hm1 := fun W h => trees.box8 (hl1 W h)
  apply quiets.wp_region_mask z14 (Below.refl _ _) [true, true] (hm := by kernel_rfl) (hB := by kernel_rfl) (hwalk := ?walk14) (htail := ?tail14)
  case walk14 =>
    intro C hC0 hC1
    simp only [quiets.onB, cond_true]
    repeat (go_big_quiet_step ((first | (intro hq; rfl) | (intro hq; simp [go_sem, (hm0 _ (hC0 _ hq)).1, (hm0 _ (hC0 _ hq)).2.1, (hm0 _ (hC0 _ hq)).2.2.1, (hm0 _ (hC0 _ hq)).2.2.2.1, (hm0 _ (hC0 _ hq)).2.2.2.2.1, (hm0 _ (hC0 _ hq)).2.2.2.2.2.1, (hm0 _ (hC0 _ hq)).2.2.2.2.2.2.1, (hm0 _ (hC0 _ hq)).2.2.2.2.2.2.2]; rfl) | (intro hq; simp [go_sem, (hm1 _ (hC0 _ hq)).1, (hm1 _ (hC0 _ hq)).2.1, (hm1 _ (hC0 _ hq)).2.2.1, (hm1 _ (hC0 _ hq)).2.2.2.1, (hm1 _ (hC0 _ hq)).2.2.2.2.1, (hm1 _ (hC0 _ hq)).2.2.2.2.2.1, (hm1 _ (hC0 _ hq)).2.2.2.2.2.2.1, (hm1 _ (hC0 _ hq)).2.2.2.2.2.2.2]; rfl))))
    exact wpQuiet_nil rfl
  clear hm0 hl0 hm1 hl1
  intro z15 hb
  have HB15 : Hid (Below w.heap.size w z15) := HB14.out.trans (hb.mono HB14.out.size)
  have HL_15 : Hid (z14.heap.size ≤ z15.heap.size) := hb.size
  have HXN_15 : Hid _ := bx_below HXN_14.out hb
  have HW_15 : Hid _ := OwnV.below HW_14.out hb
  have HBW_15 : Hid _ := bx_below HBW_14.out hb
  have HX_15 : Hid _ := OwnV.below HX_14.out hb
  have HBX_15 : Hid _ := bx_below HBX_14.out hb
  have HY_15 : Hid _ := ints.OwnI.below HY_14.out hb
  have HV_15 : Hid _ := trees.OwnL.below HV_14.out hb
  have HG_15 : Hid _ := OwnV.below HG_14.out hb
  have HBG_15 : Hid _ := bx_below HBG_14.out hb
  have HD15 : Hid (Below z14.heap.size z14 z15) := hb
  clear hb HXN_14 HW_14 HBW_14 HX_14 HBX_14 HY_14 HV_14 HG_14 HBG_14
  simp only [quiets.offB, cond_true]
  refine quiets.tail_cons fun z16 hb => ?_
  have HB16 : Hid (Below w.heap.size w z16) := HB15.out.trans (hb.mono HB15.out.size)
  have HL_16 : Hid (z15.heap.size ≤ z16.heap.size) := hb.size
  have HXN_16 : Hid _ := bx_below HXN_15.out hb
  have HW_16 : Hid _ := OwnV.below HW_15.out hb
  have HBW_16 : Hid _ := bx_below HBW_15.out hb
  have HX_16 : Hid _ := OwnV.below HX_15.out hb
  have HBX_16 : Hid _ := bx_below HBX_15.out hb
  have HY_16 : Hid _ := ints.OwnI.below HY_15.out hb
  have HV_16 : Hid _ := trees.OwnL.below HV_15.out hb
  have HG_16 : Hid _ := OwnV.below HG_15.out hb
  have HBG_16 : Hid _ := bx_below HBG_15.out hb
  have HD16 : Hid (Below z14.heap.size z14 z16) := HD15.out.trans (hb.mono HD15.out.size)
  clear hb HD15 HXN_15 HW_15 HBW_15 HX_15 HBX_15 HY_15 HV_15 HG_15 HBG_15
  go_wp2_with fail
  refine Calls.mono (ton HZ.out (HN.out _ HB16.out)) ?_
  rintro e z17 ⟨⟨hc, rfl, ho⟩, hb⟩
  have HB17 : Hid (Below w.heap.size w z17) := HB16.out.trans (hb.mono HB16.out.size)
  have HL_17 : Hid (z16.heap.size ≤ z17.heap.size) := hb.size
  have HXN_17 : Hid _ := bx_below HXN_16.out hb
  have HW_17 : Hid _ := OwnV.below HW_16.out hb
  have HBW_17 : Hid _ := bx_below HBW_16.out hb
  have HX_17 : Hid _ := OwnV.below HX_16.out hb
  have HBX_17 : Hid _ := bx_below HBX_16.out hb
  have HY_17 : Hid _ := ints.OwnI.below HY_16.out hb
  have HV_17 : Hid _ := trees.OwnL.below HV_16.out hb
  have HG_17 : Hid _ := OwnV.below HG_16.out hb
  have HBG_17 : Hid _ := bx_below HBG_16.out hb
  have HD17 : Hid (Below z14.heap.size z14 z17) := HD16.out.trans (hb.mono HD16.out.size)
  have HC_17 : Hid _ := ho
  clear hb HD16 HXN_16 HW_16 HBW_16 HX_16 HBX_16 HY_16 HV_16 HG_16 HBG_16 ho
  go_wp2_with fail
  refine ⟨HD17.out, ?_⟩
  refine quiets.tail_cons fun z18 hb => ?_
  have HB18 : Hid (Below w.heap.size w z18) := HB17.out.trans (hb.mono HB17.out.size)
  have HL_18 : Hid (z17.heap.size ≤ z18.heap.size) := hb.size
  have HXN_18 : Hid _ := bx_below HXN_17.out hb
  have HW_18 : Hid _ := OwnV.below HW_17.out hb
  have HBW_18 : Hid _ := bx_below HBW_17.out hb
  have HX_18 : Hid _ := OwnV.below HX_17.out hb
  have HBX_18 : Hid _ := bx_below HBX_17.out hb
  have HY_18 : Hid _ := ints.OwnI.below HY_17.out hb
  have HV_18 : Hid _ := trees.OwnL.below HV_17.out hb
  have HG_18 : Hid _ := OwnV.below HG_17.out hb
  have HBG_18 : Hid _ := bx_below HBG_17.out hb
  have HC_18 : Hid _ := OwnV.below HC_17.out hb
  have HD18 : Hid (Below z14.heap.size z14 z18) := HD17.out.trans (hb.mono HD17.out.size)
  clear hb HD17 HXN_17 HW_17 HBW_17 HX_17 HBX_17 HY_17 HV_17 HG_17 HBG_17 HC_17
  go_wp2_with fail
  refine Calls.mono (eqn HX_18.out.in HC_18.out.in) ?_
  rintro e z19 ⟨rfl, hb⟩
  have HB19 : Hid (Below w.heap.size w z19) := HB18.out.trans (hb.mono HB18.out.size)
  have HL_19 : Hid (z18.heap.size ≤ z19.heap.size) := hb.size
  have HXN_19 : Hid _ := bx_below HXN_18.out hb
  have HW_19 : Hid _ := OwnV.below HW_18.out hb
  have HBW_19 : Hid _ := bx_below HBW_18.out hb
  have HX_19 : Hid _ := OwnV.below HX_18.out hb
  have HBX_19 : Hid _ := bx_below HBX_18.out hb
  have HY_19 : Hid _ := ints.OwnI.below HY_18.out hb
  have HV_19 : Hid _ := trees.OwnL.below HV_18.out hb
  have HG_19 : Hid _ := OwnV.below HG_18.out hb
  have HBG_19 : Hid _ := bx_below HBG_18.out hb
  have HC_19 : Hid _ := OwnV.below HC_18.out hb
  have HD19 : Hid (Below z14.heap.size z14 z19) := HD18.out.trans (hb.mono HD18.out.size)
  clear hb HD18 HXN_18 HW_18 HBW_18 HX_18 HBX_18 HY_18 HV_18 HG_18 HBG_18 HC_18
  go_wp2_with fail
  refine ⟨HD19.out, ?_⟩
  refine quiets.tail_cons fun z20 hb => ?_
  have HB20 : Hid (Below w.heap.size w z20) := HB19.out.trans (hb.mono HB19.out.size)
  have HL_20 : Hid (z19.heap.size ≤ z20.heap.size) := hb.size
  have HXN_20 : Hid _ := bx_below HXN_19.out hb
  have HW_20 : Hid _ := OwnV.below HW_19.out hb
  have HBW_20 : Hid _ := bx_below HBW_19.out hb
  have HX_20 : Hid _ := OwnV.below HX_19.out hb
  have HBX_20 : Hid _ := bx_below HBX_19.out hb
  have HY_20 : Hid _ := ints.OwnI.below HY_19.out hb
  have HV_20 : Hid _ := trees.OwnL.below HV_19.out hb
  have HG_20 : Hid _ := OwnV.below HG_19.out hb
  have HBG_20 : Hid _ := bx_below HBG_19.out hb
  have HC_20 : Hid _ := OwnV.below HC_19.out hb
  have HD20 : Hid (Below z14.heap.size z14 z20) := HD19.out.trans (hb.mono HD19.out.size)
  clear hb HD19 HXN_19 HW_19 HBW_19 HX_19 HBX_19 HY_19 HV_19 HG_19 HBG_19 HC_19
  go_wp2_with fail
  refine ⟨HD20.out, ?_⟩
  refine quiets.tail_nil fun z21 hb => ?_
  have HB21 : Hid (Below w.heap.size w z21) := HB20.out.trans (hb.mono HB20.out.size)
  have HL_21 : Hid (z20.heap.size ≤ z21.heap.size) := hb.size
  have HXN_21 : Hid _ := bx_below HXN_20.out hb
  have HW_21 : Hid _ := OwnV.below HW_20.out hb
  have HBW_21 : Hid _ := bx_below HBW_20.out hb
  have HX_21 : Hid _ := OwnV.below HX_20.out hb
  have HBX_21 : Hid _ := bx_below HBX_20.out hb
  have HY_21 : Hid _ := ints.OwnI.below HY_20.out hb
  have HV_21 : Hid _ := trees.OwnL.below HV_20.out hb
  have HG_21 : Hid _ := OwnV.below HG_20.out hb
  have HBG_21 : Hid _ := bx_below HBG_20.out hb
  have HC_21 : Hid _ := OwnV.below HC_20.out hb
  clear hb HD20 HXN_20 HW_20 HBW_20 HX_20 HBX_20 HY_20 HV_20 HG_20 HBG_20 HC_20
  clear HC_21
  go_wp2_with fail
  refine Calls.mono (ints.to_own _ _ _ _ (HP.out _ HB21.out) HPL.out) ?_
  rintro e z22 ⟨⟨gD, rfl, ho⟩, hb⟩
  have HB22 : Hid (Below w.heap.size w z22) := HB21.out.trans (hb.mono HB21.out.size)
  have HL_22 : Hid (z21.heap.size ≤ z22.heap.size) := hb.size
  have HXN_22 : Hid _ := bx_below HXN_21.out hb
  have HW_22 : Hid _ := OwnV.below HW_21.out hb
  have HBW_22 : Hid _ := bx_below HBW_21.out hb
  have HX_22 : Hid _ := OwnV.below HX_21.out hb
  have HBX_22 : Hid _ := bx_below HBX_21.out hb
  have HY_22 : Hid _ := ints.OwnI.below HY_21.out hb
  have HV_22 : Hid _ := trees.OwnL.below HV_21.out hb
  have HG_22 : Hid _ := OwnV.below HG_21.out hb
  have HBG_22 : Hid _ := bx_below HBG_21.out hb
  have HD_22 : Hid _ := ho
  clear hb HXN_21 HW_21 HBW_21 HX_21 HBX_21 HY_21 HV_21 HG_21 HBG_21 ho
  go_wp2_with fail
  refine Calls.mono (ints.eq_own HPF.out HY_22.out HD_22.out) ?_
  rintro e z23 ⟨rfl, hb⟩
  have HB23 : Hid (Below w.heap.size w z23) := HB22.out.trans (hb.mono HB22.out.size)
  have HL_23 : Hid (z22.heap.size ≤ z23.heap.size) := hb.size
  have HXN_23 : Hid _ := bx_below HXN_22.out hb
  have HW_23 : Hid _ := OwnV.below HW_22.out hb
  have HBW_23 : Hid _ := bx_below HBW_22.out hb
  have HX_23 : Hid _ := OwnV.below HX_22.out hb
  have HBX_23 : Hid _ := bx_below HBX_22.out hb
  have HY_23 : Hid _ := ints.OwnI.below HY_22.out hb
  have HV_23 : Hid _ := trees.OwnL.below HV_22.out hb
  have HG_23 : Hid _ := OwnV.below HG_22.out hb
  have HBG_23 : Hid _ := bx_below HBG_22.out hb
  have HD_23 : Hid _ := ints.OwnI.below HD_22.out hb
  clear hb HXN_22 HW_22 HBW_22 HX_22 HBX_22 HY_22 HV_22 HG_22 HBG_22 HD_22
  clear HD_23
  go_wp2_with fail
  refine Calls.mono (tol HZL.out (HLL.out _ HB23.out)) ?_
  rintro e z24 ⟨⟨lD, rfl, ho⟩, hb⟩
  have HB24 : Hid (Below w.heap.size w z24) := HB23.out.trans (hb.mono HB23.out.size)
  have HL_24 : Hid (z23.heap.size ≤ z24.heap.size) := hb.size
  have HXN_24 : Hid _ := bx_below HXN_23.out hb
  have HW_24 : Hid _ := OwnV.below HW_23.out hb
  have HBW_24 : Hid _ := bx_below HBW_23.out hb
  have HX_24 : Hid _ := OwnV.below HX_23.out hb
  have HBX_24 : Hid _ := bx_below HBX_23.out hb
  have HY_24 : Hid _ := ints.OwnI.below HY_23.out hb
  have HV_24 : Hid _ := trees.OwnL.below HV_23.out hb
  have HG_24 : Hid _ := OwnV.below HG_23.out hb
  have HBG_24 : Hid _ := bx_below HBG_23.out hb
  have HD_24 : Hid _ := ho
  clear hb HXN_23 HW_23 HBW_23 HX_23 HBX_23 HY_23 HV_23 HG_23 HBG_23 ho
  go_wp2_with fail
  refine Calls.mono (eql HZL.out HV_24.out HD_24.out) ?_
  rintro e z25 ⟨rfl, hb⟩
  have HB25 : Hid (Below w.heap.size w z25) := HB24.out.trans (hb.mono HB24.out.size)
  have HL_25 : Hid (z24.heap.size ≤ z25.heap.size) := hb.size
  have HXN_25 : Hid _ := bx_below HXN_24.out hb
  have HW_25 : Hid _ := OwnV.below HW_24.out hb
  have HBW_25 : Hid _ := bx_below HBW_24.out hb
  have HX_25 : Hid _ := OwnV.below HX_24.out hb
  have HBX_25 : Hid _ := bx_below HBX_24.out hb
  have HY_25 : Hid _ := ints.OwnI.below HY_24.out hb
  have HV_25 : Hid _ := trees.OwnL.below HV_24.out hb
  have HG_25 : Hid _ := OwnV.below HG_24.out hb
  have HBG_25 : Hid _ := bx_below HBG_24.out hb
  have HD_25 : Hid _ := trees.OwnL.below HD_24.out hb
  clear hb HXN_24 HW_24 HBW_24 HX_24 HBX_24 HY_24 HV_24 HG_24 HBG_24 HD_24
  clear HD_25
  obtain ⟨n0, n1, n2, n3, n4, n5, n6, n7⟩ := trees.box8 HBX_25.out
  go_wp2_with fail
  clear n0 n1 n2 n3 n4 n5 n6 n7
  refine Calls.mono (marn HZ.out HKN.out HX_25.out) ?_
  rintro e z26 ⟨⟨rfl, -⟩, hout⟩
  have HB26 : Hid (Below w.heap.size w z26) := trees.Out.below hout HB25.out (fun b hb => Nat.le_trans HB7.out.size hb.1) HB25.out.size
  have HL_26 : Hid (z25.heap.size ≤ z26.heap.size) := hout.size
  have HXN_26 : Hid _ := (hout.block _ (pairs.lt_heap HXN_25.out) (fun hc => by have := hc.1; have := hc.2; have := HL_0.out; have := HL_1.out; have := HL_2.out; have := HL_3.out; have := HL_4.out; have := HL_5.out; have := HL_6.out; have := HL_7.out; have := HL_8.out; have := HL_9.out; have := HL_10.out; have := HL_11.out; have := HL_12.out; have := HL_13.out; have := HL_14.out; have := HL_15.out; have := HL_16.out; have := HL_17.out; have := HL_18.out; have := HL_19.out; have := HL_20.out; have := HL_21.out; have := HL_22.out; have := HL_23.out; have := HL_24.out; have := HL_25.out; omega)).trans HXN_25.out
  have HW_26 : Hid _ := OwnV.out HW_25.out hout (fun b hb hc => by have := hb.1; have := hb.2; have := hc.1; have := hc.2; have := HL_0.out; have := HL_1.out; have := HL_2.out; have := HL_3.out; have := HL_4.out; have := HL_5.out; have := HL_6.out; have := HL_7.out; have := HL_8.out; have := HL_9.out; have := HL_10.out; have := HL_11.out; have := HL_12.out; have := HL_13.out; have := HL_14.out; have := HL_15.out; have := HL_16.out; have := HL_17.out; have := HL_18.out; have := HL_19.out; have := HL_20.out; have := HL_21.out; have := HL_22.out; have := HL_23.out; have := HL_24.out; have := HL_25.out; omega)
  have HBW_26 : Hid _ := (hout.block _ (pairs.lt_heap HBW_25.out) (fun hc => by have := hc.1; have := hc.2; have := HL_0.out; have := HL_1.out; have := HL_2.out; have := HL_3.out; have := HL_4.out; have := HL_5.out; have := HL_6.out; have := HL_7.out; have := HL_8.out; have := HL_9.out; have := HL_10.out; have := HL_11.out; have := HL_12.out; have := HL_13.out; have := HL_14.out; have := HL_15.out; have := HL_16.out; have := HL_17.out; have := HL_18.out; have := HL_19.out; have := HL_20.out; have := HL_21.out; have := HL_22.out; have := HL_23.out; have := HL_24.out; have := HL_25.out; omega)).trans HBW_25.out
  have HBX_26 : Hid _ := (hout.block _ (pairs.lt_heap HBX_25.out) (fun hc => by have := hc.1; have := hc.2; have := HL_0.out; have := HL_1.out; have := HL_2.out; have := HL_3.out; have := HL_4.out; have := HL_5.out; have := HL_6.out; have := HL_7.out; have := HL_8.out; have := HL_9.out; have := HL_10.out; have := HL_11.out; have := HL_12.out; have := HL_13.out; have := HL_14.out; have := HL_15.out; have := HL_16.out; have := HL_17.out; have := HL_18.out; have := HL_19.out; have := HL_20.out; have := HL_21.out; have := HL_22.out; have := HL_23.out; have := HL_24.out; have := HL_25.out; omega)).trans HBX_25.out
  have HY_26 : Hid _ := ints.OwnI.out HY_25.out hout (fun b hb hc => by have := hb.1; have := hb.2; have := hc.1; have := hc.2; have := HL_0.out; have := HL_1.out; have := HL_2.out; have := HL_3.out; have := HL_4.out; have := HL_5.out; have := HL_6.out; have := HL_7.out; have := HL_8.out; have := HL_9.out; have := HL_10.out; have := HL_11.out; have := HL_12.out; have := HL_13.out; have := HL_14.out; have := HL_15.out; have := HL_16.out; have := HL_17.out; have := HL_18.out; have := HL_19.out; have := HL_20.out; have := HL_21.out; have := HL_22.out; have := HL_23.out; have := HL_24.out; have := HL_25.out; omega)
  have HV_26 : Hid _ := trees.OwnL.out HV_25.out hout (fun b hb hc => by have := hb.1; have := hb.2; have := hc.1; have := hc.2; have := HL_0.out; have := HL_1.out; have := HL_2.out; have := HL_3.out; have := HL_4.out; have := HL_5.out; have := HL_6.out; have := HL_7.out; have := HL_8.out; have := HL_9.out; have := HL_10.out; have := HL_11.out; have := HL_12.out; have := HL_13.out; have := HL_14.out; have := HL_15.out; have := HL_16.out; have := HL_17.out; have := HL_18.out; have := HL_19.out; have := HL_20.out; have := HL_21.out; have := HL_22.out; have := HL_23.out; have := HL_24.out; have := HL_25.out; omega)
  have HG_26 : Hid _ := OwnV.out HG_25.out hout (fun b hb hc => by have := hb.1; have := hb.2; have := hc.1; have := hc.2; have := HL_0.out; have := HL_1.out; have := HL_2.out; have := HL_3.out; have := HL_4.out; have := HL_5.out; have := HL_6.out; have := HL_7.out; have := HL_8.out; have := HL_9.out; have := HL_10.out; have := HL_11.out; have := HL_12.out; have := HL_13.out; have := HL_14.out; have := HL_15.out; have := HL_16.out; have := HL_17.out; have := HL_18.out; have := HL_19.out; have := HL_20.out; have := HL_21.out; have := HL_22.out; have := HL_23.out; have := HL_24.out; have := HL_25.out; omega)
  have HBG_26 : Hid _ := (hout.block _ (pairs.lt_heap HBG_25.out) (fun hc => by have := hc.1; have := hc.2; have := HL_0.out; have := HL_1.out; have := HL_2.out; have := HL_3.out; have := HL_4.out; have := HL_5.out; have := HL_6.out; have := HL_7.out; have := HL_8.out; have := HL_9.out; have := HL_10.out; have := HL_11.out; have := HL_12.out; have := HL_13.out; have := HL_14.out; have := HL_15.out; have := HL_16.out; have := HL_17.out; have := HL_18.out; have := HL_19.out; have := HL_20.out; have := HL_21.out; have := HL_22.out; have := HL_23.out; have := HL_24.out; have := HL_25.out; omega)).trans HBG_25.out
  clear hout HXN_25 HW_25 HBW_25 HX_25 HBX_25 HY_25 HV_25 HG_25 HBG_25
  clear HBX_26
  go_wp2_with fail
  refine Calls.mono (ints.mark_own (by have := HPL.out; omega) (by have := HKB.out; omega) HKP.out HY_26.out) ?_
  rintro e z27 ⟨rfl, hout⟩
  have HB27 : Hid (Below w.heap.size w z27) := trees.Out.below hout HB26.out (fun b hb => Nat.le_trans HB9.out.size hb.1) HB26.out.size
  have HL_27 : Hid (z26.heap.size ≤ z27.heap.size) := hout.size
  have HXN_27 : Hid _ := (hout.block _ (pairs.lt_heap HXN_26.out) (fun hc => by have := hc.1; have := hc.2; have := HL_0.out; have := HL_1.out; have := HL_2.out; have := HL_3.out; have := HL_4.out; have := HL_5.out; have := HL_6.out; have := HL_7.out; have := HL_8.out; have := HL_9.out; have := HL_10.out; have := HL_11.out; have := HL_12.out; have := HL_13.out; have := HL_14.out; have := HL_15.out; have := HL_16.out; have := HL_17.out; have := HL_18.out; have := HL_19.out; have := HL_20.out; have := HL_21.out; have := HL_22.out; have := HL_23.out; have := HL_24.out; have := HL_25.out; have := HL_26.out; omega)).trans HXN_26.out
  have HW_27 : Hid _ := OwnV.out HW_26.out hout (fun b hb hc => by have := hb.1; have := hb.2; have := hc.1; have := hc.2; have := HL_0.out; have := HL_1.out; have := HL_2.out; have := HL_3.out; have := HL_4.out; have := HL_5.out; have := HL_6.out; have := HL_7.out; have := HL_8.out; have := HL_9.out; have := HL_10.out; have := HL_11.out; have := HL_12.out; have := HL_13.out; have := HL_14.out; have := HL_15.out; have := HL_16.out; have := HL_17.out; have := HL_18.out; have := HL_19.out; have := HL_20.out; have := HL_21.out; have := HL_22.out; have := HL_23.out; have := HL_24.out; have := HL_25.out; have := HL_26.out; omega)
  have HBW_27 : Hid _ := (hout.block _ (pairs.lt_heap HBW_26.out) (fun hc => by have := hc.1; have := hc.2; have := HL_0.out; have := HL_1.out; have := HL_2.out; have := HL_3.out; have := HL_4.out; have := HL_5.out; have := HL_6.out; have := HL_7.out; have := HL_8.out; have := HL_9.out; have := HL_10.out; have := HL_11.out; have := HL_12.out; have := HL_13.out; have := HL_14.out; have := HL_15.out; have := HL_16.out; have := HL_17.out; have := HL_18.out; have := HL_19.out; have := HL_20.out; have := HL_21.out; have := HL_22.out; have := HL_23.out; have := HL_24.out; have := HL_25.out; have := HL_26.out; omega)).trans HBW_26.out
  have HV_27 : Hid _ := trees.OwnL.out HV_26.out hout (fun b hb hc => by have := hb.1; have := hb.2; have := hc.1; have := hc.2; have := HL_0.out; have := HL_1.out; have := HL_2.out; have := HL_3.out; have := HL_4.out; have := HL_5.out; have := HL_6.out; have := HL_7.out; have := HL_8.out; have := HL_9.out; have := HL_10.out; have := HL_11.out; have := HL_12.out; have := HL_13.out; have := HL_14.out; have := HL_15.out; have := HL_16.out; have := HL_17.out; have := HL_18.out; have := HL_19.out; have := HL_20.out; have := HL_21.out; have := HL_22.out; have := HL_23.out; have := HL_24.out; have := HL_25.out; have := HL_26.out; omega)
  have HG_27 : Hid _ := OwnV.out HG_26.out hout (fun b hb hc => by have := hb.1; have := hb.2; have := hc.1; have := hc.2; have := HL_0.out; have := HL_1.out; have := HL_2.out; have := HL_3.out; have := HL_4.out; have := HL_5.out; have := HL_6.out; have := HL_7.out; have := HL_8.out; have := HL_9.out; have := HL_10.out; have := HL_11.out; have := HL_12.out; have := HL_13.out; have := HL_14.out; have := HL_15.out; have := HL_16.out; have := HL_17.out; have := HL_18.out; have := HL_19.out; have := HL_20.out; have := HL_21.out; have := HL_22.out; have := HL_23.out; have := HL_24.out; have := HL_25.out; have := HL_26.out; omega)
  have HBG_27 : Hid _ := (hout.block _ (pairs.lt_heap HBG_26.out) (fun hc => by have := hc.1; have := hc.2; have := HL_0.out; have := HL_1.out; have := HL_2.out; have := HL_3.out; have := HL_4.out; have := HL_5.out; have := HL_6.out; have := HL_7.out; have := HL_8.out; have := HL_9.out; have := HL_10.out; have := HL_11.out; have := HL_12.out; have := HL_13.out; have := HL_14.out; have := HL_15.out; have := HL_16.out; have := HL_17.out; have := HL_18.out; have := HL_19.out; have := HL_20.out; have := HL_21.out; have := HL_22.out; have := HL_23.out; have := HL_24.out; have := HL_25.out; have := HL_26.out; omega)).trans HBG_26.out
  clear hout HXN_26 HW_26 HBW_26 HY_26 HV_26 HG_26 HBG_26
  go_wp2_with fail
  refine Calls.mono (marl HZL.out HKB2.out HKL.out HV_27.out) ?_
  rintro e z28 ⟨rfl, hout⟩
  have HB28 : Hid (Below w.heap.size w z28) := trees.Out.below hout HB27.out (fun b hb => Nat.le_trans HB10.out.size hb.1) HB27.out.size
  have HL_28 : Hid (z27.heap.size ≤ z28.heap.size) := hout.size
  have HXN_28 : Hid _ := (hout.block _ (pairs.lt_heap HXN_27.out) (fun hc => by have := hc.1; have := hc.2; have := HL_0.out; have := HL_1.out; have := HL_2.out; have := HL_3.out; have := HL_4.out; have := HL_5.out; have := HL_6.out; have := HL_7.out; have := HL_8.out; have := HL_9.out; have := HL_10.out; have := HL_11.out; have := HL_12.out; have := HL_13.out; have := HL_14.out; have := HL_15.out; have := HL_16.out; have := HL_17.out; have := HL_18.out; have := HL_19.out; have := HL_20.out; have := HL_21.out; have := HL_22.out; have := HL_23.out; have := HL_24.out; have := HL_25.out; have := HL_26.out; have := HL_27.out; omega)).trans HXN_27.out
  have HW_28 : Hid _ := OwnV.out HW_27.out hout (fun b hb hc => by have := hb.1; have := hb.2; have := hc.1; have := hc.2; have := HL_0.out; have := HL_1.out; have := HL_2.out; have := HL_3.out; have := HL_4.out; have := HL_5.out; have := HL_6.out; have := HL_7.out; have := HL_8.out; have := HL_9.out; have := HL_10.out; have := HL_11.out; have := HL_12.out; have := HL_13.out; have := HL_14.out; have := HL_15.out; have := HL_16.out; have := HL_17.out; have := HL_18.out; have := HL_19.out; have := HL_20.out; have := HL_21.out; have := HL_22.out; have := HL_23.out; have := HL_24.out; have := HL_25.out; have := HL_26.out; have := HL_27.out; omega)
  have HBW_28 : Hid _ := (hout.block _ (pairs.lt_heap HBW_27.out) (fun hc => by have := hc.1; have := hc.2; have := HL_0.out; have := HL_1.out; have := HL_2.out; have := HL_3.out; have := HL_4.out; have := HL_5.out; have := HL_6.out; have := HL_7.out; have := HL_8.out; have := HL_9.out; have := HL_10.out; have := HL_11.out; have := HL_12.out; have := HL_13.out; have := HL_14.out; have := HL_15.out; have := HL_16.out; have := HL_17.out; have := HL_18.out; have := HL_19.out; have := HL_20.out; have := HL_21.out; have := HL_22.out; have := HL_23.out; have := HL_24.out; have := HL_25.out; have := HL_26.out; have := HL_27.out; omega)).trans HBW_27.out
  have HG_28 : Hid _ := OwnV.out HG_27.out hout (fun b hb hc => by have := hb.1; have := hb.2; have := hc.1; have := hc.2; have := HL_0.out; have := HL_1.out; have := HL_2.out; have := HL_3.out; have := HL_4.out; have := HL_5.out; have := HL_6.out; have := HL_7.out; have := HL_8.out; have := HL_9.out; have := HL_10.out; have := HL_11.out; have := HL_12.out; have := HL_13.out; have := HL_14.out; have := HL_15.out; have := HL_16.out; have := HL_17.out; have := HL_18.out; have := HL_19.out; have := HL_20.out; have := HL_21.out; have := HL_22.out; have := HL_23.out; have := HL_24.out; have := HL_25.out; have := HL_26.out; have := HL_27.out; omega)
  have HBG_28 : Hid _ := (hout.block _ (pairs.lt_heap HBG_27.out) (fun hc => by have := hc.1; have := hc.2; have := HL_0.out; have := HL_1.out; have := HL_2.out; have := HL_3.out; have := HL_4.out; have := HL_5.out; have := HL_6.out; have := HL_7.out; have := HL_8.out; have := HL_9.out; have := HL_10.out; have := HL_11.out; have := HL_12.out; have := HL_13.out; have := HL_14.out; have := HL_15.out; have := HL_16.out; have := HL_17.out; have := HL_18.out; have := HL_19.out; have := HL_20.out; have := HL_21.out; have := HL_22.out; have := HL_23.out; have := HL_24.out; have := HL_25.out; have := HL_26.out; have := HL_27.out; omega)).trans HBG_27.out
  clear hout HXN_27 HW_27 HBW_27 HV_27 HG_27 HBG_27
  obtain ⟨n0, n1, n2, n3, n4, n5, n6, n7⟩ := trees.box8 HBG_28.out
  obtain ⟨m0, m1, m2, m3, m4, m5, m6, m7⟩ := trees.box8 HBW_28.out
  go_wp2_with fail
  clear n0 n1 n2 n3 n4 n5 n6 n7 m0 m1 m2 m3 m4 m5 m6 m7
  refine Calls.mono (eqn HG_28.out.in HW_28.out.in) ?_
  rintro e z29 ⟨rfl, hb⟩
  have HB29 : Hid (Below w.heap.size w z29) := HB28.out.trans (hb.mono HB28.out.size)
  have HL_29 : Hid (z28.heap.size ≤ z29.heap.size) := hb.size
  have HXN_29 : Hid _ := bx_below HXN_28.out hb
  have HW_29 : Hid _ := OwnV.below HW_28.out hb
  have HBW_29 : Hid _ := bx_below HBW_28.out hb
  have HG_29 : Hid _ := OwnV.below HG_28.out hb
  have HBG_29 : Hid _ := bx_below HBG_28.out hb
  clear hb HXN_28 HW_28 HBW_28 HG_28 HBG_28
  obtain ⟨n0, n1, n2, n3, n4, n5, n6, n7⟩ := trees.box8 HBG_29.out
  go_wp2_with fail
  clear n0 n1 n2 n3 n4 n5 n6 n7
  refine Calls.mono (marn HZR.out HKG.out HG_29.out) ?_
  rintro e z30 ⟨⟨rfl, ho⟩, hout⟩
  have HB30 : Hid (Below w.heap.size w z30) := trees.Out.below hout HB29.out (fun b hb => Nat.le_trans HB11.out.size hb.1) HB29.out.size
  have HL_30 : Hid (z29.heap.size ≤ z30.heap.size) := hout.size
  have HXN_30 : Hid _ := (hout.block _ (pairs.lt_heap HXN_29.out) (fun hc => by have := hc.1; have := hc.2; have := HL_0.out; have := HL_1.out; have := HL_2.out; have := HL_3.out; have := HL_4.out; have := HL_5.out; have := HL_6.out; have := HL_7.out; have := HL_8.out; have := HL_9.out; have := HL_10.out; have := HL_11.out; have := HL_12.out; have := HL_13.out; have := HL_14.out; have := HL_15.out; have := HL_16.out; have := HL_17.out; have := HL_18.out; have := HL_19.out; have := HL_20.out; have := HL_21.out; have := HL_22.out; have := HL_23.out; have := HL_24.out; have := HL_25.out; have := HL_26.out; have := HL_27.out; have := HL_28.out; have := HL_29.out; omega)).trans HXN_29.out
  have HW_30 : Hid _ := OwnV.out HW_29.out hout (fun b hb hc => by have := hb.1; have := hb.2; have := hc.1; have := hc.2; have := HL_0.out; have := HL_1.out; have := HL_2.out; have := HL_3.out; have := HL_4.out; have := HL_5.out; have := HL_6.out; have := HL_7.out; have := HL_8.out; have := HL_9.out; have := HL_10.out; have := HL_11.out; have := HL_12.out; have := HL_13.out; have := HL_14.out; have := HL_15.out; have := HL_16.out; have := HL_17.out; have := HL_18.out; have := HL_19.out; have := HL_20.out; have := HL_21.out; have := HL_22.out; have := HL_23.out; have := HL_24.out; have := HL_25.out; have := HL_26.out; have := HL_27.out; have := HL_28.out; have := HL_29.out; omega)
  have HBW_30 : Hid _ := (hout.block _ (pairs.lt_heap HBW_29.out) (fun hc => by have := hc.1; have := hc.2; have := HL_0.out; have := HL_1.out; have := HL_2.out; have := HL_3.out; have := HL_4.out; have := HL_5.out; have := HL_6.out; have := HL_7.out; have := HL_8.out; have := HL_9.out; have := HL_10.out; have := HL_11.out; have := HL_12.out; have := HL_13.out; have := HL_14.out; have := HL_15.out; have := HL_16.out; have := HL_17.out; have := HL_18.out; have := HL_19.out; have := HL_20.out; have := HL_21.out; have := HL_22.out; have := HL_23.out; have := HL_24.out; have := HL_25.out; have := HL_26.out; have := HL_27.out; have := HL_28.out; have := HL_29.out; omega)).trans HBW_29.out
  have HBG_30 : Hid _ := (hout.block _ (pairs.lt_heap HBG_29.out) (fun hc => by have := hc.1; have := hc.2; have := HL_0.out; have := HL_1.out; have := HL_2.out; have := HL_3.out; have := HL_4.out; have := HL_5.out; have := HL_6.out; have := HL_7.out; have := HL_8.out; have := HL_9.out; have := HL_10.out; have := HL_11.out; have := HL_12.out; have := HL_13.out; have := HL_14.out; have := HL_15.out; have := HL_16.out; have := HL_17.out; have := HL_18.out; have := HL_19.out; have := HL_20.out; have := HL_21.out; have := HL_22.out; have := HL_23.out; have := HL_24.out; have := HL_25.out; have := HL_26.out; have := HL_27.out; have := HL_28.out; have := HL_29.out; omega)).trans HBG_29.out
  have HG_30 : Hid _ := ho
  clear hout HXN_29 HW_29 HBW_29 HG_29 HBG_29 ho
  obtain ⟨n0, n1, n2, n3, n4, n5, n6, n7⟩ := trees.box8 HBG_30.out
  go_wp2_with fail
  clear n0 n1 n2 n3 n4 n5 n6 n7
  refine Calls.mono (heln HZR.out HKG.out HG_30.out) ?_
  rintro e z31 ⟨rfl, hb⟩
  have HB31 : Hid (Below w.heap.size w z31) := HB30.out.trans (hb.mono HB30.out.size)
  have HL_31 : Hid (z30.heap.size ≤ z31.heap.size) := hb.size
  have HXN_31 : Hid _ := bx_below HXN_30.out hb
  have HW_31 : Hid _ := OwnV.below HW_30.out hb
  have HBW_31 : Hid _ := bx_below HBW_30.out hb
  have HG_31 : Hid _ := OwnV.below HG_30.out hb
  have HBG_31 : Hid _ := bx_below HBG_30.out hb
  clear hb HXN_30 HW_30 HBW_30 HG_30 HBG_30
  obtain ⟨n0, n1, n2, n3, n4, n5, n6, n7⟩ := trees.box8 HXN_31.out
  go_wp2_with fail
  refine Calls.mono (ton HZ.out (HN.out _ HB31.out)) ?_
  rintro e z32 ⟨⟨hD, rfl, ho⟩, hb⟩
  have HB32 : Hid (Below w.heap.size w z32) := HB31.out.trans (hb.mono HB31.out.size)
  have HL_32 : Hid (z31.heap.size ≤ z32.heap.size) := hb.size
  have HXN_32 : Hid _ := bx_below HXN_31.out hb
  have HW_32 : Hid _ := OwnV.below HW_31.out hb
  have HBW_32 : Hid _ := bx_below HBW_31.out hb
  have HG_32 : Hid _ := OwnV.below HG_31.out hb
  have HBG_32 : Hid _ := bx_below HBG_31.out hb
  have HDN_32 : Hid _ := ho
  clear hb HXN_31 HW_31 HBW_31 HG_31 HBG_31 ho n0 n1 n2 n3 n4 n5 n6 n7
  go_wp2_with fail
  refine Calls.mono (ints.to_own _ _ _ _ (HP.out _ HB32.out) HPL.out) ?_
  rintro e z33 ⟨⟨gD, rfl, ho⟩, hb⟩
  have HB33 : Hid (Below w.heap.size w z33) := HB32.out.trans (hb.mono HB32.out.size)
  have HL_33 : Hid (z32.heap.size ≤ z33.heap.size) := hb.size
  have HXN_33 : Hid _ := bx_below HXN_32.out hb
  have HW_33 : Hid _ := OwnV.below HW_32.out hb
  have HBW_33 : Hid _ := bx_below HBW_32.out hb
  have HG_33 : Hid _ := OwnV.below HG_32.out hb
  have HBG_33 : Hid _ := bx_below HBG_32.out hb
  have HDN_33 : Hid _ := OwnV.below HDN_32.out hb
  have HDP_33 : Hid _ := ho
  clear hb HXN_32 HW_32 HBW_32 HG_32 HBG_32 HDN_32 ho
  go_wp2_with fail
  refine Calls.mono (tol HZL.out (HLL.out _ HB33.out)) ?_
  rintro e z34 ⟨⟨lD, rfl, ho⟩, hb⟩
  have HB34 : Hid (Below w.heap.size w z34) := HB33.out.trans (hb.mono HB33.out.size)
  have HL_34 : Hid (z33.heap.size ≤ z34.heap.size) := hb.size
  have HXN_34 : Hid _ := bx_below HXN_33.out hb
  have HW_34 : Hid _ := OwnV.below HW_33.out hb
  have HBW_34 : Hid _ := bx_below HBW_33.out hb
  have HG_34 : Hid _ := OwnV.below HG_33.out hb
  have HBG_34 : Hid _ := bx_below HBG_33.out hb
  have HDN_34 : Hid _ := OwnV.below HDN_33.out hb
  have HDP_34 : Hid _ := ints.OwnI.below HDP_33.out hb
  have HDL_34 : Hid _ := ho
  clear hb HXN_33 HW_33 HBW_33 HG_33 HBG_33 HDN_33 HDP_33 ho
  go_wp2_with fail
  refine Calls.mono (at_impl HR.out HZA.out HDN_34.out.in (ints.OwnI.at HDP_34.out HPF.out) HDL_34.out HI.out (Nat.le_refl _)) ?_
  rintro e z35 ⟨⟨hK, rfl, ho⟩, hb⟩
  have HB35 : Hid (Below w.heap.size w z35) := HB34.out.trans (hb.mono HB34.out.size)
  have HL_35 : Hid (z34.heap.size ≤ z35.heap.size) := hb.size
  have HXN_35 : Hid _ := bx_below HXN_34.out hb
  have HW_35 : Hid _ := OwnV.below HW_34.out hb
  have HBW_35 : Hid _ := bx_below HBW_34.out hb
  have HG_35 : Hid _ := OwnV.below HG_34.out hb
  have HBG_35 : Hid _ := bx_below HBG_34.out hb
  have HDN_35 : Hid _ := OwnV.below HDN_34.out hb
  have HDP_35 : Hid _ := ints.OwnI.below HDP_34.out hb
  have HDL_35 : Hid _ := trees.OwnL.below HDL_34.out hb
  have HK_35 : Hid _ := ho
  clear hb HXN_34 HW_34 HBW_34 HG_34 HBG_34 HDN_34 HDP_34 HDL_34 ho
  clear HDN_35
  clear HDP_35
  clear HDL_35
  obtain ⟨m0, m1, m2, m3, m4, m5, m6, m7⟩ := trees.box8 (bx_below HBW_35.out ((Below.refl z35.heap.size z35).alloc (Nat.le_refl _) (.cells #[.int .i64 rk, .string rp, .string rl, .string ru, .slice hK.da rds.length hK.dc, .slice hK.aa rats.length hK.ac, .slice hK.ka rks.length hK.kc, .string rx] 28)))
  obtain ⟨n0, n1, n2, n3, n4, n5, n6, n7⟩ := trees.box8 (heap_alloc_new z35 (.cells #[.int .i64 rk, .string rp, .string rl, .string ru, .slice hK.da rds.length hK.dc, .slice hK.aa rats.length hK.ac, .slice hK.ka rks.length hK.kc, .string rx] 28))
  go_wp2_with fail
  clear m0 m1 m2 m3 m4 m5 m6 m7 n0 n1 n2 n3 n4 n5 n6 n7
  obtain ⟨z36, hz⟩ : ∃ z, z35.alloc (.cells #[.int .i64 rk, .string rp, .string rl, .string ru, .slice hK.da rds.length hK.dc, .slice hK.aa rats.length hK.ac, .slice hK.ka rks.length hK.kc, .string rx] 28) = z := ⟨_, rfl⟩
  have hb : Below z35.heap.size z35 z36 := hz ▸ (Below.refl _ _).alloc (Nat.le_refl _) _
  have HBK_36 : Hid (z36.heap[z35.heap.size]? = _) := hz ▸ heap_alloc_new z35 (.cells #[.int .i64 rk, .string rp, .string rl, .string ru, .slice hK.da rds.length hK.dc, .slice hK.aa rats.length hK.ac, .slice hK.ka rks.length hK.kc, .string rx] 28)
  have HB36 : Hid (Below w.heap.size w z36) := HB35.out.trans (hb.mono HB35.out.size)
  have HL_36 : Hid (z35.heap.size + 1 ≤ z36.heap.size) := by show _ ≤ _; rw [← hz]; simp
  have HXN_36 : Hid _ := bx_below HXN_35.out hb
  have HW_36 : Hid _ := OwnV.below HW_35.out hb
  have HBW_36 : Hid _ := bx_below HBW_35.out hb
  have HG_36 : Hid _ := OwnV.below HG_35.out hb
  have HBG_36 : Hid _ := bx_below HBG_35.out hb
  have HK_36 : Hid _ := OwnV.below HK_35.out hb
  first | rw [hz] | skip
  clear hb hz HXN_35 HW_35 HBW_35 HG_35 HBG_35 HK_35
  refine Calls.mono (eqn HK_36.out.in HW_36.out.in) ?_
  rintro e z37 ⟨rfl, hb⟩
  have HB37 : Hid (Below w.heap.size w z37) := HB36.out.trans (hb.mono HB36.out.size)
  have HL_37 : Hid (z36.heap.size ≤ z37.heap.size) := hb.size
  have HXN_37 : Hid _ := bx_below HXN_36.out hb
  have HW_37 : Hid _ := OwnV.below HW_36.out hb
  have HBW_37 : Hid _ := bx_below HBW_36.out hb
  have HG_37 : Hid _ := OwnV.below HG_36.out hb
  have HBG_37 : Hid _ := bx_below HBG_36.out hb
  have HK_37 : Hid _ := OwnV.below HK_36.out hb
  have HBK_37 : Hid _ := bx_below HBK_36.out hb
  clear hb HXN_36 HW_36 HBW_36 HG_36 HBG_36 HK_36 HBK_36
  obtain ⟨n0, n1, n2, n3, n4, n5, n6, n7⟩ := trees.box8 HBG_37.out
  go_wp2_with fail
  clear n0 n1 n2 n3 n4 n5 n6 n7
  refine Calls.mono (heln HZR.out HKG.out HG_37.out) ?_
  rintro e z38 ⟨rfl, hb⟩
  have HB38 : Hid (Below w.heap.size w z38) := HB37.out.trans (hb.mono HB37.out.size)
  have HL_38 : Hid (z37.heap.size ≤ z38.heap.size) := hb.size
  have HXN_38 : Hid _ := bx_below HXN_37.out hb
  have HW_38 : Hid _ := OwnV.below HW_37.out hb
  have HBW_38 : Hid _ := bx_below HBW_37.out hb
  have HG_38 : Hid _ := OwnV.below HG_37.out hb
  have HBG_38 : Hid _ := bx_below HBG_37.out hb
  have HK_38 : Hid _ := OwnV.below HK_37.out hb
  have HBK_38 : Hid _ := bx_below HBK_37.out hb
  clear hb HXN_37 HW_37 HBW_37 HG_37 HBG_37 HK_37 HBK_37
  go_wp2
  go_ret
  exact ⟨rfl, HB38.out⟩

/-! ### The row -/
set_option maxRecDepth 100000 in
theorem lifted (os : Os) (started : os.Started) (H : Type) (enc : TypeId × Value → H) :
    ReturnsInHanded {} Try.checked os 7 .any (Rows.fnExactInsertAtSpec.pre6 enc Try.prog Try.f7 Rows.fnExactInsertAtRow.domain false) (Rows.fnExactInsertAtSpec.post enc Try.prog Try.f7 false true false false) := by
  refine returnsInHanded_of_change (C := Try.checked) own started (by kernel_rfl) Try.func7
    (ChangeSpec.witness6 (enc := enc) (C := Try.checked) false ⟨#[], #[.agg #[.int .i64 0, .string ByteArray.empty, .string ByteArray.empty, .string ByteArray.empty, .slice none 0 0, .slice none 0 0, .slice none 0 0, .string ByteArray.empty], .slice none 0 0, .int .i64 0, .slice none 0 0], []⟩ 8 (by kernel_rfl) (by kernel_rfl) (by kernel_rfl) (by kernel_rfl)) ?_
  intro W base args ds gs before hval0 hW hcnd _
  have hval : ∀ (j : Nat) t v, Try.f7.params[j]? = some t → args[j]? = some v → Value.okWide Try.prog W .any base t v := hval0
  have hW' := hW
  obtain ⟨p, q, hA0, hV, rfl, hfz, hnd⟩ := hW
  have hA : DataW.TrodAll enc Try.prog W 0 (fun _ => true) true Try.f7.params.toList args.toList ds p := hA0
  rw [Try.params7] at hA hval
  obtain ⟨v0, vs0, d0, ds0, p0, q0, hargs, rfl, rfl, h0, r0⟩ := trodAll_cons hA
  obtain ⟨v1, vs1, d1, ds1, p1, q1, rfl, rfl, rfl, h1, r1⟩ := trodAll_cons r0
  obtain ⟨v2, vs2, d2, ds2, p2, q2, rfl, rfl, rfl, h2, r2⟩ := trodAll_cons r1
  obtain ⟨v3, vs3, d3, ds3, p3, q3, rfl, rfl, rfl, h3, r3⟩ := trodAll_cons r2
  obtain ⟨rfl, rfl, rfl⟩ := trodAll_nil r3
  obtain rfl : args = #[v0, v1, v2, v3] := by cases args; simp_all
  obtain ⟨rfl, rfl⟩ := trodVars_none hV
  have k0 := h0
  have lt0 : ∀ x ∈ p0, x.block < W.heap.size := by obtain ⟨m, hm⟩ := k0; exact DataW.trod_lt m _ _ _ hm
  obtain ⟨t0, hd0, rfl, w0⟩ := trees.open_val_node (hval 0 52 v0 rfl rfl) h0
  obtain ⟨a1, len1, cap1, rfl⟩ := okWide_slice Try.underlying32 (hval 1 32 v1 rfl rfl)
  have k1 := h1
  have lt1 : ∀ x ∈ p1, x.block < W.heap.size := by obtain ⟨m, hm⟩ := k1; exact DataW.trod_lt m _ _ _ hm
  obtain ⟨L1, hl1, w1⟩ : ∃ L : List Int, len1 = L.length ∧ ints.IntsAt W a1 L := by
    obtain ⟨fuel, hf⟩ := h1
    obtain ⟨a', c', L, hcs, hp⟩ := ints.open_intS Try.underlying32 Try.underlying3 (by kernel_rfl) hf
    simp [Value.cells] at hcs
    obtain ⟨rfl, rfl, rfl⟩ := hcs
    exact ⟨L, rfl, hp⟩
  subst hl1
  obtain ⟨a2, rfl, rfl, rfl, w2⟩ := open_int Try.underlying3 (hval 2 3 v2 rfl rfl) h2
  obtain ⟨a3, len3, cap3, rfl⟩ := okWide_slice Try.underlying50 (hval 3 50 v3 rfl rfl)
  have k3 := h3
  have lt3 : ∀ x ∈ p3, x.block < W.heap.size := by obtain ⟨m, hm⟩ := k3; exact DataW.trod_lt m _ _ _ hm
  obtain ⟨L3, hl3, w3⟩ : ∃ L : List trees.Tree, len3 = L.length ∧ trees.NodesAt W 0 a3 L := by
    obtain ⟨fuel, hf⟩ := h3
    obtain ⟨a', c', L, hcs, hp⟩ := trees.open_nodes hf
    simp [Value.cells] at hcs
    obtain ⟨rfl, rfl, rfl⟩ := hcs
    exact ⟨L, rfl, hp⟩
  subst hl3
  clear hA0 hval0
  simp only [List.append_nil] at hW'
  refine (walk t0 hd0 a1 cap1 L1 a2 a3 cap3 L3 W w0 w1 w2 w3).mono fun e W' ⟨he, bel⟩ => ?_
  subst he
  exact ⟨_, rfl, _, _, _, [], _, [], hW', (trodAll_cons_mk (shut_bool Try.underlying4 _) trodAll_mk0), (trodAll_cons_mk (Below.trod laidOut (by kernel_rfl) (of_decide_eq_true (by kernel_rfl)) k0 bel lt0) (trodAll_cons_mk (Below.trod laidOut (by kernel_rfl) (of_decide_eq_true (by kernel_rfl)) k1 bel lt1) (trodAll_cons_mk (shut_int Try.underlying3 w2) (trodAll_cons_mk (Below.trod laidOut (by kernel_rfl) (of_decide_eq_true (by kernel_rfl)) k3 bel lt3) trodAll_mk0)))), rfl, bel.frame _, fun h => by cases h⟩

/-- The statement. -/
theorem proved : Rows.FnExactInsertAtSaid :=
  OpenClaim.holds_of_wide 7 Try.f7 rfl rfl rfl rfl rfl rfl rfl ⟨rfl, rfl, rfl, rfl, rfl⟩ rfl rfl rfl rfl rfl (by kernel_rfl) Try.func7 (by kernel_rfl)
    (of_decide_eq_true (by kernel_rfl)) (by unfold Func.isWrapper; first | (rw [if_pos (by decide +kernel)]; kernel_rfl) | (rw [if_neg (by decide +kernel)]; exact ⟨rfl, rfl⟩))
    (fun os started H enc _ => lifted os started H enc)
#print axioms proved
end Go.Proofs.Ytpejcblmglbjfaa.fnExactInsertAt
