/-
  What held says of a node that is handed over by value.
-/
import Derived.Test.YtpejcblmglbjfaaNodeMarkV
import Derived.Test.YtpejcblmglbjfaaCopyP
namespace Go.Proofs.Ytpejcblmglbjfaa.trees
open Go.ChangeShapes Go.WideShapes Go.ChangeAt Go.RowKit
open pairs (Pair at0 PairsAt marksL marks_len)
set_option linter.unusedVariables false
theorem vals_mkN (t : Tree) (k : Nat) (h : Hdr) : vals (mkN t k) h = vals t h := by
  unfold vals mkN
  simp only [Tree.kind, Tree.pre, Tree.loc, Tree.uri, Tree.text, Tree.ds, Tree.ats, Tree.kids, marks_len, marksA_len, mkTs_len]
set_option maxRecDepth 100000 in
set_option maxHeartbeats 4000000 in
theorem held_nd (t : Tree) (h : Hdr) (k q : Nat) (F : Bset) (w : World) (hz : nsz t ≤ 1048576) (hk : k ≤ 30000000) (hq : k + cntN t = q) (hn : OwnN w (mkN t k) h F) : Calls Try.prog 37 #[.agg (vals t h), .int .i64 k] w fun e w' => e = .returned (.int .i64 (q : Int)) ∧ Below w.heap.size w w' := by
  obtain ⟨z1, z2, z3, z4⟩ := nsz_lens t
  have hcl := cntN_le t hz
  obtain ⟨FD, FA, FK, h1, h2, h3, s1, s2, s3, a1, a2, a3, o1, o2, o3⟩ := hn.parts
  unfold cntN at hq
  have HQ : Hid ((k + 2 * t.ds.length + 4 * t.ats.length + cntMs t.kids = q ∧ k ≤ 30000000) ∧ t.ds.length ≤ 1048576 ∧ t.ats.length ≤ 1048576 ∧ nszs t.kids ≤ 1048576) := ⟨⟨by omega, hk⟩, by omega, by omega, by omega⟩
  have HB : Hid (∀ o, Below w.heap.size w (w.alloc o)) := fun o => (Below.refl _ _).alloc (Nat.le_refl _) o
  have H1 : Hid (∀ W, OwnP W h.da (marksL k t.ds.length) FD → _) := fun W ho => held_ownP W h.da t.ds.length h.dc k k FD rfl (by have := HQ.out; omega) (by have := HQ.out; omega) ho
  have H2 : Hid (∀ W, OwnA W h.aa (marksA (k + 2 * t.ds.length) t.ats.length) FA → _) := fun W ho => held_ownA W h.aa t.ats.length h.ac (k + 2 * t.ds.length) FA (by have := HQ.out; omega) (by have := HQ.out; omega) ho
  have H3 : Hid (∀ W, OwnL W h.ka (mkTs t.kids (k + 2 * t.ds.length + 4 * t.ats.length)) FK → _) := fun W ho => held_nodes _ t.kids h.ka h.kc (k + 2 * t.ds.length + 4 * t.ats.length) FK W (Nat.lt_succ_self _) HQ.out.2.2.2 (by have e1 := HQ.out; have e2 := cntMs_le t.kids; omega) ho
  have HO1 : Hid (∀ W, Below w.heap.size w W → OwnP W h.da (marksL k t.ds.length) FD) := fun W hb => OwnP.out (G := fun _ => False) o1 (Out.of_below hb) (fun _ _ h => h)
  have HO2 : Hid (∀ W, Below w.heap.size w W → OwnA W h.aa (marksA (k + 2 * t.ds.length) t.ats.length) FA) := fun W hb => OwnA.out (G := fun _ => False) o2 (Out.of_below hb) (fun _ _ h => h)
  have HO3 : Hid (∀ W, Below w.heap.size w W → OwnL W h.ka (mkTs t.kids (k + 2 * t.ds.length + 4 * t.ats.length)) FK) := fun W hb => o3.below hb
  clear hn o1 o2 o3 s1 s2 s3 a1 a2 a3 h1 h2 h3 z1 z2 z3 z4 hcl hz hk hq
  obtain ⟨kd, pr, lo, ur, tx, ds, ats, ks⟩ := t
  obtain ⟨da, dc, aa, ac, ka, kc⟩ := h
  unfold HeldOk at H3
  unfold vals
  simp only [Tree.kind, Tree.pre, Tree.loc, Tree.uri, Tree.text, Tree.ds, Tree.ats, Tree.kids] at *
  obtain ⟨k1, hk1⟩ : ∃ k1, k + 2 * ds.length = k1 := ⟨_, rfl⟩
  obtain ⟨k2, hk2⟩ : ∃ k2, k1 + 4 * ats.length = k2 := ⟨_, rfl⟩
  rw [hk1] at H1 H2 H3 HO2 HO3 HQ
  rw [hk2] at H2 H3 HO3 HQ
  obtain ⟨k3, hk3⟩ : ∃ k3, k2 + cntMs ks = k3 := ⟨_, rfl⟩
  rw [hk3] at H3 HQ
  clear hk1 hk2 hk3
  have HE : Hid (k3 = q) := HQ.out.1.1
  have hd1 : decide ((k1 : Int) < 0) = false := decide_eq_false (by omega)
  have hd2 : decide ((k2 : Int) < 0) = false := decide_eq_false (by omega)
  have hd3 : decide ((k3 : Int) < 0) = false := decide_eq_false (by omega)
  clear HQ
  go_enter Try.func37, Try.ntmps37
  go_wp2_with fail
  refine Calls.mono (H1.out _ (HO1.out _ (HB.out _))) ?_
  rintro e w1 ⟨rfl, hb⟩
  have hu := box_under hb
  have HB1 : Hid (Below w.heap.size w w1) := hu
  have HX1 : Hid (w1.heap[w.heap.size]? = _) := box_kept hb
  clear hb hu
  obtain ⟨c0, c1, c2, c3, c4, c5, c6, c7⟩ := box8 HX1.out
  go_wp2_with fail
  refine Calls.mono (H2.out _ (HO2.out _ HB1.out)) ?_
  rintro e w2 ⟨rfl, hb⟩
  have HB2 : Hid (Below w.heap.size w w2) := HB1.out.trans (hb.mono HB1.out.size)
  have HX2 : Hid (w2.heap[w.heap.size]? = _) := (hb.block _ (pairs.lt_heap HX1.out)).trans HX1.out
  clear hb c0 c1 c2 c3 c4 c5 c6 c7
  obtain ⟨c0, c1, c2, c3, c4, c5, c6, c7⟩ := box8 HX2.out
  go_wp2_with fail
  refine Calls.mono (H3.out _ (HO3.out _ HB2.out)) ?_
  rintro e w3 ⟨rfl, hb⟩
  have HB3 : Hid (Below w.heap.size w w3) := HB2.out.trans (hb.mono HB2.out.size)
  clear hb c0 c1 c2 c3 c4 c5 c6 c7
  go_wp2
  go_ret
  have he := HE.out
  subst he
  exact ⟨rfl, HB3.out⟩
end Go.Proofs.Ytpejcblmglbjfaa.trees
