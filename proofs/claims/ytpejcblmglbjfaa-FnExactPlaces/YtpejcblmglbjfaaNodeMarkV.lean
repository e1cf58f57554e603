/-
  Marks in a node that is handed over by value.
-/
import Derived.Test.YtpejcblmglbjfaaHeldNodes
namespace Go.Proofs.Ytpejcblmglbjfaa.trees
open Go.ChangeShapes Go.WideShapes Go.ChangeAt Go.RowKit
open pairs (Pair at0 PairsAt marksL marks_len)
set_option linter.unusedVariables false
theorem ownP_lt {w : World} {a : Option Addr} {L : List Pair} {F : Bset} (h : OwnP w a L F) : OwnP w a L (fun b => F b ∧ b < w.heap.size) := fun h0 => by
  obtain ⟨g, ha, hf, hm⟩ := h h0
  exact ⟨g, ha, ⟨hf, hm.lt⟩, hm⟩
theorem ownA_lt {w : World} {a : Option Addr} {L : List Att} {F : Bset} (h : OwnA w a L F) : OwnA w a L (fun b => F b ∧ b < w.heap.size) := fun h0 => by
  obtain ⟨g, ha, hf, hm⟩ := h h0
  obtain ⟨cur, t, h1, _⟩ := hm.all
  exact ⟨g, ha, ⟨hf, pairs.lt_heap h1⟩, hm⟩
/-- What is owned lies in what is there. -/
theorem own_lt {w : World} : ∀ n, ∀ (t : Tree) (h : Hdr) (F : Bset), tsize t < n → OwnN w t h F → OwnN w t h (fun b => F b ∧ b < w.heap.size)
  | 0, t, h, F, ht, _ => by omega
  | n + 1, t, h, F, ht, hn => by
    obtain ⟨FD, FA, FK, h1, h2, h3, s1, s2, s3, a1, a2, a3, o1, o2, o3⟩ := hn.parts
    refine PartsN.node (FD := fun b => FD b ∧ b < w.heap.size) (FA := fun b => FA b ∧ b < w.heap.size) (FK := fun b => FK b ∧ b < w.heap.size) ⟨h1, h2, h3, fun b hb => ⟨s1 b hb.1, hb.2⟩, fun b hb => ⟨s2 b hb.1, hb.2⟩, fun b hb => ⟨s3 b hb.1, hb.2⟩, fun b hb hc => a1 b hb.1 hc.1, fun b hb hc => a2 b hb.1 hc.1, fun b hb hc => a3 b hb.1 hc.1, ownP_lt o1, ownA_lt o2, fun h0 => ?_⟩
    obtain ⟨g, cur, ty, G, ha, m1, m2, m3, m4, m5, m6, m7⟩ := o3 h0
    refine ⟨g, cur, ty, fun i b => G i b ∧ b < w.heap.size, ha, ⟨m1, pairs.lt_heap m2⟩, m2, m3, fun i b hb => ⟨m4 i b hb.1, hb.2⟩, fun i hb => m5 i hb.1, fun i j hij b hb hc => m6 i j hij b hb.1 hc.1, fun i hi => ?_⟩
    obtain ⟨h', e1, e2⟩ := m7 i hi
    exact ⟨h', own_lt n (kid t.kids i) h' (G i) (by have := tsize_kid t i hi; omega) e1, e2⟩
theorem OwnN.lt {w : World} {t : Tree} {h : Hdr} {F : Bset} (hn : OwnN w t h F) : OwnN w t h (fun b => F b ∧ b < w.heap.size) := own_lt _ t h F (Nat.lt_succ_self _) hn
/-- The node whose lists are marks. -/
def mkN (t : Tree) (k : Nat) : Tree := .mk t.kind t.pre t.loc t.uri t.text (marksL k t.ds.length) (marksA (k + 2 * t.ds.length) t.ats.length) (mkTs t.kids (k + 2 * t.ds.length + 4 * t.ats.length))
def cntN (t : Tree) : Nat := 2 * t.ds.length + 4 * t.ats.length + cntMs t.kids
theorem mkN_fits {t : Tree} (k : Nat) (h : t.fits) : (mkN t k).fits := by
  obtain ⟨h1, h2, h3, h4, h5, h6⟩ := h
  exact ⟨h1, h2, h3, h4, h5, by show (mkTs _ _).length ≤ _; rw [mkTs_len]; exact h6⟩
theorem cntN_le (t : Tree) (hz : nsz t ≤ 1048576) : cntN t ≤ 10000000 := by
  have h1 := cntM_le t
  have h2 := cntM_eq t
  unfold cntN
  omega
set_option maxRecDepth 100000 in
set_option maxHeartbeats 4000000 in
theorem mark_nd (t : Tree) (h : Hdr) (k q : Nat) (F : Bset) (w : World) (hz : nsz t ≤ 1048576) (hk : k ≤ 30000000) (hq : k + cntN t = q) (hn : OwnN w t h F) : Calls Try.prog 35 #[.agg (vals t h), .int .i64 k] w fun e w' => e = .returned (.int .i64 (q : Int)) ∧ OwnN w' (mkN t k) h F ∧ Out F w w' := by
  obtain ⟨z1, z2, z3, z4⟩ := nsz_lens t
  have hcl := cntN_le t hz
  obtain ⟨FD, FA, FK, h1, h2, h3, s1, s2, s3, a1, a2, a3, o1, o2, o3⟩ := hn.lt.parts
  have HF : Hid (Inc FD F ∧ Inc FA F ∧ Inc FK F) := ⟨fun b hb => (s1 b hb).1, fun b hb => (s2 b hb).1, fun b hb => (s3 b hb).1⟩
  have HL : Hid ((¬ FD w.heap.size ∧ ¬ FA w.heap.size) ∧ ¬ FK w.heap.size) := ⟨⟨fun hb => Nat.lt_irrefl _ (s1 _ hb).2, fun hb => Nat.lt_irrefl _ (s2 _ hb).2⟩, fun hb => Nat.lt_irrefl _ (s3 _ hb).2⟩
  have HX : Hid (Apart FD FA ∧ Apart FD FK ∧ Apart FA FK) := ⟨a1, a2, a3⟩
  have HFT : Hid (t.fits) := h1.1
  have HRM : Hid (t.kids.length ≤ h.kc) := h1.2
  unfold cntN at hq
  have HQ : Hid ((k + 2 * t.ds.length + 4 * t.ats.length + cntMs t.kids = q ∧ k ≤ 30000000) ∧ t.ds.length ≤ 1048576 ∧ t.ats.length ≤ 1048576 ∧ nszs t.kids ≤ 1048576) := ⟨⟨by omega, hk⟩, by omega, by omega, by omega⟩
  have HB : Hid (∀ o, Below w.heap.size w (w.alloc o)) := fun o => (Below.refl _ _).alloc (Nat.le_refl _) o
  have H1 : Hid (∀ W, OwnP W h.da t.ds FD → _) := fun W ho => mark_ownP W h.da t.ds h.dc k FD (by have := HQ.out; omega) (by have := HQ.out; omega) ho
  have H2 : Hid (∀ W, OwnA W h.aa t.ats FA → _) := fun W ho => mark_ownA W h.aa t.ats h.ac (k + 2 * t.ds.length) FA (by have := HQ.out; omega) (by have := HQ.out; omega) ho
  have H3 : Hid (∀ W, OwnL W h.ka t.kids FK → _) := fun W ho => mark_nodes _ t.kids h.ka h.kc (k + 2 * t.ds.length + 4 * t.ats.length) FK W (Nat.lt_succ_self _) HQ.out.2.2.2 (by have e1 := HQ.out; have e2 := cntMs_le t.kids; omega) ho
  have HO1 : Hid (∀ o, OwnP (w.alloc o) h.da t.ds FD) := fun o => OwnP.out (G := fun _ => False) o1 (Out.of_below (HB.out o)) (fun _ _ h => h)
  have HO2 : Hid (∀ o, OwnA (w.alloc o) h.aa t.ats FA) := fun o => OwnA.out (G := fun _ => False) o2 (Out.of_below (HB.out o)) (fun _ _ h => h)
  have HO3 : Hid (∀ o, OwnL (w.alloc o) h.ka t.kids FK) := fun o => o3.below (HB.out o)
  have HD : Hid (nsz t ≤ 1048576) := hz
  obtain ⟨kd, pr, lo, ur, tx, ds, ats, ks⟩ := t
  obtain ⟨da, dc, aa, ac, ka, kc⟩ := h
  unfold MarkOk at H3
  unfold vals
  simp only [Tree.kind, Tree.pre, Tree.loc, Tree.uri, Tree.text, Tree.ds, Tree.ats, Tree.kids] at *
  obtain ⟨k1, hk1⟩ : ∃ k1, k + 2 * ds.length = k1 := ⟨_, rfl⟩
  obtain ⟨k2, hk2⟩ : ∃ k2, k1 + 4 * ats.length = k2 := ⟨_, rfl⟩
  have HK1 : Hid (k + 2 * ds.length = k1 ∧ k1 + 4 * ats.length = k2) := ⟨hk1, hk2⟩
  rw [hk1] at H1 H2 H3 HQ
  rw [hk2] at H2 H3 HQ
  have HNN : Hid (∀ W, OwnP W da (marksL k ds.length) FD → OwnA W aa (marksA k1 ats.length) FA → OwnL W ka (mkTs ks k2) FK → OwnN W (mkN (.mk kd pr lo ur tx ds ats ks) k) ⟨da, dc, aa, ac, ka, kc⟩ F) := fun W e1 e2 e3 => by
    refine PartsN.node (FD := FD) (FA := FA) (FK := FK) ⟨⟨mkN_fits k HFT.out, by show (mkTs _ _).length ≤ _; rw [mkTs_len]; exact HRM.out⟩, ?_, ?_, HF.out.1, HF.out.2.1, HF.out.2.2, HX.out.1, HX.out.2.1, HX.out.2.2, e1, ?_, ?_⟩
    · exact marks_fit k _ (by have := HQ.out; show ds.length ≤ _; omega) (by have := HQ.out; omega)
    · exact marksA_fit _ _ (by have := HQ.out; show ats.length ≤ _; omega) (by have := HQ.out; have := HK1.out; show k + 2 * ds.length ≤ _; omega)
    · show OwnA W aa (marksA (k + 2 * ds.length) ats.length) FA; rw [HK1.out.1]; exact e2
    · show OwnL W ka (mkTs ks (k + 2 * ds.length + 4 * ats.length)) FK; rw [HK1.out.1, HK1.out.2]; exact e3
  clear hn o1 o2 o3 s1 s2 s3 a1 a2 a3 h1 h2 h3 z1 z2 z3 z4 hcl hz hk hq hk1 hk2
  go_enter Try.func35, Try.ntmps35
  go_wp2_with fail
  refine Calls.mono (H1.out _ (HO1.out _)) ?_
  rintro e w1 ⟨rfl, ho, hout⟩
  have HP1 : Hid (OwnP w1 da (marksL k ds.length) FD) := ho
  have HU1 : Hid (Out F w w1) := (Out.of_below (HB.out _)).trans (hout.mono HF.out.1)
  have HA1 : Hid (OwnA w1 aa ats FA) := OwnA.out (HO2.out _) hout (HX.out.1.symm)
  have HK1' : Hid (OwnL w1 ka ks FK) := (HO3.out _).out hout (HX.out.2.1.symm)
  have HX1 : Hid (w1.heap[w.heap.size]? = _) := (hout.block _ (by simp) HL.out.1.1).trans (heap_alloc_new w (.cells #[.int .i64 kd, .string pr, .string lo, .string ur, .slice da ds.length dc, .slice aa ats.length ac, .slice ka ks.length kc, .string tx] 28))
  have HS1 : Hid (w.heap.size < w1.heap.size) := pairs.lt_heap HX1.out
  obtain ⟨c0, c1, c2, c3, c4, c5, c6, c7⟩ := box8 HX1.out
  clear ho hout
  go_wp2_with fail
  refine Calls.mono (H2.out _ HA1.out) ?_
  rintro e w2 ⟨rfl, ho, hout⟩
  have HA2 : Hid (OwnA w2 aa (marksA k1 ats.length) FA) := ho
  have HU2 : Hid (Out F w w2) := HU1.out.trans (hout.mono HF.out.2.1)
  have HP2 : Hid (OwnP w2 da (marksL k ds.length) FD) := OwnP.out HP1.out hout HX.out.1
  have HK2 : Hid (OwnL w2 ka ks FK) := HK1'.out.out hout (HX.out.2.2.symm)
  have HX2 : Hid (w2.heap[w.heap.size]? = _) := (hout.block _ HS1.out HL.out.1.2).trans HX1.out
  clear ho hout c0 c1 c2 c3 c4 c5 c6 c7
  obtain ⟨c0, c1, c2, c3, c4, c5, c6, c7⟩ := box8 HX2.out
  go_wp2_with fail
  refine Calls.mono (H3.out _ HK2.out) ?_
  rintro e w3 ⟨rfl, ho, hout⟩
  have HK3 : Hid (OwnL w3 ka (mkTs ks k2) FK) := ho
  have HU3 : Hid (Out F w w3) := HU2.out.trans (hout.mono HF.out.2.2)
  have HP3 : Hid (OwnP w3 da (marksL k ds.length) FD) := OwnP.out HP2.out hout HX.out.2.1
  have HA3 : Hid (OwnA w3 aa (marksA k1 ats.length) FA) := OwnA.out HA2.out hout HX.out.2.2
  clear ho hout c0 c1 c2 c3 c4 c5 c6 c7
  go_wp2
  go_ret
  exact ⟨by show Ending.returned (.int .i64 ((k2 : Int) + (trees.cntMs ks : Int))) = _; rw [← HQ.out.1.1]; congr 2, HNN.out _ HP3.out HA3.out HK3.out, HU3.out⟩
end Go.Proofs.Ytpejcblmglbjfaa.trees
