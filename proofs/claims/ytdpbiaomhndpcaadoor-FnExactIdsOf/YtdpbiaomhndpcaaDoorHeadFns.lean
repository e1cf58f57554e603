/-
  Heads: a name, a row of Ents, a row of Defs; the laws' helpers on them: how great, a copy, whether two are the same, marks laid and found again.
-/
import Derived.Test.YtdpbiaomhndpcaaDoorDefMark
import Derived.Test.YtdpbiaomhndpcaaDoorPairEnt
import Derived.Test.YtdpbiaomhndpcaaDoorPairMarksEnt
namespace Go.Proofs.YtdpbiaomhndpcaaDoor.heads
open Go.ChangeShapes Go.WideShapes Go.ChangeAt Go.RowKit
open pairs (Pair at0 PairsAt marksL)
open trees (Bset Out Inc Apart Rng)
set_option linter.unusedVariables false
structure Hv where
  name : ByteArray
  ents : List Pair
  defs : List Df
/-- Where a head's two lists lie, and how much room they have. -/
structure Ha where
  ea : Option Addr
  ec : Nat
  da : Option Addr
  dc : Nat
def noHead : Hv := ⟨⟨#[]⟩, [], []⟩
def noHa : Ha := ⟨none, 0, none, 0⟩
/-- The three cells of a head. -/
def hcells (h : Hv) (p : Ha) : Array Value := #[.string h.name, .slice p.ea h.ents.length p.ec, .slice p.da h.defs.length p.dc]
structure HeadIn (w : World) (h : Hv) (p : Ha) : Prop where
  name : h.name.size ≤ maxLen
  ents : PairsAt w p.ea h.ents
  defs : DfsAt w p.da h.defs
theorem HeadIn.below {w w' : World} {h : Hv} {p : Ha} (hh : HeadIn w h p) (hb : Below w.heap.size w w') : HeadIn w' h p := ⟨hh.name, hh.ents.below (Nat.le_refl _) hb, hh.defs.below (Nat.le_refl _) hb⟩
def hsmall (h : Hv) : Nat := h.name.size + (h.ents.length + pairs.sizeTo h.ents h.ents.length) + smallF h.defs
theorem hsmall_lens (h : Hv) : h.name.size ≤ hsmall h ∧ h.ents.length ≤ hsmall h ∧ h.defs.length ≤ hsmall h := by unfold hsmall smallF; omega
/-- A head whose lists are rows of its own; F are their blocks. -/
structure OwnH (w : World) (h : Hv) (p : Ha) (F : Bset) : Prop where
  name : h.name.size ≤ maxLen
  pf : trees.PFit h.ents
  df : DFit h.defs
  rows : ∃ FE FD : Bset, Inc FE F ∧ Inc FD F ∧ Apart FE FD ∧ trees.OwnP w p.ea h.ents FE ∧ OwnF w p.da h.defs FD
theorem OwnH.at {w : World} {h : Hv} {p : Ha} {F : Bset} (hh : OwnH w h p F) : HeadIn w h p := by
  obtain ⟨FE, FD, _, _, _, o1, o2⟩ := hh.rows
  exact ⟨hh.name, o1.at hh.pf, o2.at hh.df⟩
theorem OwnH.out {w w' : World} {h : Hv} {p : Ha} {F G : Bset} (hh : OwnH w h p F) (ho : Out G w w') (hd : Apart F G) : OwnH w' h p F := by
  obtain ⟨FE, FD, s1, s2, a1, o1, o2⟩ := hh.rows
  exact ⟨hh.name, hh.pf, hh.df, FE, FD, s1, s2, a1, o1.out ho (hd.sub s1 (Inc.refl _)), o2.out ho (hd.sub s2 (Inc.refl _))⟩
theorem OwnH.below {w w' : World} {h : Hv} {p : Ha} {F : Bset} (hh : OwnH w h p F) (hb : Below w.heap.size w w') : OwnH w' h p F := hh.out (G := fun _ => False) (Out.of_below hb) (fun _ _ h => h)
theorem OwnH.sub {w : World} {h : Hv} {p : Ha} {F G : Bset} (hh : OwnH w h p F) (hs : Inc F G) : OwnH w h p G := by
  obtain ⟨FE, FD, s1, s2, a1, o1, o2⟩ := hh.rows
  exact ⟨hh.name, hh.pf, hh.df, FE, FD, s1.trans hs, s2.trans hs, a1, o1, o2⟩
theorem dig_sz : ∀ (f k : Nat) (out : ByteArray), (marks.digF f k out).size ≤ out.size + k
  | 0, k, out => by rw [marks.digF]; omega
  | f + 1, k, out => by
    rw [marks.digF]
    by_cases h : 0 < k
    · rw [if_pos h]
      have := dig_sz f (k / 10) (strOfNums [48 + (k : Int) % 10] ++ out)
      rw [ByteArray.size_append, show (strOfNums [48 + (k : Int) % 10]).size = 1 from rfl] at this
      omega
    · rw [if_neg h]; omega
theorem mark_sz (k : Nat) : (marks.markT k).size ≤ k + 2 := by
  unfold marks.markT
  by_cases h : k = 0
  · rw [if_pos h]; show 2 ≤ _; omega
  · rw [if_neg h, ByteArray.size_append]
    have := dig_sz k k ⟨#[]⟩
    have e : (⟨#[109]⟩ : ByteArray).size = 1 := rfl
    have e2 : (⟨#[]⟩ : ByteArray).size = 0 := rfl
    omega
theorem ownP_lt {w : World} {a : Option Addr} {L : List Pair} {F : Bset} (h : trees.OwnP w a L F) : trees.OwnP w a L (fun b => F b ∧ b < w.heap.size) := fun h0 => by
  obtain ⟨g, ha, hf, hm⟩ := h h0
  exact ⟨g, ha, ⟨hf, hm.lt⟩, hm⟩
theorem ownF_lt {w : World} {a : Option Addr} {L : List Df} {F : Bset} (h : OwnF w a L F) : OwnF w a L (fun b => F b ∧ b < w.heap.size) := fun h0 => by
  obtain ⟨g, ha, hf, hm⟩ := h h0
  obtain ⟨cur, t, h1, _⟩ := hm.all
  exact ⟨g, ha, ⟨hf, pairs.lt_heap h1⟩, hm⟩
theorem OwnH.lt {w : World} {h : Hv} {p : Ha} {F : Bset} (hh : OwnH w h p F) : ∃ FE FD : Bset, (Inc FE F ∧ Inc FD F ∧ Apart FE FD) ∧ (¬ FE w.heap.size ∧ ¬ FD w.heap.size) ∧ trees.OwnP w p.ea h.ents FE ∧ OwnF w p.da h.defs FD := by
  obtain ⟨FE, FD, s1, s2, a1, o1, o2⟩ := hh.rows
  exact ⟨_, _, ⟨fun b hb => s1 b hb.1, fun b hb => s2 b hb.1, fun b hb hc => a1 b hb.1 hc.1⟩, ⟨fun h => Nat.lt_irrefl _ h.2, fun h => Nat.lt_irrefl _ h.2⟩, ownP_lt o1, ownF_lt o2⟩
/-- The head whose parts are marks from k on. -/
def mkH (h : Hv) (k : Nat) : Hv := ⟨h.name, marksL k h.ents.length, marksF (k + 2 * h.ents.length) h.defs.length⟩
def cntH (h : Hv) : Nat := 2 * h.ents.length + 5 * h.defs.length
/-- Three boxes that lie behind one another. -/
structure K3 (w W : World) (t0 t1 t2 : TypeId) (C0 C1 C2 : Array Value) : Prop where
  par : W.heap[w.heap.size]? = some (.cells C0 t0 (0, 0))
  res : W.heap[w.heap.size + 1]? = some (.cells C1 t1 (0, 0))
  out : W.heap[w.heap.size + 1 + 1]? = some (.cells C2 t2 (0, 0))
  bel : Below w.heap.size w W
theorem K3.size {w W : World} {t0 t1 t2 : TypeId} {C0 C1 C2 : Array Value} (h : K3 w W t0 t1 t2 C0 C1 C2) : w.heap.size + 3 ≤ W.heap.size := pairs.lt_heap h.out
theorem K3.new (w : World) (t0 t1 t2 : TypeId) (C0 C1 C2 : Array Value) : K3 w (((w.alloc (.cells C0 t0)).alloc (.cells C1 t1)).alloc (.cells C2 t2)) t0 t1 t2 C0 C1 C2 := by
  refine ⟨?_, ?_, ?_, (((Below.refl _ w).alloc (Nat.le_refl _) _).alloc (by simp) _).alloc (by simp; omega) _⟩
  · exact (Below.heap_alloc _ _ _ (by simp; omega)).trans ((Below.heap_alloc _ _ _ (by simp)).trans (heap_alloc_new w _))
  · have := heap_alloc_new (w.alloc (.cells C0 t0)) (.cells C1 t1)
    rw [World.size_alloc] at this
    exact (Below.heap_alloc _ _ _ (by simp)).trans this
  · have := heap_alloc_new ((w.alloc (.cells C0 t0)).alloc (.cells C1 t1)) (.cells C2 t2)
    rw [World.size_alloc, World.size_alloc] at this
    exact this
theorem K3.below {w W W' : World} {t0 t1 t2 : TypeId} {C0 C1 C2 : Array Value} (h : K3 w W t0 t1 t2 C0 C1 C2) (hb : Below W.heap.size W W') : K3 w W' t0 t1 t2 C0 C1 C2 :=
  ⟨(hb.block _ (pairs.lt_heap h.par)).trans h.par, (hb.block _ (pairs.lt_heap h.res)).trans h.res, (hb.block _ (pairs.lt_heap h.out)).trans h.out, h.bel.trans (hb.mono h.bel.size)⟩
theorem K3.set {w W : World} {t0 t1 t2 : TypeId} {C0 C1 C2 : Array Value} (h : K3 w W t0 t1 t2 C0 C1 C2) (i : Nat) (u : Value) : K3 w (W.setCell ⟨w.heap.size + 1 + 1, i, none⟩ u) t0 t1 t2 C0 C1 (C2.setIfInBounds i u) :=
  ⟨(Below.heap_setCell _ ⟨w.heap.size + 1 + 1, i, none⟩ _ _ (by show w.heap.size ≠ w.heap.size + 1 + 1; omega)).trans h.par, (Below.heap_setCell _ ⟨w.heap.size + 1 + 1, i, none⟩ _ _ (by show w.heap.size + 1 ≠ w.heap.size + 1 + 1; omega)).trans h.res, pairs.block_set _ h.out, h.bel.setCell (p := ⟨w.heap.size + 1 + 1, i, none⟩) (by show w.heap.size ≤ w.heap.size + 1 + 1; omega) _⟩
theorem box3 {w : World} {b : Nat} {t : TypeId} {c0 c1 c2 : Value} (h : w.heap[b]? = some (.cells #[c0, c1, c2] t (0, 0))) :
    (w.cell? ⟨b, 0, none⟩ = some c0 ∧ w.cell? ⟨b, 1, none⟩ = some c1 ∧ w.cell? ⟨b, 2, none⟩ = some c2) ∧ w.frozen? ⟨b, 0, none⟩ = false ∧ w.frozen? ⟨b, 1, none⟩ = false ∧ w.frozen? ⟨b, 2, none⟩ = false := by
  simp [World.cell?, World.frozen?, h]
theorem box_kept {w w' : World} {o : Obj} (hb : Below (w.alloc o).heap.size (w.alloc o) w') : w'.heap[w.heap.size]? = some o := (hb.block w.heap.size (by simp)).trans (heap_alloc_new w _)
theorem box_under {w w' : World} {o : Obj} (hb : Below (w.alloc o).heap.size (w.alloc o) w') : Below w.heap.size w w' := ((Below.refl _ _).alloc (Nat.le_refl _) o).trans (hb.mono (by simp))
theorem box_below {w w' : World} {b : Nat} {o : Obj} (h : w.heap[b]? = some o) (hb : Below w.heap.size w w') : w'.heap[b]? = some o := (hb.block b (pairs.lt_heap h)).trans h
set_option maxRecDepth 100000 in
set_option maxHeartbeats 4000000 in
theorem sz_hd (h : Hv) (p : Ha) (left : Nat) (w : World) (hl : left ≤ 1048576) (hh : HeadIn w h p) :
    Calls Tryd.prog 5 #[.agg (hcells h p), .int .i64 left] w fun e w' => (∃ r : Int, e = .returned (.int .i64 r) ∧ (0 ≤ r → r = (left : Int) - hsmall h)) ∧ Below w.heap.size w w' := by
  obtain ⟨n, L, D⟩ := h
  obtain ⟨ea, ec, da, dc⟩ := p
  have z1 := hh.name
  have HE : Hid (PairsAt w ea L) := hh.ents
  have HD : Hid (DfsAt w da D) := hh.defs
  unfold maxLen at z1
  clear hh
  unfold hcells
  simp only at *
  by_cases g0 : (left : Int) - n.size < 0
  · go_enter Tryd.func5, Tryd.ntmps5
    go_wp2
    go_ret
    exact ⟨⟨-1, rfl, fun h => by omega⟩, (Below.refl _ _).alloc (Nat.le_refl _) _⟩
  · obtain ⟨l1, hl1⟩ : ∃ l1 : Nat, (left : Int) - n.size = l1 := ⟨left - n.size, by omega⟩
    have HL1 : Hid ((left : Int) - n.size = l1) := hl1
    have hl2 : l1 ≤ 1048576 := by omega
    have HB0 : Hid (∀ o, Below w.heap.size w (w.alloc o)) := fun o => (Below.refl _ _).alloc (Nat.le_refl _) o
    go_enter Tryd.func5, Tryd.ntmps5
    go_wp2_with fail
    refine (pairs.szx_EntS _ ea L ec l1 hl2 (HE.out.below (Nat.le_refl _) (HB0.out _))).mono ?_
    rintro e w1 ⟨⟨r, rfl, hr⟩, hb⟩
    have HB1 : Hid (Below w.heap.size w w1) := box_under hb
    obtain ⟨⟨c0, c1, c2⟩, -⟩ := box3 (box_kept hb)
    clear hb g0 hl1
    by_cases hr0 : r < 0
    · go_wp2
      go_ret
      exact ⟨⟨-1, rfl, fun h => by omega⟩, HB1.out⟩
    · have hre := hr (by omega)
      have HRE : Hid _ := hre
      obtain ⟨l3, rfl⟩ : ∃ l3 : Nat, r = l3 := ⟨r.toNat, by omega⟩
      have hl4 : l3 ≤ 1048576 := by omega
      clear hre hr
      go_wp2_with fail
      refine (sz_dfs _ da D dc l3 hl4 (HD.out.below (Nat.le_refl _) HB1.out)).mono ?_
      rintro e w2 ⟨⟨r2, rfl, hr2⟩, hb⟩
      have HB2 : Hid (Below w.heap.size w w2) := HB1.out.trans (hb.mono HB1.out.size)
      have HR2 : Hid (0 ≤ r2 → r2 = (left : Int) - hsmall ⟨n, L, D⟩) := fun h0 => by
        have := hr2 h0
        have e1 := HRE.out
        have e2 := HL1.out
        unfold hsmall
        simp only
        omega
      clear hb hr2
      by_cases hr3 : r2 < 0
      · go_wp2
        go_ret
        exact ⟨⟨-1, rfl, fun h => by omega⟩, HB2.out⟩
      · go_wp2
        go_ret
        exact ⟨⟨_, rfl, HR2.out⟩, HB2.out⟩
set_option maxRecDepth 100000 in
set_option maxHeartbeats 4000000 in
theorem mk_hd (h : Hv) (p : Ha) (w : World) (hz : hsmall h ≤ 1048576) (hh : HeadIn w h p) :
    Calls Tryd.prog 8 #[.agg (hcells h p)] w fun e w' => (∃ q : Ha, e = .returned (.agg (hcells h q)) ∧ OwnH w' h q (Rng w w')) ∧ Below w.heap.size w w' := by
  obtain ⟨hz1, hz2, hz3⟩ := hsmall_lens h
  obtain ⟨n, L, D⟩ := h
  obtain ⟨ea, ec, da, dc⟩ := p
  have HH : Hid (HeadIn w ⟨n, L, D⟩ ⟨ea, ec, da, dc⟩) := hh
  have HE : Hid (PairsAt w ea L) := hh.ents
  have HD : Hid (DfsAt w da D) := hh.defs
  have HLE : Hid (L.length ≤ 1048576 ∧ D.length ≤ 1048576) := by simp only at hz2 hz3; exact ⟨by omega, by omega⟩
  clear hh hz hz1 hz2 hz3
  unfold hcells
  simp only at *
  go_enter Tryd.func8, Tryd.ntmps8
  have HK0 : Hid (K3 w _ 30 43 43 _ _ _) := K3.new w 30 43 43 #[.string n, .slice ea L.length ec, .slice da D.length dc] #[.string ⟨#[]⟩, .slice none 0 0, .slice none 0 0] #[.string n, .slice none 0 0, .slice none 0 0]
  go_wp2_with fail
  obtain ⟨W3, hW3⟩ : ∃ W3, (((w.alloc (.cells #[.string n, .slice ea L.length ec, .slice da D.length dc] 30)).alloc (.cells #[.string ⟨#[]⟩, .slice none 0 0, .slice none 0 0] 43)).alloc (.cells #[.string n, .slice none 0 0, .slice none 0 0] 43)) = W3 := ⟨_, rfl⟩
  rw [hW3] at HK0
  rw [hW3]
  refine (pairs.mk_EntS _ ea L ec (HE.out.below (Nat.le_refl _) HK0.out.bel) HLE.out.1).mono ?_
  rintro e w1 ⟨⟨g1, rfl, hg1, hp1, hm1⟩, hb⟩
  have HK1 : Hid _ := HK0.out.below hb
  have HM1 : Hid (pairs.Made w1 g1 L L.length) := hm1
  have HG1 : Hid (w.heap.size + 3 ≤ g1 ∧ g1 < w1.heap.size) := ⟨Nat.le_trans HK0.out.size hg1, hm1.lt⟩
  have HK2 : Hid _ := HK1.out.set 1 (.slice (some ⟨g1, 0, none⟩) L.length L.length)
  clear hb hp1 hm1 hg1 hW3
  obtain ⟨⟨p0, p1, p2⟩, -⟩ := box3 HK1.out.par
  obtain ⟨⟨o0, o1, o2⟩, f0, f1, f2⟩ := box3 HK1.out.out
  go_wp2_with fail
  refine (mk_dfs _ da D dc (HD.out.below (Nat.le_refl _) HK2.out.bel) HLE.out.2).mono ?_
  rintro e w4 ⟨⟨g2, rfl, hg2, hp2, hm2⟩, hb⟩
  have HK4 : Hid _ := HK2.out.below hb
  have HM2 : Hid (MadeF w4 g2 D D.length) := hm2
  have hs1 : w1.heap.size ≤ g2 := by rw [trees.size_setCell] at hg2; exact hg2
  have HG2 : Hid (w1.heap.size ≤ g2 ∧ g2 < w4.heap.size) := ⟨hs1, by obtain ⟨cur, t, h1, _⟩ := hm2.all; exact pairs.lt_heap h1⟩
  have HM3 : Hid (pairs.Made w4 g1 L L.length) := (HM1.out.other (pairs.grown_set _ _ _ _) (by have := HG1.out.1; omega)).below hb
  clear hb hp2 hm2 hg2 hs1 p0 p1 p2 o0 o1 o2 f0 f1 f2
  obtain ⟨⟨o0, o1, o2⟩, f0, f1, f2⟩ := box3 HK4.out.out
  obtain ⟨⟨r0, r1, r2⟩, s0, s1, s2⟩ := box3 HK4.out.res
  go_wp2
  refine bodyPost_ret (by simp [results, Tryd.results8, go_sem, r0, r1, r2]; try rfl) rfl ?_
  have ho : Out (fun b => b = w.heap.size + 1 ∨ b = w.heap.size + 1 + 1) w4 ((((w4.setCell ⟨w.heap.size + 1 + 1, 2, none⟩ (.slice (some ⟨g2, 0, none⟩) D.length D.length)).setCell ⟨w.heap.size + 1, 0, none⟩ (.string n)).setCell ⟨w.heap.size + 1, 1, none⟩ (.slice (some ⟨g1, 0, none⟩) L.length L.length)).setCell ⟨w.heap.size + 1, 2, none⟩ (.slice (some ⟨g2, 0, none⟩) D.length D.length)) :=
    ((((Out.refl _ _).set (Or.inr rfl) _ _).set (Or.inl rfl) _ _).set (Or.inl rfl) _ _).set (Or.inl rfl) _ _
  have q1 := HG1.out
  have q2 := HG2.out
  have q3 := ho.size
  refine ⟨⟨⟨some ⟨g1, 0, none⟩, L.length, some ⟨g2, 0, none⟩, D.length⟩, rfl, HH.out.name, ⟨HE.out.short, HE.out.texts⟩, HD.out.fit, fun b => b = g1, fun b => b = g2, fun b hb => by subst hb; exact ⟨by omega, by omega⟩, fun b hb => by subst hb; exact ⟨by omega, by omega⟩, fun b hb hc => by subst hb; omega, fun _ => ⟨g1, rfl, rfl, trees.made_out HM3.out ho (fun e => by omega)⟩, fun _ => ⟨g2, rfl, rfl, madeF_out HM2.out ho (fun e => by omega)⟩⟩, ?_⟩
  exact ho.below HK4.out.bel (fun b hb => by omega) HK4.out.bel.size
set_option maxRecDepth 100000 in
set_option maxHeartbeats 4000000 in
theorem eq_hd (h : Hv) (p q : Ha) (w : World) (hp : HeadIn w h p) (hq : HeadIn w h q) : Calls Tryd.prog 12 #[.agg (hcells h p), .agg (hcells h q)] w fun e w' => e = .returned (.bool true) ∧ Below w.heap.size w w' := by
  obtain ⟨n, L, D⟩ := h
  obtain ⟨ea, ec, da, dc⟩ := p
  obtain ⟨ea', ec', da', dc'⟩ := q
  have HE : Hid (PairsAt w ea L) := hp.ents
  have HD : Hid (DfsAt w da D) := hp.defs
  have HE' : Hid (PairsAt w ea' L) := hq.ents
  have HD' : Hid (DfsAt w da' D) := hq.defs
  have HB2 : Hid (∀ o o', Below w.heap.size w ((w.alloc o).alloc o')) := fun o o' => ((Below.refl _ _).alloc (Nat.le_refl _) o).alloc (by simp) o'
  clear hp hq
  unfold hcells
  simp only
  go_enter Tryd.func12, Tryd.ntmps12
  go_wp2_with fail
  refine (pairs.eq_EntS _ ea ea' L ec ec' (HE.out.below (Nat.le_refl _) (HB2.out _ _)) (HE'.out.below (Nat.le_refl _) (HB2.out _ _))).mono ?_
  rintro e w1 ⟨rfl, hb⟩
  have HB1 : Hid (Below w.heap.size w w1) := (HB2.out _ _).trans (hb.mono (HB2.out _ _).size)
  have h1 := (hb.block _ (by simp; omega)).trans ((Below.heap_alloc _ _ _ (by simp)).trans (heap_alloc_new w (.cells #[.string n, .slice ea L.length ec, .slice da D.length dc] 43)))
  have h2 := (hb.block _ (by simp)).trans (heap_alloc_new (w.alloc (.cells #[.string n, .slice ea L.length ec, .slice da D.length dc] 43)) (.cells #[.string n, .slice ea' L.length ec', .slice da' D.length dc'] 43))
  rw [World.size_alloc] at h2
  obtain ⟨⟨o0, o1, o2⟩, -⟩ := box3 h1
  obtain ⟨⟨p0, p1, p2⟩, -⟩ := box3 h2
  clear hb h1 h2
  go_wp2_with fail
  refine (eq_dfs _ da da' D dc dc' (HD.out.below (Nat.le_refl _) HB1.out) (HD'.out.below (Nat.le_refl _) HB1.out)).mono ?_
  rintro e w2 ⟨rfl, hb⟩
  have HB2' : Hid (Below w.heap.size w w2) := HB1.out.trans (hb.mono HB1.out.size)
  clear hb
  go_wp2
  go_ret
  exact ⟨rfl, HB2'.out⟩
set_option maxRecDepth 100000 in
theorem mark_zeroE (ad : Option Addr) (c k : Nat) (w : World) : Calls Tryd.prog 36 #[.slice ad 0 c, .int .i64 k] w fun e w' => e = .returned (.int .i64 k) ∧ Below w.heap.size w w' := by
  go_enter Tryd.func36, Tryd.ntmps36
  go_wp2
  go_loop [1, 5] (fun q t => q = .int .i64 (k : Int) ∧ t = .int .i64 0) (fun _ _ => 0)
  case atStart => exact ⟨rfl, rfl⟩
  case round =>
    obtain ⟨rfl, rfl⟩ := hrel
    go_wp2
    go_ret
    exact ⟨rfl, Below.refl _ _⟩
theorem mark_rowE (w : World) (ad : Option Addr) (R : List Pair) (c k : Nat) (z : Int) (F : Bset) (hz : z = k) (hl : R.length ≤ 1048576) (hk : k ≤ 100000000) (h : trees.OwnP w ad R F) : Calls Tryd.prog 36 #[.slice ad R.length c, .int .i64 z] w fun e w' => e = .returned (.int .i64 ((k + 2 * R.length : Nat) : Int)) ∧ trees.OwnP w' ad (marksL k R.length) F ∧ Out F w w' := by
  subst hz
  by_cases h0 : 0 < R.length
  · obtain ⟨g, rfl, hF, hm⟩ := h h0
    refine (pairs.mark_EntS w g R.length c k (by omega) hk (hm.forget (pairs.marks_len _ _))).mono ?_
    rintro e w' ⟨he, hm', hg⟩
    exact ⟨he, fun _ => ⟨g, rfl, hF, by rw [pairs.marks_len]; exact hm'⟩, Out.grown hg hF⟩
  · have hz : R.length = 0 := by omega
    rw [hz]
    refine (mark_zeroE ad c k w).mono ?_
    rintro e w' ⟨he, hb⟩
    exact ⟨he, fun h => absurd h (by rw [pairs.marks_len]; exact Nat.lt_irrefl _), Out.of_below hb⟩
theorem marksP_fit (k n : Nat) (hn : n ≤ 4000000) (hk : k ≤ 100000000) : trees.PFit (marksL k n) := by
  refine ⟨by rw [pairs.marks_len]; unfold maxLen; omega, fun i hi => ?_⟩
  rw [pairs.marks_len] at hi
  rw [pairs.marks_at _ _ _ hi]
  have h1 := mark_sz (k + 2 * i)
  have h2 := mark_sz (k + 2 * i + 1)
  unfold maxLen
  simp only
  omega
theorem marksF_fit (k n : Nat) (hn : n ≤ 4000000) (hk : k ≤ 100000000) : DFit (marksF k n) := by
  refine ⟨by rw [marksF_len]; unfold maxLen; omega, fun i hi => ?_⟩
  rw [marksF_len] at hi
  rw [marksF_at _ _ _ hi]
  have h1 := mark_sz (k + 5 * i)
  have h2 := mark_sz (k + 5 * i + 1)
  have h3 := mark_sz (k + 5 * i + 4)
  unfold Df.fits markF maxLen
  simp only
  omega
set_option maxRecDepth 100000 in
set_option maxHeartbeats 4000000 in
theorem mark_hd (h : Hv) (p : Ha) (k q : Nat) (F : Bset) (w : World) (hz : hsmall h ≤ 1048576) (hk : k ≤ 50000000) (hq : k + cntH h = q) (hh : OwnH w h p F) : Calls Tryd.prog 14 #[.agg (hcells h p), .int .i64 k] w fun e w' => e = .returned (.int .i64 (q : Int)) ∧ OwnH w' (mkH h k) p F ∧ Out F w w' := by
  obtain ⟨hz1, hz2, hz3⟩ := hsmall_lens h
  have hz2' : h.ents.length ≤ 1048576 := Nat.le_trans hz2 hz
  have hz3' : h.defs.length ≤ 1048576 := Nat.le_trans hz3 hz
  obtain ⟨FE, FD, ⟨s1, s2, a1⟩, ⟨n1, n2⟩, o1, o2⟩ := hh.lt
  obtain ⟨n, L, D⟩ := h
  obtain ⟨ea, ec, da, dc⟩ := p
  have HN := hh.name
  unfold hcells
  unfold cntH at hq
  simp only at *
  have HA : Hid (∀ o, Below w.heap.size w (w.alloc o)) := fun o => (Below.refl _ _).alloc (Nat.le_refl _) o
  have HO1 : Hid (∀ o, trees.OwnP (w.alloc o) ea L FE) := fun o => trees.OwnP.out (G := fun _ => False) o1 (Out.of_below (HA.out o)) (fun _ _ h => h)
  have HO2 : Hid (∀ o, OwnF (w.alloc o) da D FD) := fun o => OwnF.out (G := fun _ => False) o2 (Out.of_below (HA.out o)) (fun _ _ h => h)
  have HX : Hid (Inc FE F ∧ Inc FD F ∧ Apart FE FD) := ⟨s1, s2, a1⟩
  have HN1 : Hid (¬ FE w.heap.size ∧ ¬ FD w.heap.size) := ⟨n1, n2⟩
  have HNN : Hid (n.size ≤ maxLen) := HN
  have H1 : Hid (∀ W, trees.OwnP W ea L FE → _) := fun W h => mark_rowE W ea L ec k k FE rfl hz2' (by omega) h
  have H2 : Hid (∀ W z, z = (((k + 2 * L.length : Nat) : Int)) → OwnF W da D FD → _) := fun W z hz h => mark_ownF W da D dc (k + 2 * L.length) z FD hz (by omega) (by omega) h
  have HQ : Hid (k + 2 * L.length + 5 * D.length = q ∧ L.length ≤ 1048576 ∧ D.length ≤ 1048576 ∧ k ≤ 50000000) := ⟨by omega, hz2', hz3', hk⟩
  clear hh hz hz1 hz2 hz3 hz2' hz3' o1 o2 s1 s2 a1 HN hq n1 n2
  have hk2 : k ≤ 50000000 := hk
  go_enter Tryd.func14, Tryd.ntmps14
  go_wp2_with fail
  refine Calls.mono (H1.out _ (HO1.out _)) ?_
  rintro e w1 ⟨rfl, ho, hout⟩
  have HP1 : Hid _ := ho
  have HU1 : Hid _ := hout
  have HF1 : Hid (OwnF w1 da D FD) := OwnF.out (HO2.out _) hout (HX.out.2.2.symm)
  have HX1 : Hid (w1.heap[w.heap.size]? = _) := (hout.block _ (by simp) HN1.out.1).trans (heap_alloc_new w (.cells #[.string n, .slice ea L.length ec, .slice da D.length dc] 43))
  obtain ⟨⟨c0, c1, c2⟩, -⟩ := box3 HX1.out
  clear ho hout
  go_wp2_with fail
  refine Calls.mono (H2.out _ _ (by omega) HF1.out) ?_
  rintro e w2 ⟨rfl, ho, hout⟩
  have HF2 : Hid _ := ho
  have HP2 : Hid (trees.OwnP w2 ea (marksL k L.length) FE) := trees.OwnP.out HP1.out hout HX.out.2.2
  have HU2 : Hid (Out F w w2) := ((Out.of_below (HA.out _)).trans (HU1.out.mono HX.out.1)).trans (hout.mono HX.out.2.1)
  clear ho hout c0 c1 c2
  go_wp2
  go_ret
  have hqq := HQ.out
  refine ⟨by show Ending.returned (.int .i64 ((k : Int) + 2 * (L.length : Int) + 5 * (D.length : Int))) = _; rw [← hqq.1]; congr 2, ⟨HNN.out, marksP_fit k L.length (by omega) (by omega), marksF_fit (k + 2 * L.length) D.length (by omega) (by omega), FE, FD, HX.out.1, HX.out.2.1, HX.out.2.2, HP2.out, HF2.out⟩, HU2.out⟩
end Go.Proofs.YtdpbiaomhndpcaaDoor.heads
