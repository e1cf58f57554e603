/-
  What the specification's PutAt and InsertAt answer.
-/
import Derived.Test.YtpejcblmglbjfaaSpecTurnN
namespace Go.Proofs.Ytpejcblmglbjfaa.paths
open Go.ChangeShapes Go.WideShapes Go.ChangeAt Go.RowKit
open trees (Tree Hdr vals noTree kid nsz nszs tsize ksize NodeIn NodesAt OwnN OwnL Rng Out T3 box8 box_froz TH th0 cellsN trees1 mergeL MergeOk set8 CopyOk)
open ints (IntsAt int0 okI)
set_option linter.unusedVariables false
/-- A node's box, right behind a world. -/
structure PB (w W : World) (P : Array Value) : Prop where
  par : W.heap[w.heap.size]? = some (.cells P 28 (0, 0))
  bel : Below w.heap.size w W
theorem PB.below {w W W' : World} {P : Array Value} (h : PB w W P) (hb : Below W.heap.size W W') : PB w W' P := ⟨(hb.block _ (pairs.lt_heap h.par)).trans h.par, h.bel.trans (hb.mono h.bel.size)⟩
theorem put_none {t : Tree} {P : List Int} {L : List Tree} (h : P.length = 0) : putR t P L = (t, false) := by unfold putR; rw [if_pos h]
theorem put_not {t : Tree} {P : List Int} {L : List Tree} (h : atT t P = none) : putR t P L = (t, false) := by
  unfold putR
  split
  · rfl
  · rw [h]
theorem put_some {t x : Tree} {P : List Int} {L : List Tree} {n : Nat} (hn : P.length = n + 1) (h : atT t P = some x) : putR t P L = (putT t (P.take n) (int0 P n).toNat ((int0 P n).toNat + 1) L, true) := by
  unfold putR
  rw [if_neg (by omega), h, hn]
  rfl
theorem old_cell {w w' : World} {g i : Nat} {u : Value} (hb : Below w.heap.size w w') (hc : w.cell? ⟨g, i, none⟩ = some u) : w'.cell? ⟨g, i, none⟩ = some u := (hb.cell (p := ⟨g, i, none⟩) (World.block_lt_of_cell? w _ hc)).trans hc
theorem set_other {W : World} {g k i j : Nat} {u : Value} (h : k ≠ g) : (W.setCell ⟨g, i, none⟩ u).cell? ⟨k, j, none⟩ = W.cell? ⟨k, j, none⟩ := by
  have hb := Below.heap_setCell W ⟨g, i, none⟩ u k h
  simp only [World.cell?, hb]
theorem T2.put {w W : World} {P : Array Value} {c0 c1 c2 c3 c4 c5 c6 c7 : Value} (h : T2 w W P #[c0, c1, c2, c3, c4, c5, c6, c7]) (u0 u1 u2 u3 u4 u5 u6 u7 : Value) : T2 w ((((((((W.setCell ⟨w.heap.size + 1, 0, none⟩ u0).setCell ⟨w.heap.size + 1, 1, none⟩ u1).setCell ⟨w.heap.size + 1, 2, none⟩ u2).setCell ⟨w.heap.size + 1, 3, none⟩ u3).setCell ⟨w.heap.size + 1, 4, none⟩ u4).setCell ⟨w.heap.size + 1, 5, none⟩ u5).setCell ⟨w.heap.size + 1, 6, none⟩ u6).setCell ⟨w.heap.size + 1, 7, none⟩ u7) P #[u0, u1, u2, u3, u4, u5, u6, u7] := by
  have ho : Out (fun b => b = w.heap.size + 1) W _ := out8 (F := fun b => b = w.heap.size + 1) (g := w.heap.size + 1) (Out.refl _ W) rfl u0 u1 u2 u3 u4 u5 u6 u7
  refine ⟨(ho.block _ (pairs.lt_heap h.par) (fun e => by omega)).trans h.par, ?_, below8 h.bel (by omega) _ _ _ _ _ _ _ _⟩
  have := pairs.block_set (i := 7) u7 (pairs.block_set (i := 6) u6 (pairs.block_set (i := 5) u5 (pairs.block_set (i := 4) u4 (pairs.block_set (i := 3) u3 (pairs.block_set (i := 2) u2 (pairs.block_set (i := 1) u1 (pairs.block_set (i := 0) u0 h.res)))))))
  rw [put8] at this
  exact this
set_option maxRecDepth 100000 in
set_option maxHeartbeats 8000000 in
theorem spec_putAt (t : Tree) (h : Hdr) (P : List Int) (a : Option Addr) (cap : Nat) (L : List Tree) (b : Option Addr) (cl : Nat) (w : World) (hz : nsz t + nszs L ≤ 1048576) (hcap : P.length ≤ cap) (hn : NodeIn w 0 t h) (hP : IntsAt w a P) (hL : NodesAt w 0 b L) :
    Calls Try.prog 26 #[.agg (vals t h), .slice a P.length cap, .slice b L.length cl] w fun e w' => AtAns (putR t P L) w w' e ∧ Below w.heap.size w w' := by
  have HT0 : Hid (T2 w _ (vals t h) _) := T2.new w (vals t h)
  have HC : Hid (∀ W, Below w.heap.size w W → CopyOk 54 t h W) := fun W hb => trees.spec_copy 0 _ t h W (Nat.lt_succ_self _) (by omega) (hn.below hb)
  have HA : Hid (∀ W, Below w.heap.size w W → AtOk 14 t h P a cap W) := fun W hb => spec_nodeAt 0 t h P a cap W (by omega) (hn.below hb) (hP.below (Nat.le_refl _) hb)
  have HK : Hid (∀ (n : Nat) (x y : Tree), P.length = n + 1 → atT t P = some x → atT t (P.take n) = some y → (int0 P n).toNat + 1 ≤ y.kids.length → ∀ W, Below w.heap.size w W → TurnOk t h (P.take n) a cap (int0 P n).toNat ((int0 P n).toNat + 1) L b cl w W ∧ nsz (putT t (P.take n) (int0 P n).toNat ((int0 P n).toNat + 1) L) ≤ 1048576) := fun n x y hl hat hy hk W hb =>
    ⟨turn_any _ _ L b cl (P.take n) t h a cap w W y hb hz (Nat.le_succ _) hk hy (by rw [List.length_take]; omega) (ints_take hP (by omega)) hn hL, by have := nsz_put (P.take n) t y (int0 P n).toNat ((int0 P n).toNat + 1) L hy (Nat.le_succ _); omega⟩
  have HP : Hid (IntsAt w a P) := hP
  have HZ : Hid (nsz t + nszs L ≤ 1048576) := hz
  unfold CopyOk at HC
  unfold AtOk AtAns at HA
  unfold TurnOk at HK
  have hlen := hP.short
  unfold maxLen at hlen
  clear hn hP hL hz
  simp only [vals] at HT0 HC HA HK ⊢
  obtain ⟨W2, hW2⟩ : ∃ W2, (w.alloc (.cells #[.int .i64 t.kind, .string t.pre, .string t.loc, .string t.uri, .slice h.da t.ds.length h.dc, .slice h.aa t.ats.length h.ac, .slice h.ka t.kids.length h.kc, .string t.text] 28)).alloc (.cells #[.int .i64 0, .string ⟨#[]⟩, .string ⟨#[]⟩, .string ⟨#[]⟩, .slice none 0 0, .slice none 0 0, .slice none 0 0, .string ⟨#[]⟩] 28) = W2 := ⟨_, rfl⟩
  rw [hW2] at HT0
  go_enter Try.func26, Try.ntmps26
  by_cases h0 : P.length = 0
  · have HR : Hid (putR t P L = (t, false)) := put_none h0
    rw [h0] at hcap ⊢
    obtain ⟨m0, m1, m2, m3, m4, m5, m6, m7⟩ := box8 HT0.out.par
    go_wp2_with fail
    refine Calls.mono (HC.out _ HT0.out.bel) ?_
    rintro e w5 ⟨⟨h', rfl, ho⟩, hb⟩
    have HT5 : Hid _ := HT0.out.below hb
    have HO5 : Hid (OwnN w5 t h' (Rng W2 w5)) := ho
    have hs5 := HT0.out.size
    have HS5 : Hid (W2.heap.size ≤ w5.heap.size) := hb.size
    clear hb ho m0 m1 m2 m3 m4 m5 m6 m7 hW2
    obtain ⟨r0, r1, r2, r3, r4, r5, r6, r7⟩ := box8 HT5.out.res
    obtain ⟨s0, s1, s2, s3, s4, s5, s6, s7⟩ := box_froz HT5.out.res
    go_wp2
    refine bodyPost_ret (by simp [results, Try.results26, go_sem, r0, r1, r2, r3, r4, r5, r6, r7]; try rfl) rfl ?_
    rw [HR.out]
    refine ⟨⟨h', rfl, ?_⟩, below8 HT5.out.bel (by omega) _ _ _ _ _ _ _ _⟩
    have hout : Out (fun b => b = w.heap.size + 1) w5 _ := out8 (F := fun b => b = w.heap.size + 1) (g := w.heap.size + 1) (Out.refl _ w5) rfl (.int .i64 t.kind) (.string t.pre) (.string t.loc) (.string t.uri) (.slice h'.da t.ds.length h'.dc) (.slice h'.aa t.ats.length h'.ac) (.slice h'.ka t.kids.length h'.kc) (.string t.text)
    exact (HO5.out.out hout (fun b hb e => by have := hb.1; omega)).sub (trees.Rng.wide (by omega) hout.size)
  · obtain ⟨n, hn⟩ : ∃ n, P.length = n + 1 := ⟨P.length - 1, by omega⟩
    have hres : (atT t P = none ∧ Hid (putR t P L = (t, false)) ∧ Hid (atR t P = (noTree, false))) ∨ (∃ x, Hid (atR t P = (x, true)) ∧ Hid (atT t P = some x)) := by
      cases hat : atT t P with
      | none => exact .inl ⟨rfl, put_not hat, by show _ = _; unfold atR; rw [hat]⟩
      | some x => exact .inr ⟨x, by show _ = _; unfold atR; rw [hat], rfl⟩
    obtain ⟨pb, poff, hpa, hplt, hpc⟩ := HP.out.row (by omega)
    have hpn := hpc n (by omega)
    have HKN : Hid _ := HK.out n
    have HNL : Hid (P.length = n + 1) := hn
    rw [hn] at hcap hlen HA HKN ⊢
    subst hpa
    clear hn h0 hpc HK
    obtain ⟨m0, m1, m2, m3, m4, m5, m6, m7⟩ := box8 HT0.out.par
    rcases hres with ⟨-, HR, HR2⟩ | ⟨x, HR2, HX⟩
    · rw [HR2.out] at HA
      go_wp2_with fail
      refine Calls.mono (HA.out _ HT0.out.bel) ?_
      rintro e w5 ⟨⟨h', rfl, -⟩, hb⟩
      have HT5 : Hid _ := HT0.out.below hb
      clear hb m0 m1 m2 m3 m4 m5 m6 m7 HA HKN
      have hne : ∀ (W : World) (i j : Nat) (u : Value), (W.setCell ⟨w5.heap.size, i, none⟩ u).cell? ⟨w.heap.size, j, none⟩ = W.cell? ⟨w.heap.size, j, none⟩ := fun W i j u => set_other (by have := HT5.out.size; omega)
      have hmm := fun o => box8 ((HT5.out.below ((Below.refl _ _).alloc (Nat.le_refl _) o)).par)
      have m0 := fun o => (hmm o).1
      have m1 := fun o => (hmm o).2.1
      have m2 := fun o => (hmm o).2.2.1
      have m3 := fun o => (hmm o).2.2.2.1
      have m4 := fun o => (hmm o).2.2.2.2.1
      have m5 := fun o => (hmm o).2.2.2.2.2.1
      have m6 := fun o => (hmm o).2.2.2.2.2.2.1
      have m7 := fun o => (hmm o).2.2.2.2.2.2.2
      clear hmm
      go_wp2_with fail
      have HTB : Hid _ := HT5.out.below ((Below.refl _ _).alloc (Nat.le_refl _) (.cells (vals noTree h') 28))
      simp only [vals] at HTB
      generalize w5.alloc (.cells #[.int .i64 noTree.kind, .string noTree.pre, .string noTree.loc, .string noTree.uri, .slice h'.da noTree.ds.length h'.dc, .slice h'.aa noTree.ats.length h'.ac, .slice h'.ka noTree.kids.length h'.kc, .string noTree.text] 28) = WB at HTB ⊢
      refine Calls.mono (HC.out _ HTB.out.bel) ?_
      rintro e w6 ⟨⟨h2, rfl, ho⟩, hb⟩
      have HT6 : Hid _ := HTB.out.below hb
      have HO6 : Hid (OwnN w6 t h2 (Rng WB w6)) := ho
      have HS6 : Hid (w.heap.size + 2 ≤ WB.heap.size ∧ WB.heap.size ≤ w6.heap.size) := ⟨HTB.out.size, hb.size⟩
      clear hb ho m0 m1 m2 m3 m4 m5 m6 m7 hne
      obtain ⟨r0, r1, r2, r3, r4, r5, r6, r7⟩ := box8 HT6.out.res
      obtain ⟨s0, s1, s2, s3, s4, s5, s6, s7⟩ := box_froz HT6.out.res
      go_wp2
      refine bodyPost_ret (by simp [results, Try.results26, go_sem, r0, r1, r2, r3, r4, r5, r6, r7]; try rfl) rfl ?_
      rw [HR.out]
      refine ⟨⟨h2, rfl, ?_⟩, below8 HT6.out.bel (by omega) _ _ _ _ _ _ _ _⟩
      have hout : Out (fun b => b = w.heap.size + 1) w6 _ := out8 (F := fun b => b = w.heap.size + 1) (g := w.heap.size + 1) (Out.refl _ w6) rfl (.int .i64 t.kind) (.string t.pre) (.string t.loc) (.string t.uri) (.slice h2.da t.ds.length h2.dc) (.slice h2.aa t.ats.length h2.ac) (.slice h2.ka t.kids.length h2.kc) (.string t.text)
      exact (HO6.out.out hout (fun b hb e => by have := hb.1; have := HS6.out; omega)).sub (trees.Rng.wide (by have := HS6.out; omega) hout.size)
    · rw [HR2.out] at HA
      obtain ⟨y, hy, hk0, hk1⟩ := at_last (by rw [HNL.out]; exact Nat.succ_pos n) HX.out
      rw [HNL.out, Nat.add_sub_cancel] at hy hk0 hk1
      have HR : Hid _ := put_some (L := L) HNL.out HX.out
      have HKY : Hid _ := HKN.out x y rfl HX.out hy (by omega)
      have hkok := HP.out.fit n (by rw [HNL.out]; exact Nat.lt_succ_self n)
      unfold okI at hkok
      obtain ⟨k, hk⟩ : ∃ k : Nat, int0 P n = k := ⟨(int0 P n).toNat, by omega⟩
      obtain ⟨yt, hyt⟩ : ∃ yt, putT t (P.take n) (int0 P n).toNat ((int0 P n).toNat + 1) L = yt := ⟨_, rfl⟩
      rw [hyt] at HKY HR
      have hQl : (P.take n).length = n := by rw [List.length_take, HNL.out]; omega
      rw [hk] at HKY hpn hkok
      rw [Int.toNat_natCast, hQl] at HKY
      have hkb : (k : Int) ≤ 1048576 := by
        have h1 := at_nsz _ _ _ hy
        have h2 := HZ.out
        have h3 := trees.nszs_eq y.kids
        have h4 := kids_nsz y
        omega
      clear hy hk0 hk1 HKN hk hyt HX hQl
      go_wp2_with fail
      refine Calls.mono (HA.out _ HT0.out.bel) ?_
      rintro e w5 ⟨⟨h', rfl, -⟩, hb⟩
      have HT5 : Hid _ := HT0.out.below hb
      clear hb m0 m1 m2 m3 m4 m5 m6 m7 HA
      have hpn5 := fun o => old_cell (HT5.out.bel.alloc (Nat.le_trans (by omega) HT5.out.size) o) hpn
      go_wp2_with fail
      have HTB : Hid _ := HT5.out.below ((Below.refl _ _).alloc (Nat.le_refl _) (.cells (vals x h') 28))
      simp only [vals] at HTB
      generalize w5.alloc (.cells #[.int .i64 x.kind, .string x.pre, .string x.loc, .string x.uri, .slice h'.da x.ds.length h'.dc, .slice h'.aa x.ats.length h'.ac, .slice h'.ka x.kids.length h'.kc, .string x.text] 28) = WB at HTB ⊢
      clear hpn5
      have hpb : PB w WB #[.int .i64 t.kind, .string t.pre, .string t.loc, .string t.uri, .slice h.da t.ds.length h.dc, .slice h.aa t.ats.length h.ac, .slice h.ka t.kids.length h.kc, .string t.text] := ⟨HTB.out.par, HTB.out.bel⟩
      have hmo := fun W (hb : PB w W #[.int .i64 t.kind, .string t.pre, .string t.loc, .string t.uri, .slice h.da t.ds.length h.dc, .slice h.aa t.ats.length h.ac, .slice h.ka t.kids.length h.kc, .string t.text]) => box8 (PB.par hb)
      have hmp : ∀ W, PB w W #[.int .i64 t.kind, .string t.pre, .string t.loc, .string t.uri, .slice h.da t.ds.length h.dc, .slice h.aa t.ats.length h.ac, .slice h.ka t.kids.length h.kc, .string t.text] → _ := fun W hb => old_cell hb.bel hpn
      have hcap2 : n ≤ cap := by omega
      apply quiets.wp_region_mask_dom (PB w · #[.int .i64 t.kind, .string t.pre, .string t.loc, .string t.uri, .slice h.da t.ds.length h.dc, .slice h.aa t.ats.length h.ac, .slice h.ka t.kids.length h.kc, .string t.text]) (fun _ _ h hb => PB.below h hb) hpb [true, true, true, true, true, true, true, true, true, true, false, false, false, false] (hm := by kernel_rfl) (hB := by kernel_rfl) (hwalk := ?walk1) (htail := ?tail1)
      case walk1 =>
        intro C hC0 hC1
        simp only [quiets.onB, cond_true, cond_false]
        repeat (go_big_quiet_step ((first | (intro hq; rfl) | (intro hq; simp [go_sem, (hmo _ (hC0 _ hq)).1, (hmo _ (hC0 _ hq)).2.1, (hmo _ (hC0 _ hq)).2.2.1, (hmo _ (hC0 _ hq)).2.2.2.1, (hmo _ (hC0 _ hq)).2.2.2.2.1, (hmo _ (hC0 _ hq)).2.2.2.2.2.1, (hmo _ (hC0 _ hq)).2.2.2.2.2.2.1, (hmo _ (hC0 _ hq)).2.2.2.2.2.2.2]; rfl) | (intro hq; simp [go_sem, hmp _ (hC0 _ hq)]; rfl) | (intro hq; simp [go_sem, hcap2]; rfl))))
        exact wpQuiet_nil rfl
      clear hmo hmp
      intro z1 hb
      have HD1 : Hid (Below WB.heap.size WB z1) := hb
      simp only [quiets.offB, cond_true, cond_false]
      clear hb
      refine quiets.tail_cons fun z2 hb => ?_
      have HD2 : Hid (Below WB.heap.size WB z2) := HD1.out.trans (hb.mono HD1.out.size)
      clear hb HD1
      go_wp2_with fail
      have hky := HKY.out z2 (HTB.out.bel.trans (HD2.out.mono HTB.out.bel.size))
      have HZY : Hid (nsz yt ≤ 1048576) := hky.2
      have HTY : Hid _ := hky.1
      clear hky HKY
      refine Calls.mono HTY.out ?_
      rintro e z3 ⟨⟨hy3, rfl, hst⟩, hb⟩
      have HST : Hid (NodeIn z3 0 yt hy3) := hst z3 (Out.refl _ _)
      have HD3 : Hid (Below WB.heap.size WB z3) := HD2.out.trans (hb.mono HD2.out.size)
      clear hb hst HTY HD2
      go_wp2_with fail
      refine ⟨hpb.below HD3.out, ?_⟩
      refine quiets.tail_cons fun z4 hb => ?_
      have HD4 : Hid (Below WB.heap.size WB z4) := HD3.out.trans (hb.mono HD3.out.size)
      have hc2 := trees.spec_copy 0 _ yt hy3 z4 (Nat.lt_succ_self _) HZY.out (HST.out.below hb)
      unfold CopyOk at hc2
      simp only [vals] at hc2
      have HC2 : Hid _ := hc2
      clear hb hc2 HST HD3
      go_wp2_with fail
      refine Calls.mono HC2.out ?_
      rintro e w6 ⟨⟨h2, rfl, ho⟩, hb⟩
      have HD6 : Hid (Below WB.heap.size WB w6) := HD4.out.trans (hb.mono HD4.out.size)
      have HO6 : Hid (OwnN w6 yt h2 (Rng z4 w6)) := ho
      have HS6 : Hid (w.heap.size + 2 ≤ z4.heap.size ∧ z4.heap.size ≤ w6.heap.size) := ⟨Nat.le_trans HTB.out.size HD4.out.size, hb.size⟩
      clear hb ho HC2
      go_wp2_with fail
      refine ⟨hpb.below HD6.out, ?_⟩
      refine quiets.tail_cons fun z7 hb => ?_
      have HT7 : Hid _ := HTB.out.below (HD6.out.trans (hb.mono HD6.out.size))
      have HO7 : Hid (OwnN z7 yt h2 (Rng z4 w6)) := HO6.out.below hb
      have HB7 : Hid (w6.heap.size ≤ z7.heap.size) := hb.size
      clear hb HO6 HD6 HD4
      obtain ⟨r0, r1, r2, r3, r4, r5, r6, r7⟩ := box8 HT7.out.res
      obtain ⟨s0, s1, s2, s3, s4, s5, s6, s7⟩ := box_froz HT7.out.res
      go_wp2_with fail
      obtain ⟨z8, hz8⟩ : ∃ z8, ((((((((z7.setCell ⟨w.heap.size + 1, 0, none⟩ (.int .i64 yt.kind)).setCell ⟨w.heap.size + 1, 1, none⟩ (.string yt.pre)).setCell ⟨w.heap.size + 1, 2, none⟩ (.string yt.loc)).setCell ⟨w.heap.size + 1, 3, none⟩ (.string yt.uri)).setCell ⟨w.heap.size + 1, 4, none⟩ (.slice h2.da yt.ds.length h2.dc)).setCell ⟨w.heap.size + 1, 5, none⟩ (.slice h2.aa yt.ats.length h2.ac)).setCell ⟨w.heap.size + 1, 6, none⟩ (.slice h2.ka yt.kids.length h2.kc)).setCell ⟨w.heap.size + 1, 7, none⟩ (.string yt.text)) = z8 := ⟨_, rfl⟩
      have HOT : Hid (Out (fun b => b = w.heap.size + 1) z7 z8) := hz8 ▸ out8 (F := fun b => b = w.heap.size + 1) (g := w.heap.size + 1) (Out.refl _ z7) rfl _ _ _ _ _ _ _ _
      have HT8 : Hid (T2 w z8 _ _) := hz8 ▸ HT7.out.put (.int .i64 yt.kind) (.string yt.pre) (.string yt.loc) (.string yt.uri) (.slice h2.da yt.ds.length h2.dc) (.slice h2.aa yt.ats.length h2.ac) (.slice h2.ka yt.kids.length h2.kc) (.string yt.text)
      rw [hz8]
      clear hz8 r0 r1 r2 r3 r4 r5 r6 r7 s0 s1 s2 s3 s4 s5 s6 s7
      refine ⟨⟨HT8.out.par, HT8.out.bel⟩, ?_⟩
      refine quiets.tail_cons fun z9 hb => ?_
      have HT9 : Hid _ := HT8.out.below hb
      have HE9 : Hid (Below z8.heap.size z8 z9) := hb
      clear hb
      go_wp2_with fail
      refine ⟨⟨HT9.out.par, HT9.out.bel⟩, ?_⟩
      refine quiets.tail_nil fun z10 hb => ?_
      have HT10 : Hid _ := HT9.out.below hb
      have HE10 : Hid (Below z8.heap.size z8 z10) := HE9.out.trans (hb.mono HE9.out.size)
      clear hb
      obtain ⟨r0, r1, r2, r3, r4, r5, r6, r7⟩ := box8 HT10.out.res
      go_wp2
      refine bodyPost_ret (by simp [results, Try.results26, go_sem, r0, r1, r2, r3, r4, r5, r6, r7]; try rfl) rfl ?_
      rw [HR.out]
      refine ⟨⟨h2, rfl, ?_⟩, HT10.out.bel⟩
      exact ((HO7.out.out HOT.out (fun b hb e => by have := hb.1; have := HS6.out; omega)).below HE10.out).sub (fun b hb => ⟨by have := hb.1; have := HS6.out; omega, by have := hb.2; have h1 := HB7.out; have h2 := HOT.out.size; have h3 := HE10.out.size; omega⟩)
end Go.Proofs.Ytpejcblmglbjfaa.paths
