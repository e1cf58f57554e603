/-
  What the specification's InsertAt answers.
-/
import Derived.Test.YtpejcblmglbjfaaSpecPut
namespace Go.Proofs.Ytpejcblmglbjfaa.paths
open Go.ChangeShapes Go.WideShapes Go.ChangeAt Go.RowKit
open trees (Tree Hdr vals noTree kid nsz nszs tsize ksize NodeIn NodesAt OwnN OwnL Rng Out T3 box8 box_froz TH th0 cellsN trees1 mergeL MergeOk set8 CopyOk)
open ints (IntsAt int0 okI)
set_option linter.unusedVariables false
theorem ins_not {t : Tree} {P : List Int} {i : Int} {L : List Tree} (h : atT t P = none) : insR t P i L = (t, false) := by
  unfold insR
  rw [h]
theorem ins_no {t x : Tree} {P : List Int} {i : Int} {L : List Tree} (h : atT t P = some x) (hn : ¬((x.kind = 1 ∨ x.kind = 0) ∧ 0 ≤ i ∧ i ≤ x.kids.length)) : insR t P i L = (t, false) := by
  unfold insR
  rw [h]
  exact if_neg hn
theorem ins_yes {t x : Tree} {P : List Int} {i : Int} {L : List Tree} (h : atT t P = some x) (hn : (x.kind = 1 ∨ x.kind = 0) ∧ 0 ≤ i ∧ i ≤ x.kids.length) : insR t P i L = (putT t P i.toNat i.toNat L, true) := by
  unfold insR
  rw [h]
  exact if_pos hn
set_option maxRecDepth 100000 in
set_option maxHeartbeats 16000000 in
theorem spec_insertAt (t : Tree) (h : Hdr) (P : List Int) (a : Option Addr) (cap : Nat) (i : Int) (L : List Tree) (b : Option Addr) (cl : Nat) (w : World) (hz : nsz t + nszs L ≤ 1048576) (hcap : P.length ≤ cap) (hi : okI i) (hn : NodeIn w 0 t h) (hP : IntsAt w a P) (hL : NodesAt w 0 b L) :
    Calls Try.prog 29 #[.agg (vals t h), .slice a P.length cap, .int .i64 i, .slice b L.length cl] w fun e w' => AtAns (insR t P i L) w w' e ∧ Below w.heap.size w w' := by
  have HT0 : Hid (T2 w _ (vals t h) _) := T2.new w (vals t h)
  have HC : Hid (∀ W, Below w.heap.size w W → CopyOk 54 t h W) := fun W hb => trees.spec_copy 0 _ t h W (Nat.lt_succ_self _) (by omega) (hn.below hb)
  have HA : Hid (∀ W, Below w.heap.size w W → AtOk 14 t h P a cap W) := fun W hb => spec_nodeAt 0 t h P a cap W (by omega) (hn.below hb) (hP.below (Nat.le_refl _) hb)
  have HK : Hid (∀ (k : Nat) (y : Tree), atT t P = some y → k ≤ y.kids.length → ∀ W, Below w.heap.size w W → TurnOk t h P a cap k k L b cl w W ∧ nsz (putT t P k k L) ≤ 1048576) := fun k y hy hk W hb =>
    ⟨turn_any _ _ L b cl P t h a cap w W y hb hz (Nat.le_refl _) hk hy hcap hP hn hL, by have := nsz_put P t y k k L hy (Nat.le_refl _); omega⟩
  have HZ : Hid (nsz t + nszs L ≤ 1048576) := hz
  unfold CopyOk at HC
  unfold AtOk AtAns at HA
  unfold TurnOk at HK
  have hlen := hP.short
  unfold maxLen at hlen
  unfold okI at hi
  clear hn hP hL hz hcap
  simp only [vals] at HT0 HC HA HK ⊢
  obtain ⟨W2, hW2⟩ : ∃ W2, (w.alloc (.cells #[.int .i64 t.kind, .string t.pre, .string t.loc, .string t.uri, .slice h.da t.ds.length h.dc, .slice h.aa t.ats.length h.ac, .slice h.ka t.kids.length h.kc, .string t.text] 28)).alloc (.cells #[.int .i64 0, .string ⟨#[]⟩, .string ⟨#[]⟩, .string ⟨#[]⟩, .slice none 0 0, .slice none 0 0, .slice none 0 0, .string ⟨#[]⟩] 28) = W2 := ⟨_, rfl⟩
  rw [hW2] at HT0
  go_enter Try.func29, Try.ntmps29
  have hres : (Hid (insR t P i L = (t, false)) ∧ Hid (atR t P = (noTree, false))) ∨ (∃ x, Hid (atR t P = (x, true)) ∧ Hid (atT t P = some x)) := by
    cases hat : atT t P with
    | none => exact .inl ⟨ins_not hat, by show _ = _; unfold atR; rw [hat]⟩
    | some x => exact .inr ⟨x, by show _ = _; unfold atR; rw [hat], rfl⟩
  obtain ⟨m0, m1, m2, m3, m4, m5, m6, m7⟩ := box8 HT0.out.par
  rcases hres with ⟨HR, HR2⟩ | ⟨x, HR2, HX⟩
  · rw [HR2.out] at HA
    go_wp2_with fail
    refine Calls.mono (HA.out _ HT0.out.bel) ?_
    rintro e w5 ⟨⟨h', rfl, -⟩, hb⟩
    have HT5 : Hid _ := HT0.out.below hb
    clear hb m0 m1 m2 m3 m4 m5 m6 m7 HA HK hW2
    have hmm := fun o => box8 ((HT5.out.below ((Below.refl _ _).alloc (Nat.le_refl _) o)).par)
    have m0 := fun o => (hmm o).1
    have m1 := fun o => (hmm o).2.1
    have m2 := fun o => (hmm o).2.2.1
    have m3 := fun o => (hmm o).2.2.2.1
    have m4 := fun o => (hmm o).2.2.2.2.1
    have m5 := fun o => (hmm o).2.2.2.2.2.1
    have m6 := fun o => (hmm o).2.2.2.2.2.2.1
    have m7 := fun o => (hmm o).2.2.2.2.2.2.2
    clear hmm
    go_wp2_with fail
    have HTB : Hid _ := HT5.out.below ((Below.refl _ _).alloc (Nat.le_refl _) (.cells (vals noTree h') 28))
    simp only [vals] at HTB
    generalize w5.alloc (.cells #[.int .i64 noTree.kind, .string noTree.pre, .string noTree.loc, .string noTree.uri, .slice h'.da noTree.ds.length h'.dc, .slice h'.aa noTree.ats.length h'.ac, .slice h'.ka noTree.kids.length h'.kc, .string noTree.text] 28) = WB at HTB ⊢
    refine Calls.mono (HC.out _ HTB.out.bel) ?_
    rintro e w6 ⟨⟨h2, rfl, ho⟩, hb⟩
    clear m0 m1 m2 m3 m4 m5 m6 m7
    have HT6 : Hid _ := HTB.out.below hb
    have HO6 : Hid (OwnN w6 t h2 (Rng WB w6)) := ho
    have HS6 : Hid (w.heap.size + 2 ≤ WB.heap.size ∧ WB.heap.size ≤ w6.heap.size) := ⟨HTB.out.size, hb.size⟩
    clear hb ho
    obtain ⟨r0, r1, r2, r3, r4, r5, r6, r7⟩ := box8 HT6.out.res
    obtain ⟨s0, s1, s2, s3, s4, s5, s6, s7⟩ := box_froz HT6.out.res
    go_wp2
    refine bodyPost_ret (by simp [results, Try.results29, go_sem, r0, r1, r2, r3, r4, r5, r6, r7]; try rfl) rfl ?_
    rw [HR.out]
    refine ⟨⟨h2, rfl, ?_⟩, below8 HT6.out.bel (by omega) _ _ _ _ _ _ _ _⟩
    have hout : Out (fun b => b = w.heap.size + 1) w6 _ := out8 (F := fun b => b = w.heap.size + 1) (g := w.heap.size + 1) (Out.refl _ w6) rfl (.int .i64 t.kind) (.string t.pre) (.string t.loc) (.string t.uri) (.slice h2.da t.ds.length h2.dc) (.slice h2.aa t.ats.length h2.ac) (.slice h2.ka t.kids.length h2.kc) (.string t.text)
    exact (HO6.out.out hout (fun b hb e => by have := hb.1; have := HS6.out; omega)).sub (trees.Rng.wide (by have := HS6.out; omega) hout.size)
  · rw [HR2.out] at HA
    have hxk : x.kids.length ≤ 1048576 := by
      have h1 := at_nsz _ _ _ HX.out
      have h2 := HZ.out
      have h3 := trees.nszs_eq x.kids
      have h4 := kids_nsz x
      omega
    go_wp2_with fail
    refine Calls.mono (HA.out _ HT0.out.bel) ?_
    rintro e w5 ⟨⟨h', rfl, -⟩, hb⟩
    have HT5 : Hid _ := HT0.out.below hb
    clear hb m0 m1 m2 m3 m4 m5 m6 m7 HA hW2
    have hmm := fun o => box8 ((HT5.out.below ((Below.refl _ _).alloc (Nat.le_refl _) o)).par)
    have m0 := fun o => (hmm o).1
    have m1 := fun o => (hmm o).2.1
    have m2 := fun o => (hmm o).2.2.1
    have m3 := fun o => (hmm o).2.2.2.1
    have m4 := fun o => (hmm o).2.2.2.2.1
    have m5 := fun o => (hmm o).2.2.2.2.2.1
    have m6 := fun o => (hmm o).2.2.2.2.2.2.1
    have m7 := fun o => (hmm o).2.2.2.2.2.2.2
    clear hmm
    by_cases hk : x.kind = 1 ∨ x.kind = 0
    · by_cases hin : 0 ≤ i ∧ i ≤ x.kids.length
      · have HR : Hid _ := ins_yes (L := L) HX.out ⟨hk, hin⟩
        have hib : inB 0 (x.kids.length : Int) i = true := decide_eq_true hin
        have HIB : Hid _ := hib
        obtain ⟨k, rfl⟩ : ∃ k : Nat, i = k := ⟨i.toNat, by omega⟩
        rw [Int.toNat_natCast] at HR
        have HKY : Hid _ := HK.out k x HX.out (by omega)
        obtain ⟨yt, hyt⟩ : ∃ yt, putT t P k k L = yt := ⟨_, rfl⟩
        rw [hyt] at HKY HR
        clear hib hyt HK
        rcases hk with hk | hk
        · go_wp2_with fail
          refine Calls.mono (in_is HIB.out _) ?_
          rintro e w9 ⟨rfl, hw9⟩
          have hw9' := hw9.symm
          clear hw9
          subst hw9'
          go_wp2_with fail
          have HTB : Hid _ := HT5.out.below ((Below.refl _ _).alloc (Nat.le_refl _) (.cells (vals x h') 28))
          simp only [vals, hk] at HTB
          generalize w5.alloc (.cells #[.int .i64 1, .string x.pre, .string x.loc, .string x.uri, .slice h'.da x.ds.length h'.dc, .slice h'.aa x.ats.length h'.ac, .slice h'.ka x.kids.length h'.kc, .string x.text] 28) = WB at HTB ⊢
          have hky := HKY.out WB HTB.out.bel
          have HZY : Hid (nsz yt ≤ 1048576) := hky.2
          have HTY : Hid _ := hky.1
          clear hky HKY
          refine Calls.mono HTY.out ?_
          rintro e z3 ⟨⟨hy3, rfl, hst⟩, hb⟩
          have HT3 : Hid _ := HTB.out.below hb
          have hc2 := trees.spec_copy 0 _ yt hy3 z3 (Nat.lt_succ_self _) HZY.out (hst z3 (Out.refl _ _))
          unfold CopyOk at hc2
          simp only [vals] at hc2
          have HC2 : Hid _ := hc2
          clear hb hst HTY hc2 m0 m1 m2 m3 m4 m5 m6 m7
          go_wp2_with fail
          refine Calls.mono HC2.out ?_
          rintro e w6 ⟨⟨h2, rfl, ho⟩, hb⟩
          have HT6 : Hid _ := HT3.out.below hb
          have HO6 : Hid (OwnN w6 yt h2 (Rng z3 w6)) := ho
          have HS6 : Hid (w.heap.size + 2 ≤ z3.heap.size ∧ z3.heap.size ≤ w6.heap.size) := ⟨HT3.out.size, hb.size⟩
          clear hb ho
          obtain ⟨r0, r1, r2, r3, r4, r5, r6, r7⟩ := box8 HT6.out.res
          obtain ⟨s0, s1, s2, s3, s4, s5, s6, s7⟩ := box_froz HT6.out.res
          go_wp2
          refine bodyPost_ret (by simp [results, Try.results29, go_sem, r0, r1, r2, r3, r4, r5, r6, r7]; try rfl) rfl ?_
          rw [HR.out]
          refine ⟨⟨h2, rfl, ?_⟩, below8 HT6.out.bel (by omega) _ _ _ _ _ _ _ _⟩
          have hout : Out (fun b => b = w.heap.size + 1) w6 _ := out8 (F := fun b => b = w.heap.size + 1) (g := w.heap.size + 1) (Out.refl _ w6) rfl (.int .i64 yt.kind) (.string yt.pre) (.string yt.loc) (.string yt.uri) (.slice h2.da yt.ds.length h2.dc) (.slice h2.aa yt.ats.length h2.ac) (.slice h2.ka yt.kids.length h2.kc) (.string yt.text)
          exact (HO6.out.out hout (fun b hb e => by have := hb.1; have := HS6.out; omega)).sub (trees.Rng.wide (by have := HS6.out; omega) hout.size)
        · go_wp2_with fail
          refine Calls.mono (in_is HIB.out _) ?_
          rintro e w9 ⟨rfl, hw9⟩
          have hw9' := hw9.symm
          clear hw9
          subst hw9'
          go_wp2_with fail
          have HTB : Hid _ := HT5.out.below ((Below.refl _ _).alloc (Nat.le_refl _) (.cells (vals x h') 28))
          simp only [vals, hk] at HTB
          generalize w5.alloc (.cells #[.int .i64 0, .string x.pre, .string x.loc, .string x.uri, .slice h'.da x.ds.length h'.dc, .slice h'.aa x.ats.length h'.ac, .slice h'.ka x.kids.length h'.kc, .string x.text] 28) = WB at HTB ⊢
          have hky := HKY.out WB HTB.out.bel
          have HZY : Hid (nsz yt ≤ 1048576) := hky.2
          have HTY : Hid _ := hky.1
          clear hky HKY
          refine Calls.mono HTY.out ?_
          rintro e z3 ⟨⟨hy3, rfl, hst⟩, hb⟩
          have HT3 : Hid _ := HTB.out.below hb
          have hc2 := trees.spec_copy 0 _ yt hy3 z3 (Nat.lt_succ_self _) HZY.out (hst z3 (Out.refl _ _))
          unfold CopyOk at hc2
          simp only [vals] at hc2
          have HC2 : Hid _ := hc2
          clear hb hst HTY hc2 m0 m1 m2 m3 m4 m5 m6 m7
          go_wp2_with fail
          refine Calls.mono HC2.out ?_
          rintro e w6 ⟨⟨h2, rfl, ho⟩, hb⟩
          have HT6 : Hid _ := HT3.out.below hb
          have HO6 : Hid (OwnN w6 yt h2 (Rng z3 w6)) := ho
          have HS6 : Hid (w.heap.size + 2 ≤ z3.heap.size ∧ z3.heap.size ≤ w6.heap.size) := ⟨HT3.out.size, hb.size⟩
          clear hb ho
          obtain ⟨r0, r1, r2, r3, r4, r5, r6, r7⟩ := box8 HT6.out.res
          obtain ⟨s0, s1, s2, s3, s4, s5, s6, s7⟩ := box_froz HT6.out.res
          go_wp2
          refine bodyPost_ret (by simp [results, Try.results29, go_sem, r0, r1, r2, r3, r4, r5, r6, r7]; try rfl) rfl ?_
          rw [HR.out]
          refine ⟨⟨h2, rfl, ?_⟩, below8 HT6.out.bel (by omega) _ _ _ _ _ _ _ _⟩
          have hout : Out (fun b => b = w.heap.size + 1) w6 _ := out8 (F := fun b => b = w.heap.size + 1) (g := w.heap.size + 1) (Out.refl _ w6) rfl (.int .i64 yt.kind) (.string yt.pre) (.string yt.loc) (.string yt.uri) (.slice h2.da yt.ds.length h2.dc) (.slice h2.aa yt.ats.length h2.ac) (.slice h2.ka yt.kids.length h2.kc) (.string yt.text)
          exact (HO6.out.out hout (fun b hb e => by have := hb.1; have := HS6.out; omega)).sub (trees.Rng.wide (by have := HS6.out; omega) hout.size)
      · have HR : Hid _ := ins_no (L := L) HX.out (fun e => hin e.2)
        have hib : inB 0 (x.kids.length : Int) i = false := decide_eq_false hin
        have HIB : Hid _ := hib
        clear hib HK
        rcases hk with hk | hk
        · go_wp2_with fail
          refine Calls.mono (in_is HIB.out _) ?_
          rintro e w9 ⟨rfl, hw9⟩
          have hw9' := hw9.symm
          clear hw9
          subst hw9'
          go_wp2_with fail
          have HTB : Hid _ := HT5.out.below ((Below.refl _ _).alloc (Nat.le_refl _) (.cells (vals x h') 28))
          simp only [vals, hk] at HTB
          generalize w5.alloc (.cells #[.int .i64 1, .string x.pre, .string x.loc, .string x.uri, .slice h'.da x.ds.length h'.dc, .slice h'.aa x.ats.length h'.ac, .slice h'.ka x.kids.length h'.kc, .string x.text] 28) = WB at HTB ⊢
          refine Calls.mono (HC.out _ HTB.out.bel) ?_
          rintro e w6 ⟨⟨h2, rfl, ho⟩, hb⟩
          clear m0 m1 m2 m3 m4 m5 m6 m7
          have HT6 : Hid _ := HTB.out.below hb
          have HO6 : Hid (OwnN w6 t h2 (Rng WB w6)) := ho
          have HS6 : Hid (w.heap.size + 2 ≤ WB.heap.size ∧ WB.heap.size ≤ w6.heap.size) := ⟨HTB.out.size, hb.size⟩
          clear hb ho
          obtain ⟨r0, r1, r2, r3, r4, r5, r6, r7⟩ := box8 HT6.out.res
          obtain ⟨s0, s1, s2, s3, s4, s5, s6, s7⟩ := box_froz HT6.out.res
          go_wp2
          refine bodyPost_ret (by simp [results, Try.results29, go_sem, r0, r1, r2, r3, r4, r5, r6, r7]; try rfl) rfl ?_
          rw [HR.out]
          refine ⟨⟨h2, rfl, ?_⟩, below8 HT6.out.bel (by omega) _ _ _ _ _ _ _ _⟩
          have hout : Out (fun b => b = w.heap.size + 1) w6 _ := out8 (F := fun b => b = w.heap.size + 1) (g := w.heap.size + 1) (Out.refl _ w6) rfl (.int .i64 t.kind) (.string t.pre) (.string t.loc) (.string t.uri) (.slice h2.da t.ds.length h2.dc) (.slice h2.aa t.ats.length h2.ac) (.slice h2.ka t.kids.length h2.kc) (.string t.text)
          exact (HO6.out.out hout (fun b hb e => by have := hb.1; have := HS6.out; omega)).sub (trees.Rng.wide (by have := HS6.out; omega) hout.size)
        · go_wp2_with fail
          refine Calls.mono (in_is HIB.out _) ?_
          rintro e w9 ⟨rfl, hw9⟩
          have hw9' := hw9.symm
          clear hw9
          subst hw9'
          go_wp2_with fail
          have HTB : Hid _ := HT5.out.below ((Below.refl _ _).alloc (Nat.le_refl _) (.cells (vals x h') 28))
          simp only [vals, hk] at HTB
          generalize w5.alloc (.cells #[.int .i64 0, .string x.pre, .string x.loc, .string x.uri, .slice h'.da x.ds.length h'.dc, .slice h'.aa x.ats.length h'.ac, .slice h'.ka x.kids.length h'.kc, .string x.text] 28) = WB at HTB ⊢
          refine Calls.mono (HC.out _ HTB.out.bel) ?_
          rintro e w6 ⟨⟨h2, rfl, ho⟩, hb⟩
          clear m0 m1 m2 m3 m4 m5 m6 m7
          have HT6 : Hid _ := HTB.out.below hb
          have HO6 : Hid (OwnN w6 t h2 (Rng WB w6)) := ho
          have HS6 : Hid (w.heap.size + 2 ≤ WB.heap.size ∧ WB.heap.size ≤ w6.heap.size) := ⟨HTB.out.size, hb.size⟩
          clear hb ho
          obtain ⟨r0, r1, r2, r3, r4, r5, r6, r7⟩ := box8 HT6.out.res
          obtain ⟨s0, s1, s2, s3, s4, s5, s6, s7⟩ := box_froz HT6.out.res
          go_wp2
          refine bodyPost_ret (by simp [results, Try.results29, go_sem, r0, r1, r2, r3, r4, r5, r6, r7]; try rfl) rfl ?_
          rw [HR.out]
          refine ⟨⟨h2, rfl, ?_⟩, below8 HT6.out.bel (by omega) _ _ _ _ _ _ _ _⟩
          have hout : Out (fun b => b = w.heap.size + 1) w6 _ := out8 (F := fun b => b = w.heap.size + 1) (g := w.heap.size + 1) (Out.refl _ w6) rfl (.int .i64 t.kind) (.string t.pre) (.string t.loc) (.string t.uri) (.slice h2.da t.ds.length h2.dc) (.slice h2.aa t.ats.length h2.ac) (.slice h2.ka t.kids.length h2.kc) (.string t.text)
          exact (HO6.out.out hout (fun b hb e => by have := hb.1; have := HS6.out; omega)).sub (trees.Rng.wide (by have := HS6.out; omega) hout.size)
    · have HR : Hid _ := ins_no (i := i) (L := L) HX.out (fun e => hk e.1)
      have hk1 : ¬ x.kind = 1 := fun e => hk (.inl e)
      have hk0 : ¬ x.kind = 0 := fun e => hk (.inr e)
      clear HK hk
      go_wp2_with fail
      have HTB : Hid _ := HT5.out.below ((Below.refl _ _).alloc (Nat.le_refl _) (.cells (vals x h') 28))
      simp only [vals] at HTB
      generalize w5.alloc (.cells #[.int .i64 x.kind, .string x.pre, .string x.loc, .string x.uri, .slice h'.da x.ds.length h'.dc, .slice h'.aa x.ats.length h'.ac, .slice h'.ka x.kids.length h'.kc, .string x.text] 28) = WB at HTB ⊢
      refine Calls.mono (HC.out _ HTB.out.bel) ?_
      rintro e w6 ⟨⟨h2, rfl, ho⟩, hb⟩
      clear m0 m1 m2 m3 m4 m5 m6 m7
      have HT6 : Hid _ := HTB.out.below hb
      have HO6 : Hid (OwnN w6 t h2 (Rng WB w6)) := ho
      have HS6 : Hid (w.heap.size + 2 ≤ WB.heap.size ∧ WB.heap.size ≤ w6.heap.size) := ⟨HTB.out.size, hb.size⟩
      clear hb ho
      obtain ⟨r0, r1, r2, r3, r4, r5, r6, r7⟩ := box8 HT6.out.res
      obtain ⟨s0, s1, s2, s3, s4, s5, s6, s7⟩ := box_froz HT6.out.res
      go_wp2
      refine bodyPost_ret (by simp [results, Try.results29, go_sem, r0, r1, r2, r3, r4, r5, r6, r7]; try rfl) rfl ?_
      rw [HR.out]
      refine ⟨⟨h2, rfl, ?_⟩, below8 HT6.out.bel (by omega) _ _ _ _ _ _ _ _⟩
      have hout : Out (fun b => b = w.heap.size + 1) w6 _ := out8 (F := fun b => b = w.heap.size + 1) (g := w.heap.size + 1) (Out.refl _ w6) rfl (.int .i64 t.kind) (.string t.pre) (.string t.loc) (.string t.uri) (.slice h2.da t.ds.length h2.dc) (.slice h2.aa t.ats.length h2.ac) (.slice h2.ka t.kids.length h2.kc) (.string t.text)
      exact (HO6.out.out hout (fun b hb e => by have := hb.1; have := HS6.out; omega)).sub (trees.Rng.wide (by have := HS6.out; omega) hout.size)
end Go.Proofs.Ytpejcblmglbjfaa.paths
