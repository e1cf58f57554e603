/-
  What the program's PutAt and InsertAt answer.
-/
import Derived.Test.YtpejcblmglbjfaaImplPut
import Derived.Test.YtpejcblmglbjfaaSpecIns
namespace Go.Proofs.Ytpejcblmglbjfaa.paths
open Go.ChangeShapes Go.WideShapes Go.ChangeAt Go.RowKit
open trees (Tree Hdr vals noTree kid nsz nszs tsize ksize NodeIn NodesAt OwnN OwnL Rng Out Bset Inc Apart T3 box8 box_froz TH th0 cellsN trees1 mergeL MergeOk set8 CopyOk)
open ints (IntsAt int0 okI)
set_option linter.unusedVariables false
theorem place_below {w w' : World} (hb : Below w.heap.size w w') {x : Tree} {hx : Hdr} {b' off' : Nat} : ∀ (p : List Int) (t : Tree) (h : Hdr) (b off : Nat), Place w t h b off p x hx b' off' → Place w' t h b off p x hx b' off'
  | [], t, h, b, off, hp => hp
  | i :: p, t, h, b, off, hp => by
    obtain ⟨hi, rb, ro, hk, ha, hlt, hc, hp⟩ := hp
    exact ⟨hi, rb, ro, hk, ha, Nat.lt_of_lt_of_le hlt hb.size, fun j hj => (hb.cell (p := ⟨rb, ro + i.toNat * 8 + j, none⟩) hlt).trans (hc j hj), place_below hb p _ _ _ _ hp⟩
/-- The block of a place. -/
theorem place_blk {w : World} {x : Tree} {hx : Hdr} {b' off' : Nat} {p : List Int} {t : Tree} {h : Hdr} {F : Bset} {b off : Nat} {cur : Array Value} {ty : TypeId} (hn : OwnN w t h F) (hb : w.heap[b]? = some (.cells cur ty (0, 0))) (hs : off + 8 ≤ cur.size) (hp : Place w t h b off p x hx b' off') : (b' = b ∨ F b') ∧ ∃ cur ty, w.heap[b']? = some (.cells cur ty (0, 0)) ∧ off' + 8 ≤ cur.size := by
  cases p with
  | nil =>
    obtain ⟨-, -, rfl, rfl⟩ := hp
    exact ⟨.inl rfl, cur, ty, hb, hs⟩
  | cons i p =>
    have := place_in p i t h F b off hn hp
    exact ⟨.inr this.1, this.2⟩
theorem Turned.below {w w1 w2 : World} {b' off' : Nat} {v : Value} (h : Turned w w1 b' off' v) (hb : Below w1.heap.size w1 w2) : Turned w w2 b' off' v :=
  ⟨h.out.trans (Out.of_below hb), fun cur ty hc => (hb.block _ (pairs.lt_heap (h.blk cur ty hc))).trans (h.blk cur ty hc)⟩
theorem PutKids.below {x : Tree} {b' off' f g : Nat} {L : List Tree} {w w1 w2 : World} (h : PutKids x b' off' f g L w w1) (hb : Below w1.heap.size w1 w2) : PutKids x b' off' f g L w w2 := by
  obtain ⟨ka, c, h1, h2, h3⟩ := h
  exact ⟨ka, c, h1, h2.below hb, (OwnL.below h3 hb).sub (fun k hk => ⟨hk.1, Nat.lt_of_lt_of_le hk.2 hb.size⟩)⟩
/-- The box of an owned node, one of whose places is turned. -/
theorem turn_box {z z' : World} {t : Tree} {h1 : Hdr} {F : Bset} {q : Nat} {ty : TypeId} {P : List Int} {y : Tree} {hy : Hdr} {b' off' f g : Nat} {L : List Tree} (hn : OwnN z t h1 F) (hq : ¬ F q) (hF : ∀ b, F b → b < z.heap.size) (hb : z.heap[q]? = some (.cells (vals t h1) ty (0, 0))) (hp : Place z t h1 q 0 P y hy b' off') (hat : atT t P = some y) (hk : PutKids y b' off' f g L z z') (hl : nszs (cutIn y.kids f g L) ≤ 1048576) :
    ∃ h', OwnN z' (putT t P f g L) h' (fun k => F k ∨ (z.heap.size ≤ k ∧ k < z'.heap.size)) ∧ z'.heap[q]? = some (.cells (vals (putT t P f g L) h') ty (0, 0)) ∧ Out (fun k => k = q ∨ F k) z z' := by
  obtain ⟨ka, c, hc, ht, hM⟩ := hk
  have hml : (mergeL (cutIn y.kids f g L)).length ≤ maxLen := by
    have h1 := nszs_merge (cutIn y.kids f g L)
    have h2 := trees.nszs_eq (mergeL (cutIn y.kids f g L))
    unfold maxLen
    omega
  have h8 : (vals t h1).size = 8 := rfl
  obtain ⟨h', cur', o1, o2, o3, o4, o5⟩ := turn_own (mergeL (cutIn y.kids f g L)) ka c (fun k => z.heap.size ≤ k ∧ k < z'.heap.size) z z' b' off' y hy ht hM hc hml P t h1 F q 0 (vals t h1) ty hn hq (fun b hb1 hb2 => by have := hF b hb1; have := hb2.1; omega) hb (by omega) (fun j hj => by rw [Nat.zero_add]) hp
  rw [← put_k P t y f g L hat] at o1 o5
  have h9 : (vals (putT t P f g L) h').size = 8 := rfl
  have hcur : cur' = vals (putT t P f g L) h' := by
    apply Array.ext_getElem?
    intro j
    by_cases hj : j < 8
    · have := o5 j hj
      rwa [Nat.zero_add] at this
    · rw [Array.getElem?_eq_none (by omega), Array.getElem?_eq_none (by omega)]
  subst hcur
  refine ⟨h', o1, o2, ht.out.mono (fun k e => ?_)⟩
  subst e
  exact (place_blk hn hb (by omega) hp).1
set_option maxRecDepth 100000 in
set_option maxHeartbeats 16000000 in
theorem impl_putAt (t : Tree) (h : Hdr) (P : List Int) (a : Option Addr) (cap : Nat) (L : List Tree) (b : Option Addr) (cl : Nat) (w : World) (hz : nsz t + nszs L ≤ 1048576) (hcap : P.length ≤ cap) (hn : NodeIn w 0 t h) (hP : IntsAt w a P) (hL : NodesAt w 0 b L) :
    Calls Try.prog 25 #[.agg (vals t h), .slice a P.length cap, .slice b L.length cl] w fun e w' => AtAns (putR t P L) w w' e ∧ Below w.heap.size w w' := by
  have HT0 : Hid (T2 w _ (vals t h) _) := T2.new w (vals t h)
  have HC : Hid (∀ W, Below w.heap.size w W → CopyOk 52 t h W) := fun W hb => trees.copy_node 0 _ t h W (Nat.lt_succ_self _) (by omega) (hn.below hb)
  have HP : Hid (IntsAt w a P) := hP
  have HL : Hid (NodesAt w 0 b L) := hL
  have HZ : Hid (nsz t + nszs L ≤ 1048576) := hz
  unfold CopyOk at HC
  have hlen := hP.short
  unfold maxLen at hlen
  clear hn hP hL hz
  simp only [vals] at HT0 HC ⊢
  obtain ⟨W2, hW2⟩ : ∃ W2, (w.alloc (.cells #[.int .i64 t.kind, .string t.pre, .string t.loc, .string t.uri, .slice h.da t.ds.length h.dc, .slice h.aa t.ats.length h.ac, .slice h.ka t.kids.length h.kc, .string t.text] 28)).alloc (.cells #[.int .i64 0, .string ⟨#[]⟩, .string ⟨#[]⟩, .string ⟨#[]⟩, .slice none 0 0, .slice none 0 0, .slice none 0 0, .string ⟨#[]⟩] 28) = W2 := ⟨_, rfl⟩
  rw [hW2] at HT0
  obtain ⟨m0, m1, m2, m3, m4, m5, m6, m7⟩ := box8 HT0.out.par
  go_enter Try.func25, Try.ntmps25
  go_wp2_with fail
  refine Calls.mono (HC.out _ HT0.out.bel) ?_
  rintro e w5 ⟨⟨h1, rfl, ho⟩, hb⟩
  have HT5 : Hid _ := HT0.out.below hb
  have HO5 : Hid (OwnN w5 t h1 (Rng W2 w5)) := ho
  have HS5 : Hid (w.heap.size + 2 ≤ W2.heap.size ∧ W2.heap.size ≤ w5.heap.size) := ⟨HT0.out.size, hb.size⟩
  clear hb ho m0 m1 m2 m3 m4 m5 m6 m7 hW2 HC HT0
  have HTB : Hid _ := HT5.out.below ((Below.refl _ _).alloc (Nat.le_refl _) (.cells (vals t h1) 28))
  have HOB : Hid (OwnN (w5.alloc (.cells (vals t h1) 28)) t h1 (Rng W2 w5)) := HO5.out.below ((Below.refl _ _).alloc (Nat.le_refl _) _)
  have HBB : Hid ((w5.alloc (.cells (vals t h1) 28)).heap[w5.heap.size]? = some (.cells (vals t h1) 28 (0, 0))) := heap_alloc_new w5 _
  have HSB : Hid ((w5.alloc (.cells (vals t h1) 28)).heap.size = w5.heap.size + 1) := World.size_alloc _ _
  simp only [vals] at HTB HOB HBB HSB
  by_cases h0 : P.length = 0
  · have HR : Hid (putR t P L = (t, false)) := put_none h0
    rw [h0] at hcap ⊢
    have HTE : Hid _ := HTB.out
    have HOE : Hid _ := HOB.out
    have HFE : Hid (∀ b, Rng W2 w5 b → w.heap.size + 2 ≤ b ∧ b < (w5.alloc (.cells #[.int .i64 t.kind, .string t.pre, .string t.loc, .string t.uri, .slice h1.da t.ds.length h1.dc, .slice h1.aa t.ats.length h1.ac, .slice h1.ka t.kids.length h1.kc, .string t.text] 28)).heap.size) := fun b hb => by have := hb.1; have := hb.2; have := HS5.out; have := HSB.out; omega
    clear HTB HOB HSB HT5 HO5
    obtain ⟨n0, n1, n2, n3, n4, n5, n6, n7⟩ := box8 HBB.out
    obtain ⟨r0, r1, r2, r3, r4, r5, r6, r7⟩ := box8 HTE.out.res
    obtain ⟨s0, s1, s2, s3, s4, s5, s6, s7⟩ := box_froz HTE.out.res
    go_wp2
    refine bodyPost_ret (by simp [results, Try.results25, go_sem, r0, r1, r2, r3, r4, r5, r6, r7]; try rfl) rfl ?_
    rw [HR.out]
    refine ⟨⟨h1, rfl, ?_⟩, below8 HTE.out.bel (by omega) _ _ _ _ _ _ _ _⟩
    have hout : Out (fun b => b = w.heap.size + 1) (w5.alloc (.cells #[.int .i64 t.kind, .string t.pre, .string t.loc, .string t.uri, .slice h1.da t.ds.length h1.dc, .slice h1.aa t.ats.length h1.ac, .slice h1.ka t.kids.length h1.kc, .string t.text] 28)) _ := out8 (F := fun b => b = w.heap.size + 1) (g := w.heap.size + 1) (Out.refl _ (w5.alloc (.cells #[.int .i64 t.kind, .string t.pre, .string t.loc, .string t.uri, .slice h1.da t.ds.length h1.dc, .slice h1.aa t.ats.length h1.ac, .slice h1.ka t.kids.length h1.kc, .string t.text] 28))) rfl (.int .i64 t.kind) (.string t.pre) (.string t.loc) (.string t.uri) (.slice h1.da t.ds.length h1.dc) (.slice h1.aa t.ats.length h1.ac) (.slice h1.ka t.kids.length h1.kc) (.string t.text)
    exact (HOE.out.out hout (fun b hb e => by have := HFE.out b hb; omega)).sub (fun b hb => by have := HFE.out b hb; have := hout.size; exact ⟨by omega, by omega⟩)
  · obtain ⟨n, hn⟩ : ∃ n, P.length = n + 1 := ⟨P.length - 1, by omega⟩
    obtain ⟨pb, poff, hpa, hplt, hpc⟩ := HP.out.row (by omega)
    have hpn := hpc n (by omega)
    have HNL : Hid (P.length = n + 1) := hn
    subst hpa
    rw [hn] at hcap hlen ⊢
    clear hn h0 hpc
    go_wp2_with fail
    generalize w5.alloc (.cells #[.int .i64 t.kind, .string t.pre, .string t.loc, .string t.uri, .slice h1.da t.ds.length h1.dc, .slice h1.aa t.ats.length h1.ac, .slice h1.ka t.kids.length h1.kc, .string t.text] 28) = WB at HTB HOB HBB HSB ⊢
    have HST : Hid (∀ z, Below WB.heap.size WB z → Calls Try.prog 51 #[.pointer (some ⟨w5.heap.size, 0, none⟩), .slice (some ⟨pb, poff, none⟩) P.length cap] z fun e w' => StandAns z 0 t h1 w5.heap.size 0 P e ∧ w' = z) := fun z hb =>
      stands_at 0 t h1 w5.heap.size 0 P (some ⟨pb, poff, none⟩) cap z (by have := HZ.out; omega) (HOB.out.in.below hb) (cells_box (ty := 28) ((hb.block _ (by have := HSB.out; omega)).trans HBB.out)) (Nat.lt_of_lt_of_le (by have := HSB.out; omega) hb.size) (HP.out.below (Nat.le_refl _) (HTB.out.bel.trans (hb.mono HTB.out.bel.size)))
    rw [HNL.out] at HST
    refine Calls.mono (HST.out _ (Below.refl _ _)) ?_
    rintro e w9 ⟨hans, hw9⟩
    have hw9' := hw9.symm
    clear hw9
    subst hw9'
    have HAN : Hid _ := hans
    clear hans HST
    rcases HAN.out with ⟨hat, rfl⟩ | ⟨x, hx, b', off', hat, rfl, hpl, hc8, hnx, hblt⟩
    · have HR : Hid (putR t P L = (t, false)) := put_not hat
      clear hat
      have HTE : Hid _ := HTB.out
      have HOE : Hid _ := HOB.out
      have HFE : Hid (∀ b, Rng W2 w5 b → w.heap.size + 2 ≤ b ∧ b < WB.heap.size) := fun b hb => by have := hb.1; have := hb.2; have := HS5.out; have := HSB.out; omega
      clear HTB HOB HSB HT5 HO5
      obtain ⟨n0, n1, n2, n3, n4, n5, n6, n7⟩ := box8 HBB.out
      obtain ⟨r0, r1, r2, r3, r4, r5, r6, r7⟩ := box8 HTE.out.res
      obtain ⟨s0, s1, s2, s3, s4, s5, s6, s7⟩ := box_froz HTE.out.res
      go_wp2
      refine bodyPost_ret (by simp [results, Try.results25, go_sem, r0, r1, r2, r3, r4, r5, r6, r7]; try rfl) rfl ?_
      rw [HR.out]
      refine ⟨⟨h1, rfl, ?_⟩, below8 HTE.out.bel (by omega) _ _ _ _ _ _ _ _⟩
      have hout : Out (fun b => b = w.heap.size + 1) (WB) _ := out8 (F := fun b => b = w.heap.size + 1) (g := w.heap.size + 1) (Out.refl _ (WB)) rfl (.int .i64 t.kind) (.string t.pre) (.string t.loc) (.string t.uri) (.slice h1.da t.ds.length h1.dc) (.slice h1.aa t.ats.length h1.ac) (.slice h1.ka t.kids.length h1.kc) (.string t.text)
      exact (HOE.out.out hout (fun b hb e => by have := HFE.out b hb; omega)).sub (fun b hb => by have := HFE.out b hb; have := hout.size; exact ⟨by omega, by omega⟩)
    · obtain ⟨y, hy, hk0, hk1⟩ := at_last (by rw [HNL.out]; exact Nat.succ_pos n) hat
      rw [HNL.out, Nat.add_sub_cancel] at hy hk0 hk1
      have HR : Hid _ := put_some (L := L) HNL.out hat
      have hkb : int0 P n ≤ 1048576 ∧ y.kids.length ≤ 1048576 := by
        have h1 := at_nsz _ _ _ hy
        have h2 := HZ.out
        have h3 := trees.nszs_eq y.kids
        have h4 := kids_nsz y
        omega
      obtain ⟨k, hk⟩ : ∃ k : Nat, int0 P n = k := ⟨(int0 P n).toNat, by omega⟩
      rw [hk, Int.toNat_natCast] at HR
      rw [hk] at hpn hk0 hk1 hkb
      have HYZ : Hid (nszs (cutIn y.kids k (k + 1) L) ≤ 1048576) := by
        have h1 := at_nsz _ _ _ hy
        have h2 := HZ.out
        have h4 := kids_nsz y
        have h5 := nszs_cut y.kids (f := k) (g := k + 1) (by omega) L
        show _ ≤ _
        omega
      have HLL : Hid (L.length ≤ 1048576) := by have := HZ.out; have := trees.nszs_eq L; show _ ≤ _; omega
      have hkl : k + 1 ≤ y.kids.length := by omega
      have hkb2 : (k : Int) ≤ 1048576 := hkb.1
      have HYK : Hid (y.kids.length ≤ 1048576) := hkb.2
      have HYA : Hid (atT t (P.take n) = some y) := hy
      have hQl : (P.take n).length = n := by rw [List.length_take, HNL.out]; omega
      have HST : Hid (∀ z, Below WB.heap.size WB z → Calls Try.prog 51 #[.pointer (some ⟨w5.heap.size, 0, none⟩), .slice (some ⟨pb, poff, none⟩) (P.take n).length cap] z fun e w' => StandAns z 0 t h1 w5.heap.size 0 (P.take n) e ∧ w' = z) := fun z hb =>
        stands_at 0 t h1 w5.heap.size 0 (P.take n) (some ⟨pb, poff, none⟩) cap z (by have := HZ.out; omega) (HOB.out.in.below hb) (cells_box (ty := 28) ((hb.block _ (by have := HSB.out; omega)).trans HBB.out)) (Nat.lt_of_lt_of_le (by have := HSB.out; omega) hb.size) ((ints_take HP.out (by rw [HNL.out]; omega)).below (Nat.le_refl _) (HTB.out.bel.trans (hb.mono HTB.out.bel.size)))
      rw [hQl] at HST
      clear hy hk0 hk1 hk hkb hat hpl hc8 hnx hblt HAN hQl
      go_wp2_with fail
      have hcap2 : n ≤ cap := by omega
      have hmp : ∀ W, Below w.heap.size w W → W.cell? ⟨pb, poff + n, none⟩ = _ := fun W hb => old_cell hb hpn
      apply quiets.wp_region_mask_dom (fun W => Below w.heap.size w W) (fun _ _ h hb => h.trans (hb.mono h.size)) HTB.out.bel [true, true, true, false, true, true, true, true, true, true, true, true, true, true, false] (hm := by kernel_rfl) (hB := by kernel_rfl) (hwalk := ?walk1) (htail := ?tail1)
      case walk1 =>
        intro C hC0 hC1
        simp only [quiets.onB, cond_true, cond_false]
        repeat (go_big_quiet_step ((first | (intro hq; rfl) | (intro hq; simp [go_sem, hmp _ (hC0 _ hq)]; rfl) | (intro hq; simp [go_sem, hcap2]; rfl))))
        exact wpQuiet_nil rfl
      clear hmp
      intro z1 hb
      have HD1 : Hid (Below WB.heap.size WB z1) := hb
      simp only [quiets.offB, cond_true, cond_false]
      clear hb
      refine quiets.tail_cons fun z2 hb => ?_
      have HD2 : Hid (Below WB.heap.size WB z2) := HD1.out.trans (hb.mono HD1.out.size)
      clear hb HD1
      go_wp2_with fail
      refine Calls.mono (HST.out _ HD2.out) ?_
      rintro e w9 ⟨hans, hw9⟩
      have hw9' := hw9.symm
      clear hw9
      subst hw9'
      have HAN : Hid _ := hans
      clear hans HST
      obtain ⟨hx, b', off', rfl, hpl, hc8, hnx, hblt⟩ : ∃ hx b' off', e = .returned (.pointer (some ⟨b', off', none⟩)) ∧ Place z2 t h1 w5.heap.size 0 (P.take n) y hx b' off' ∧ Cells8 z2 b' off' y hx ∧ NodeIn z2 0 y hx ∧ b' < z2.heap.size := by
        rcases HAN.out with ⟨hat, -⟩ | ⟨x, hx, b', off', hat, he, h2, h3, h4, h5⟩
        · rw [HYA.out] at hat
          cases hat
        · rw [HYA.out] at hat
          cases hat
          exact ⟨hx, b', off', he, h2, h3, h4, h5⟩
      have HB2 : Hid (Below w.heap.size w z2) := HTB.out.bel.trans (HD2.out.mono HTB.out.bel.size)
      have HPL : Hid (Place z2 t h1 w5.heap.size 0 (P.take n) y hx b' off' ∧ Cells8 z2 b' off' y hx ∧ NodeIn z2 0 y hx ∧ b' < z2.heap.size) := ⟨hpl, hc8, hnx, hblt⟩
      clear hpl hc8 hnx hblt HAN
      go_wp2_with fail
      refine ⟨HB2.out, ?_⟩
      refine quiets.tail_cons fun z3 hb => ?_
      have HD3 : Hid (Below WB.heap.size WB z3) := HD2.out.trans (hb.mono HD2.out.size)
      have HB3 : Hid (Below w.heap.size w z3) := HB2.out.trans (hb.mono HB2.out.size)
      have HP3 : Hid (Place z3 t h1 w5.heap.size 0 (P.take n) y hx b' off') := place_below hb _ _ _ _ _ HPL.out.1
      have hbox : z3.heap[w5.heap.size]? = some (.cells (vals t h1) 28 (0, 0)) := (HD3.out.block _ (by have := HSB.out; omega)).trans HBB.out
      have HBX : Hid (z3.heap[w5.heap.size]? = some (.cells (vals t h1) 28 (0, 0))) := hbox
      have HO3 : Hid (OwnN z3 t h1 (Rng W2 w5)) := HOB.out.below HD3.out
      have hpb := place_blk HO3.out hbox (by show 8 ≤ 8; exact Nat.le_refl _) HP3.out
      have HPB : Hid (b' = w5.heap.size ∨ Rng W2 w5 b') := hpb.1
      have HPK : Hid _ := put_kids y hx b' off' k (k + 1) L b cl z3 HYZ.out HYK.out HLL.out (Nat.le_succ k) hkl (fun j hj => (hb.cell (p := ⟨b', off' + j, none⟩) HPL.out.2.2.2).trans (HPL.out.2.1 j hj)) hpb.2 (HPL.out.2.2.1.below hb) (HL.out.below HB3.out)
      clear hb hbox hpb HPL HD2 HB2
      go_wp2_with fail
      refine Calls.mono HPK.out ?_
      rintro e z4 ⟨rfl, hpk⟩
      have HK4 : Hid (PutKids y b' off' k (k + 1) L z3 z4) := hpk
      have HB4 : Hid (Below w.heap.size w z4) := by
        obtain ⟨ka, c, -, ht, -⟩ := hpk
        refine ht.out.below HB3.out (fun k e => ?_) HB3.out.size
        subst e
        have h1 := HS5.out
        rcases HPB.out with e | e
        · omega
        · have := e.1; omega
      clear hpk HPK
      go_wp2_with fail
      refine ⟨HB4.out, ?_⟩
      refine quiets.tail_nil fun z5 hb => ?_
      have HB5 : Hid (Below w.heap.size w z5) := HB4.out.trans (hb.mono HB4.out.size)
      have HK5 : Hid (PutKids y b' off' k (k + 1) L z3 z5) := HK4.out.below hb
      clear hb HB4 HK4
      obtain ⟨h2, hown, hbx, hot⟩ := turn_box (L := L) HO3.out (fun e => by have := e.2; omega) (fun b hb => by have := hb.2; have := HD3.out.size; have := HSB.out; omega) HBX.out HP3.out HYA.out HK5.out HYZ.out
      obtain ⟨yt, hyt⟩ : ∃ yt, putT t (P.take n) k (k + 1) L = yt := ⟨_, rfl⟩
      rw [hyt] at hown hbx HR
      have HOE : Hid _ := hown
      have hne : ∀ q, q < w.heap.size + 2 → ¬ (q = w5.heap.size ∨ Rng W2 w5 q) := fun q hq e => by
        have h1 := HS5.out
        rcases e with e | e
        · omega
        · have := e.1; omega
      have hlt3 : w.heap.size + 2 ≤ z3.heap.size := by have := HD3.out.size; have := HSB.out; have := HS5.out; omega
      have HTE : Hid (T2 w z5 _ _) := ⟨(hot.block w.heap.size (by omega) (hne _ (by omega))).trans (HTB.out.below HD3.out).par, (hot.block (w.heap.size + 1) (by omega) (hne _ (by omega))).trans (HTB.out.below HD3.out).res, HB5.out⟩
      have HFE : Hid (∀ b, (Rng W2 w5 b ∨ (z3.heap.size ≤ b ∧ b < z5.heap.size)) → w.heap.size + 2 ≤ b ∧ b < z5.heap.size) := fun b hb => by
        have h1 := HS5.out
        have h2 := HSB.out
        have h3 := HD3.out.size
        have h4 := hot.size
        rcases hb with hb | hb
        · have := hb.1; have := hb.2; omega
        · omega
      have HBE : Hid (z5.heap[w5.heap.size]? = _) := hbx
      simp only [vals] at HBE
      clear hown hbx hot hyt HTB HOB HSB HO3 HD3 HB3 HP3 HBX HPB HK5 HB5
      obtain ⟨n0, n1, n2, n3, n4, n5, n6, n7⟩ := box8 HBE.out
      obtain ⟨r0, r1, r2, r3, r4, r5, r6, r7⟩ := box8 HTE.out.res
      obtain ⟨s0, s1, s2, s3, s4, s5, s6, s7⟩ := box_froz HTE.out.res
      go_wp2
      refine bodyPost_ret (by simp [results, Try.results25, go_sem, r0, r1, r2, r3, r4, r5, r6, r7]; try rfl) rfl ?_
      rw [HR.out]
      refine ⟨⟨h2, rfl, ?_⟩, below8 HTE.out.bel (by omega) _ _ _ _ _ _ _ _⟩
      have hout : Out (fun b => b = w.heap.size + 1) (z5) _ := out8 (F := fun b => b = w.heap.size + 1) (g := w.heap.size + 1) (Out.refl _ (z5)) rfl (.int .i64 yt.kind) (.string yt.pre) (.string yt.loc) (.string yt.uri) (.slice h2.da yt.ds.length h2.dc) (.slice h2.aa yt.ats.length h2.ac) (.slice h2.ka yt.kids.length h2.kc) (.string yt.text)
      exact (HOE.out.out hout (fun b hb e => by have := HFE.out b hb; omega)).sub (fun b hb => by have := HFE.out b hb; have := hout.size; exact ⟨by omega, by omega⟩)
def mayB (x : Tree) : Bool := decide (x.kind = 1 ∨ x.kind = 0)
set_option maxRecDepth 100000 in
set_option maxHeartbeats 4000000 in
theorem may_have (x : Tree) (hx : Hdr) (w : World) : Calls Try.prog 65 #[.agg (vals x hx)] w fun e w' => e = .returned (.bool (mayB x)) ∧ Below w.heap.size w w' := by
  simp only [vals]
  go_enter Try.func65, Try.ntmps65
  by_cases h1 : x.kind = 1
  · have hm : mayB x = true := decide_eq_true (.inl h1)
    go_wp2
    go_ret
    exact ⟨by rw [hm]; rfl, (Below.refl _ _).alloc (Nat.le_refl _) _⟩
  · by_cases h0 : x.kind = 0
    · have hm : mayB x = true := decide_eq_true (.inr h0)
      go_wp2
      go_ret
      exact ⟨by rw [hm]; rfl, (Below.refl _ _).alloc (Nat.le_refl _) _⟩
    · have hm : mayB x = false := decide_eq_false (fun e => e.elim h1 h0)
      go_wp2
      go_ret
      exact ⟨by simp [hm, h1, h0], (Below.refl _ _).alloc (Nat.le_refl _) _⟩
theorem may_is {x : Tree} {c : Bool} (hc : mayB x = c) (hx : Hdr) (w : World) : Calls Try.prog 65 #[.agg (vals x hx)] w fun e w' => e = .returned (.bool c) ∧ Below w.heap.size w w' := by rw [← hc]; exact may_have x hx w
set_option maxRecDepth 100000 in
set_option maxHeartbeats 16000000 in
theorem impl_insertAt (t : Tree) (h : Hdr) (P : List Int) (a : Option Addr) (cap : Nat) (i : Int) (L : List Tree) (b : Option Addr) (cl : Nat) (w : World) (hz : nsz t + nszs L ≤ 1048576) (hcap : P.length ≤ cap) (hi : okI i) (hn : NodeIn w 0 t h) (hP : IntsAt w a P) (hL : NodesAt w 0 b L) :
    Calls Try.prog 28 #[.agg (vals t h), .slice a P.length cap, .int .i64 i, .slice b L.length cl] w fun e w' => AtAns (insR t P i L) w w' e ∧ Below w.heap.size w w' := by
  have HT0 : Hid (T2 w _ (vals t h) _) := T2.new w (vals t h)
  have HC : Hid (∀ W, Below w.heap.size w W → CopyOk 52 t h W) := fun W hb => trees.copy_node 0 _ t h W (Nat.lt_succ_self _) (by omega) (hn.below hb)
  have HP : Hid (IntsAt w a P) := hP
  have HL : Hid (NodesAt w 0 b L) := hL
  have HZ : Hid (nsz t + nszs L ≤ 1048576) := hz
  unfold CopyOk at HC
  have hlen := hP.short
  unfold maxLen at hlen
  unfold okI at hi
  clear hn hP hL hz hcap
  simp only [vals] at HT0 HC ⊢
  obtain ⟨W2, hW2⟩ : ∃ W2, (w.alloc (.cells #[.int .i64 t.kind, .string t.pre, .string t.loc, .string t.uri, .slice h.da t.ds.length h.dc, .slice h.aa t.ats.length h.ac, .slice h.ka t.kids.length h.kc, .string t.text] 28)).alloc (.cells #[.int .i64 0, .string ⟨#[]⟩, .string ⟨#[]⟩, .string ⟨#[]⟩, .slice none 0 0, .slice none 0 0, .slice none 0 0, .string ⟨#[]⟩] 28) = W2 := ⟨_, rfl⟩
  rw [hW2] at HT0
  obtain ⟨m0, m1, m2, m3, m4, m5, m6, m7⟩ := box8 HT0.out.par
  go_enter Try.func28, Try.ntmps28
  go_wp2_with fail
  refine Calls.mono (HC.out _ HT0.out.bel) ?_
  rintro e w5 ⟨⟨h1, rfl, ho⟩, hb⟩
  have HT5 : Hid _ := HT0.out.below hb
  have HO5 : Hid (OwnN w5 t h1 (Rng W2 w5)) := ho
  have HS5 : Hid (w.heap.size + 2 ≤ W2.heap.size ∧ W2.heap.size ≤ w5.heap.size) := ⟨HT0.out.size, hb.size⟩
  clear hb ho m0 m1 m2 m3 m4 m5 m6 m7 hW2 HC HT0
  have HTB : Hid _ := HT5.out.below ((Below.refl _ _).alloc (Nat.le_refl _) (.cells (vals t h1) 28))
  have HOB : Hid (OwnN (w5.alloc (.cells (vals t h1) 28)) t h1 (Rng W2 w5)) := HO5.out.below ((Below.refl _ _).alloc (Nat.le_refl _) _)
  have HBB : Hid ((w5.alloc (.cells (vals t h1) 28)).heap[w5.heap.size]? = some (.cells (vals t h1) 28 (0, 0))) := heap_alloc_new w5 _
  have HSB : Hid ((w5.alloc (.cells (vals t h1) 28)).heap.size = w5.heap.size + 1) := World.size_alloc _ _
  simp only [vals] at HTB HOB HBB HSB
  go_wp2_with fail
  generalize w5.alloc (.cells #[.int .i64 t.kind, .string t.pre, .string t.loc, .string t.uri, .slice h1.da t.ds.length h1.dc, .slice h1.aa t.ats.length h1.ac, .slice h1.ka t.kids.length h1.kc, .string t.text] 28) = WB at HTB HOB HBB HSB ⊢
  have HST : Hid (∀ z, Below WB.heap.size WB z → Calls Try.prog 51 #[.pointer (some ⟨w5.heap.size, 0, none⟩), .slice a P.length cap] z fun e w' => StandAns z 0 t h1 w5.heap.size 0 P e ∧ w' = z) := fun z hb =>
    stands_at 0 t h1 w5.heap.size 0 P a cap z (by have := HZ.out; omega) (HOB.out.in.below hb) (cells_box (ty := 28) ((hb.block _ (by have := HSB.out; omega)).trans HBB.out)) (Nat.lt_of_lt_of_le (by have := HSB.out; omega) hb.size) (HP.out.below (Nat.le_refl _) (HTB.out.bel.trans (hb.mono HTB.out.bel.size)))
  refine Calls.mono (HST.out _ (Below.refl _ _)) ?_
  rintro e w9 ⟨hans, hw9⟩
  have hw9' := hw9.symm
  clear hw9
  subst hw9'
  have HAN : Hid _ := hans
  clear hans HST
  rcases HAN.out with ⟨hat, rfl⟩ | ⟨y, hx, b', off', hat, rfl, hpl, hc8, hnx, hblt⟩
  · have HR : Hid (insR t P i L = (t, false)) := ins_not hat
    clear hat
    have HTE : Hid _ := HTB.out
    have HOE : Hid _ := HOB.out
    have HFE : Hid (∀ b, Rng W2 w5 b → w.heap.size + 2 ≤ b ∧ b < WB.heap.size) := fun b hb => by have := hb.1; have := hb.2; have := HS5.out; have := HSB.out; omega
    clear HTB HOB HSB HT5 HO5
    obtain ⟨n0, n1, n2, n3, n4, n5, n6, n7⟩ := box8 HBB.out
    obtain ⟨r0, r1, r2, r3, r4, r5, r6, r7⟩ := box8 HTE.out.res
    obtain ⟨s0, s1, s2, s3, s4, s5, s6, s7⟩ := box_froz HTE.out.res
    go_wp2
    refine bodyPost_ret (by simp [results, Try.results28, go_sem, r0, r1, r2, r3, r4, r5, r6, r7]; try rfl) rfl ?_
    rw [HR.out]
    refine ⟨⟨h1, rfl, ?_⟩, below8 HTE.out.bel (by omega) _ _ _ _ _ _ _ _⟩
    have hout : Out (fun b => b = w.heap.size + 1) (WB) _ := out8 (F := fun b => b = w.heap.size + 1) (g := w.heap.size + 1) (Out.refl _ (WB)) rfl (.int .i64 t.kind) (.string t.pre) (.string t.loc) (.string t.uri) (.slice h1.da t.ds.length h1.dc) (.slice h1.aa t.ats.length h1.ac) (.slice h1.ka t.kids.length h1.kc) (.string t.text)
    exact (HOE.out.out hout (fun b hb e => by have := HFE.out b hb; omega)).sub (fun b hb => by have := HFE.out b hb; have := hout.size; exact ⟨by omega, by omega⟩)
  · have HYA : Hid (atT t P = some y) := hat
    have HPL : Hid (Place WB t h1 w5.heap.size 0 P y hx b' off' ∧ Cells8 WB b' off' y hx ∧ NodeIn WB 0 y hx ∧ b' < WB.heap.size) := ⟨hpl, hc8, hnx, hblt⟩
    have c0 := hc8 0 (by omega)
    have c1 := hc8 1 (by omega)
    have c2 := hc8 2 (by omega)
    have c3 := hc8 3 (by omega)
    have c4 := hc8 4 (by omega)
    have c5 := hc8 5 (by omega)
    have c6 := hc8 6 (by omega)
    have c7 := hc8 7 (by omega)
    simp only [Nat.add_zero, vals] at c0 c1 c2 c3 c4 c5 c6 c7
    simp at c0 c1 c2 c3 c4 c5 c6 c7
    have hyk : y.kids.length ≤ 1048576 := by
      have h1 := at_nsz _ _ _ hat
      have h2 := HZ.out
      have h3 := trees.nszs_eq y.kids
      have h4 := kids_nsz y
      omega
    clear hpl hc8 hnx hblt HAN hat
    by_cases hk : y.kind = 1 ∨ y.kind = 0
    · have HMY : Hid (∀ W, Calls Try.prog 65 #[.agg (vals y hx)] W fun e w' => e = .returned (.bool true) ∧ Below W.heap.size W w') := fun W => may_is (decide_eq_true hk) hx W
      simp only [vals] at HMY
      go_wp2_with fail
      refine Calls.mono (HMY.out _) ?_
      rintro e w7 ⟨rfl, hb⟩
      have HD7 : Hid (Below WB.heap.size WB w7) := hb
      have d6 := (hb.cell (p := ⟨b', off' + 6, none⟩) HPL.out.2.2.2).trans c6
      clear hb c0 c1 c2 c3 c4 c5 c6 c7
      by_cases h0 : i < 0
      · have HR : Hid _ := ins_no (i := i) (L := L) HYA.out (fun e => by have := e.2.1; omega)
        have HTE : Hid _ := HTB.out.below HD7.out
        have HOE : Hid (OwnN w7 t h1 (Rng W2 w5)) := HOB.out.below HD7.out
        have HFE : Hid (∀ b, Rng W2 w5 b → w.heap.size + 2 ≤ b ∧ b < w7.heap.size) := fun b hb => by have := hb.1; have := hb.2; have := HS5.out; have := HSB.out; have := HD7.out.size; omega
        have hbx7 : w7.heap[w5.heap.size]? = _ := (HD7.out.block _ (by have := HSB.out; omega)).trans HBB.out
        obtain ⟨n0, n1, n2, n3, n4, n5, n6, n7⟩ := box8 hbx7
        clear hbx7 HTB HOB HSB HT5 HO5 HD7
        obtain ⟨r0, r1, r2, r3, r4, r5, r6, r7⟩ := box8 HTE.out.res
        obtain ⟨s0, s1, s2, s3, s4, s5, s6, s7⟩ := box_froz HTE.out.res
        go_wp2
        refine bodyPost_ret (by simp [results, Try.results28, go_sem, r0, r1, r2, r3, r4, r5, r6, r7]; try rfl) rfl ?_
        rw [HR.out]
        refine ⟨⟨h1, rfl, ?_⟩, below8 HTE.out.bel (by omega) _ _ _ _ _ _ _ _⟩
        have hout : Out (fun b => b = w.heap.size + 1) (w7) _ := out8 (F := fun b => b = w.heap.size + 1) (g := w.heap.size + 1) (Out.refl _ (w7)) rfl (.int .i64 t.kind) (.string t.pre) (.string t.loc) (.string t.uri) (.slice h1.da t.ds.length h1.dc) (.slice h1.aa t.ats.length h1.ac) (.slice h1.ka t.kids.length h1.kc) (.string t.text)
        exact (HOE.out.out hout (fun b hb e => by have := HFE.out b hb; omega)).sub (fun b hb => by have := HFE.out b hb; have := hout.size; exact ⟨by omega, by omega⟩)
      · obtain ⟨k, rfl⟩ : ∃ k : Nat, i = k := ⟨i.toNat, by omega⟩
        by_cases hin : (k : Int) ≤ y.kids.length
        · have hkl : k ≤ y.kids.length := by omega
          have HR : Hid _ := ins_yes (L := L) HYA.out (⟨hk, by omega, hin⟩ : (y.kind = 1 ∨ y.kind = 0) ∧ 0 ≤ (k : Int) ∧ (k : Int) ≤ y.kids.length)
          rw [Int.toNat_natCast] at HR
          have HYK : Hid (y.kids.length ≤ 1048576) := hyk
          have HYZ : Hid (nszs (cutIn y.kids k k L) ≤ 1048576) := by
            have h1 := at_nsz _ _ _ HYA.out
            have h2 := HZ.out
            have h4 := kids_nsz y
            have h5 := nszs_cut y.kids (f := k) (g := k) (Nat.le_refl _) L
            show _ ≤ _
            omega
          have HLL : Hid (L.length ≤ 1048576) := by have := HZ.out; have := trees.nszs_eq L; show _ ≤ _; omega
          have HB3 : Hid (Below w.heap.size w w7) := HTB.out.bel.trans (HD7.out.mono HTB.out.bel.size)
          have HP3 : Hid (Place w7 t h1 w5.heap.size 0 P y hx b' off') := place_below HD7.out _ _ _ _ _ HPL.out.1
          have hbox : w7.heap[w5.heap.size]? = some (.cells (vals t h1) 28 (0, 0)) := (HD7.out.block _ (by have := HSB.out; omega)).trans HBB.out
          have HBX : Hid (w7.heap[w5.heap.size]? = some (.cells (vals t h1) 28 (0, 0))) := hbox
          have HO3 : Hid (OwnN w7 t h1 (Rng W2 w5)) := HOB.out.below HD7.out
          have hpb := place_blk HO3.out hbox (by show 8 ≤ 8; exact Nat.le_refl _) HP3.out
          have HPB : Hid (b' = w5.heap.size ∨ Rng W2 w5 b') := hpb.1
          have HPK : Hid _ := put_kids y hx b' off' k k L b cl w7 HYZ.out HYK.out HLL.out (Nat.le_refl _) hkl (fun j hj => (HD7.out.cell (p := ⟨b', off' + j, none⟩) HPL.out.2.2.2).trans (HPL.out.2.1 j hj)) hpb.2 (HPL.out.2.2.1.below HD7.out) (HL.out.below HB3.out)
          clear hbox hpb HPL
          go_wp2_with fail
          refine Calls.mono HPK.out ?_
          rintro e z5 ⟨rfl, hpk⟩
          have HK5 : Hid (PutKids y b' off' k k L w7 z5) := hpk
          have HB5 : Hid (Below w.heap.size w z5) := by
            obtain ⟨ka, c, -, ht, -⟩ := hpk
            refine ht.out.below HB3.out (fun k e => ?_) HB3.out.size
            subst e
            have h1 := HS5.out
            rcases HPB.out with e | e
            · omega
            · have := e.1; omega
          clear hpk HPK
          obtain ⟨h2, hown, hbx, hot⟩ := turn_box (L := L) HO3.out (fun e => by have := e.2; omega) (fun b hb => by have := hb.2; have := HD7.out.size; have := HSB.out; omega) HBX.out HP3.out HYA.out HK5.out HYZ.out
          obtain ⟨yt, hyt⟩ : ∃ yt, putT t P k k L = yt := ⟨_, rfl⟩
          rw [hyt] at hown hbx HR
          have HOE : Hid _ := hown
          have hne : ∀ q, q < w.heap.size + 2 → ¬ (q = w5.heap.size ∨ Rng W2 w5 q) := fun q hq e => by
            have h1 := HS5.out
            rcases e with e | e
            · omega
            · have := e.1; omega
          have hlt3 : w.heap.size + 2 ≤ w7.heap.size := by have := HD7.out.size; have := HSB.out; have := HS5.out; omega
          have HTE : Hid (T2 w z5 _ _) := ⟨(hot.block w.heap.size (by omega) (hne _ (by omega))).trans (HTB.out.below HD7.out).par, (hot.block (w.heap.size + 1) (by omega) (hne _ (by omega))).trans (HTB.out.below HD7.out).res, HB5.out⟩
          have HFE : Hid (∀ b, (Rng W2 w5 b ∨ (w7.heap.size ≤ b ∧ b < z5.heap.size)) → w.heap.size + 2 ≤ b ∧ b < z5.heap.size) := fun b hb => by
            have h1 := HS5.out
            have h2 := HSB.out
            have h3 := HD7.out.size
            have h4 := hot.size
            rcases hb with hb | hb
            · have := hb.1; have := hb.2; omega
            · omega
          have HBE : Hid (z5.heap[w5.heap.size]? = _) := hbx
          simp only [vals] at HBE
          clear hown hbx hot hyt HTB HOB HSB HO3 HD7 HB3 HP3 HBX HPB HK5 HB5 hne d6
          obtain ⟨n0, n1, n2, n3, n4, n5, n6, n7⟩ := box8 HBE.out
          obtain ⟨r0, r1, r2, r3, r4, r5, r6, r7⟩ := box8 HTE.out.res
          obtain ⟨s0, s1, s2, s3, s4, s5, s6, s7⟩ := box_froz HTE.out.res
          go_wp2
          refine bodyPost_ret (by simp [results, Try.results28, go_sem, r0, r1, r2, r3, r4, r5, r6, r7]; try rfl) rfl ?_
          rw [HR.out]
          refine ⟨⟨h2, rfl, ?_⟩, below8 HTE.out.bel (by omega) _ _ _ _ _ _ _ _⟩
          have hout : Out (fun b => b = w.heap.size + 1) (z5) _ := out8 (F := fun b => b = w.heap.size + 1) (g := w.heap.size + 1) (Out.refl _ (z5)) rfl (.int .i64 yt.kind) (.string yt.pre) (.string yt.loc) (.string yt.uri) (.slice h2.da yt.ds.length h2.dc) (.slice h2.aa yt.ats.length h2.ac) (.slice h2.ka yt.kids.length h2.kc) (.string yt.text)
          exact (HOE.out.out hout (fun b hb e => by have := HFE.out b hb; omega)).sub (fun b hb => by have := HFE.out b hb; have := hout.size; exact ⟨by omega, by omega⟩)
        · have HR : Hid _ := ins_no (i := (k : Int)) (L := L) HYA.out (fun e => hin e.2.2)
          have HTE : Hid _ := HTB.out.below HD7.out
          have HOE : Hid (OwnN w7 t h1 (Rng W2 w5)) := HOB.out.below HD7.out
          have HFE : Hid (∀ b, Rng W2 w5 b → w.heap.size + 2 ≤ b ∧ b < w7.heap.size) := fun b hb => by have := hb.1; have := hb.2; have := HS5.out; have := HSB.out; have := HD7.out.size; omega
          have hbx7 : w7.heap[w5.heap.size]? = _ := (HD7.out.block _ (by have := HSB.out; omega)).trans HBB.out
          obtain ⟨n0, n1, n2, n3, n4, n5, n6, n7⟩ := box8 hbx7
          clear hbx7 HTB HOB HSB HT5 HO5 HD7
          obtain ⟨r0, r1, r2, r3, r4, r5, r6, r7⟩ := box8 HTE.out.res
          obtain ⟨s0, s1, s2, s3, s4, s5, s6, s7⟩ := box_froz HTE.out.res
          go_wp2
          refine bodyPost_ret (by simp [results, Try.results28, go_sem, r0, r1, r2, r3, r4, r5, r6, r7]; try rfl) rfl ?_
          rw [HR.out]
          refine ⟨⟨h1, rfl, ?_⟩, below8 HTE.out.bel (by omega) _ _ _ _ _ _ _ _⟩
          have hout : Out (fun b => b = w.heap.size + 1) (w7) _ := out8 (F := fun b => b = w.heap.size + 1) (g := w.heap.size + 1) (Out.refl _ (w7)) rfl (.int .i64 t.kind) (.string t.pre) (.string t.loc) (.string t.uri) (.slice h1.da t.ds.length h1.dc) (.slice h1.aa t.ats.length h1.ac) (.slice h1.ka t.kids.length h1.kc) (.string t.text)
          exact (HOE.out.out hout (fun b hb e => by have := HFE.out b hb; omega)).sub (fun b hb => by have := HFE.out b hb; have := hout.size; exact ⟨by omega, by omega⟩)
    · have HR : Hid _ := ins_no (i := i) (L := L) HYA.out (fun e => hk e.1)
      have HMY : Hid (∀ W, Calls Try.prog 65 #[.agg (vals y hx)] W fun e w' => e = .returned (.bool false) ∧ Below W.heap.size W w') := fun W => may_is (decide_eq_false hk) hx W
      simp only [vals] at HMY
      go_wp2_with fail
      refine Calls.mono (HMY.out _) ?_
      rintro e w7 ⟨rfl, hb⟩
      have HD7 : Hid (Below WB.heap.size WB w7) := hb
      have d6 := (hb.cell (p := ⟨b', off' + 6, none⟩) HPL.out.2.2.2).trans c6
      clear hb c0 c1 c2 c3 c4 c5 c6 c7
      have HTE : Hid _ := HTB.out.below HD7.out
      have HOE : Hid (OwnN w7 t h1 (Rng W2 w5)) := HOB.out.below HD7.out
      have HFE : Hid (∀ b, Rng W2 w5 b → w.heap.size + 2 ≤ b ∧ b < w7.heap.size) := fun b hb => by have := hb.1; have := hb.2; have := HS5.out; have := HSB.out; have := HD7.out.size; omega
      have hbx7 : w7.heap[w5.heap.size]? = _ := (HD7.out.block _ (by have := HSB.out; omega)).trans HBB.out
      obtain ⟨n0, n1, n2, n3, n4, n5, n6, n7⟩ := box8 hbx7
      clear hbx7 HTB HOB HSB HT5 HO5 HD7
      obtain ⟨r0, r1, r2, r3, r4, r5, r6, r7⟩ := box8 HTE.out.res
      obtain ⟨s0, s1, s2, s3, s4, s5, s6, s7⟩ := box_froz HTE.out.res
      go_wp2
      refine bodyPost_ret (by simp [results, Try.results28, go_sem, r0, r1, r2, r3, r4, r5, r6, r7]; try rfl) rfl ?_
      rw [HR.out]
      refine ⟨⟨h1, rfl, ?_⟩, below8 HTE.out.bel (by omega) _ _ _ _ _ _ _ _⟩
      have hout : Out (fun b => b = w.heap.size + 1) (w7) _ := out8 (F := fun b => b = w.heap.size + 1) (g := w.heap.size + 1) (Out.refl _ (w7)) rfl (.int .i64 t.kind) (.string t.pre) (.string t.loc) (.string t.uri) (.slice h1.da t.ds.length h1.dc) (.slice h1.aa t.ats.length h1.ac) (.slice h1.ka t.kids.length h1.kc) (.string t.text)
      exact (HOE.out.out hout (fun b hb e => by have := HFE.out b hb; omega)).sub (fun b hb => by have := HFE.out b hb; have := hout.size; exact ⟨by omega, by omega⟩)
end Go.Proofs.Ytpejcblmglbjfaa.paths
