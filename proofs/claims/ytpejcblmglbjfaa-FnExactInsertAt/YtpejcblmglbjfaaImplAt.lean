/-
  What the program's standsAt and NodeAt answer.
-/
import Derived.Test.YtpejcblmglbjfaaSpecAt
import Derived.Test.YtpejcblmglbjfaaImplCopy
namespace Go.Proofs.Ytpejcblmglbjfaa.paths
open Go.ChangeShapes Go.WideShapes Go.ChangeAt Go.RowKit
open trees (Tree Hdr vals noTree kid nsz nszs tsize ksize NodeIn NodesAt OwnN Rng Out box8 box_froz CopyOk)
open ints (IntsAt int0 okI)
set_option linter.unusedVariables false
/-- A node's eight cells. -/
def Cells8 (w : World) (b off : Nat) (t : Tree) (h : Hdr) : Prop := ∀ j, j < 8 → w.cell? ⟨b, off + j, none⟩ = (vals t h)[j]?
/-- Where a path leads from a node whose cells lie at an address. -/
def Place (w : World) : Tree → Hdr → Nat → Nat → List Int → Tree → Hdr → Nat → Nat → Prop
  | t, h, b, off, [], x, hx, b', off' => x = t ∧ hx = h ∧ b' = b ∧ off' = off
  | t, h, b, off, i :: p, x, hx, b', off' => (0 ≤ i ∧ i < t.kids.length) ∧ ∃ rb ro hk, h.ka = some ⟨rb, ro, none⟩ ∧ rb < w.heap.size ∧ Cells8 w rb (ro + i.toNat * 8) (kid t.kids i.toNat) hk ∧ Place w (kid t.kids i.toNat) hk rb (ro + i.toNat * 8) p x hx b' off'
theorem place_snoc {w : World} {i : Int} {x : Tree} {hx hk : Hdr} {b' off' rb ro : Nat} (hi : 0 ≤ i ∧ i < x.kids.length) (ha : hx.ka = some ⟨rb, ro, none⟩) (hlt : rb < w.heap.size) (hc : Cells8 w rb (ro + i.toNat * 8) (kid x.kids i.toNat) hk) :
    ∀ (p : List Int) (t : Tree) (h : Hdr) (b off : Nat), Place w t h b off p x hx b' off' → Place w t h b off (p ++ [i]) (kid x.kids i.toNat) hk rb (ro + i.toNat * 8)
  | [], t, h, b, off, hp => by
    obtain ⟨rfl, rfl, rfl, rfl⟩ := hp
    exact ⟨hi, rb, ro, hk, ha, hlt, hc, rfl, rfl, rfl, rfl⟩
  | j :: p, t, h, b, off, hp => by
    obtain ⟨hj, rb1, ro1, hk1, ha1, hlt1, hc1, hp1⟩ := hp
    exact ⟨hj, rb1, ro1, hk1, ha1, hlt1, hc1, place_snoc hi ha hlt hc p _ _ _ _ hp1⟩
theorem kids_place {w : World} {B : Nat} {x : Tree} {hx : Hdr} {n : Nat} (hn : NodeIn w B x hx) (hk : n < x.kids.length) : ∃ rb ro h', hx.ka = some ⟨rb, ro, none⟩ ∧ rb < w.heap.size ∧ NodeIn w B (kid x.kids n) h' ∧ Cells8 w rb (ro + n * 8) (kid x.kids n) h' := by
  have hrow := (trees.kids_at hn).row (by omega)
  obtain ⟨rb, ro, hra, hrlt, hrc⟩ := hrow
  obtain ⟨h', hnode, c0, c1, c2, c3, c4, c5, c6, c7⟩ := hrc n hk
  refine ⟨rb, ro, h', hra, hrlt, hnode, fun j hj => ?_⟩
  rcases (show j = 0 ∨ j = 1 ∨ j = 2 ∨ j = 3 ∨ j = 4 ∨ j = 5 ∨ j = 6 ∨ j = 7 by omega) with rfl | rfl | rfl | rfl | rfl | rfl | rfl | rfl
  · exact c0
  · exact c1
  · exact c2
  · exact c3
  · exact c4
  · exact c5
  · exact c6
  · exact c7
/-- What standsAt answers. -/
def StandAns (w : World) (B : Nat) (t : Tree) (h : Hdr) (b off : Nat) (P : List Int) (e : Ending) : Prop :=
  (atT t P = none ∧ e = .returned (.pointer none)) ∨ ∃ x hx b' off', atT t P = some x ∧ e = .returned (.pointer (some ⟨b', off', none⟩)) ∧ Place w t h b off P x hx b' off' ∧ Cells8 w b' off' x hx ∧ NodeIn w B x hx ∧ b' < w.heap.size
set_option maxRecDepth 100000 in
set_option maxHeartbeats 4000000 in
theorem stands_at (B : Nat) (t : Tree) (h : Hdr) (b off : Nat) (P : List Int) (a : Option Addr) (cap : Nat) (w : World) (hz : nsz t ≤ 1048576) (hn : NodeIn w B t h) (hc : Cells8 w b off t h) (hb : b < w.heap.size) (hP : IntsAt w a P) :
    Calls Try.prog 51 #[.pointer (some ⟨b, off, none⟩), .slice a P.length cap] w fun e w' => StandAns w B t h b off P e ∧ w' = w := by
  have HZ : Hid (nsz t ≤ 1048576) := hz
  have HP : Hid (IntsAt w a P) := hP
  have hlen := hP.short
  unfold maxLen at hlen
  have HR0 : Hid ((atT t (P.take 0) = some t ∧ Place w t h b off (P.take 0) t h b off ∧ Cells8 w b off t h) ∧ NodeIn w B t h ∧ b < w.heap.size) := ⟨⟨rfl, ⟨rfl, rfl, rfl, rfl⟩, hc⟩, hn, hb⟩
  clear hz hn hc hb hP
  go_enter Try.func51, Try.ntmps51
  go_wp2
  go_loop [0, 9, 6] (fun n q i => ∃ (k : Nat) (x : Tree) (hx : Hdr) (b' off' : Nat), k ≤ P.length ∧ q = .int .i64 k ∧ n = .pointer (some ⟨b', off', none⟩) ∧ Hid ((atT t (P.take k) = some x ∧ Place w t h b off (P.take k) x hx b' off' ∧ Cells8 w b' off' x hx) ∧ NodeIn w B x hx ∧ b' < w.heap.size)) (fun _ q _ => P.length - (intOf q).toNat)
  case atStart => exact ⟨0, t, h, b, off, Nat.zero_le _, rfl, rfl, HR0⟩
  case round =>
    obtain ⟨k, x, hx, b', off', hk, rfl, rfl, hR⟩ := hrel
    by_cases hlt : k < P.length
    · obtain ⟨pb, poff, ha, hblt, hc⟩ := HP.out.row (by omega)
      have hl := hc k hlt
      subst ha
      obtain ⟨i, hi⟩ : ∃ i, int0 P k = i := ⟨_, rfl⟩
      have HI : Hid (int0 P k = i ∧ okI i) := ⟨hi, by rw [← hi]; exact HP.out.fit k hlt⟩
      have hok := HI.out.2
      unfold okI at hok
      rw [hi] at hl
      clear hc hi
      have o6 : w.cell? ⟨b', off' + 6, none⟩ = some (.slice hx.ka x.kids.length hx.kc) := hR.out.1.2.2 6 (by omega)
      have hkl : x.kids.length ≤ 1048576 := by
        have h1 := at_nsz _ _ _ hR.out.1.1
        have h2 := HZ.out
        have h3 := trees.nszs_eq x.kids
        have h4 : nszs x.kids ≤ nsz x := by cases x; rw [nsz]; simp only [Tree.kids]; omega
        omega
      by_cases hin : 0 ≤ i ∧ i < x.kids.length
      · have hd1 : decide (i < 0) = false := decide_eq_false (by omega)
        have hd2 : decide (i ≥ (x.kids.length : Int)) = false := decide_eq_false (by omega)
        obtain ⟨n, rfl⟩ : ∃ n : Nat, i = n := ⟨i.toNat, by omega⟩
        have hnk : n < x.kids.length := by omega
        obtain ⟨rb, ro, h', hra, hrlt, hnode, hcells⟩ := kids_place hR.out.2.1 hnk
        have HN : Hid ((atT t (P.take (k + 1)) = some (kid x.kids n) ∧ Place w t h b off (P.take (k + 1)) (kid x.kids n) h' rb (ro + n * 8) ∧ Cells8 w rb (ro + n * 8) (kid x.kids n) h') ∧ NodeIn w B (kid x.kids n) h' ∧ rb < w.heap.size) := by
          have hat := at_next hlt hR.out.1.1
          rw [HI.out.1, step_yes hin, Int.toNat_natCast] at hat
          have hpl := place_snoc (i := (n : Int)) hin hra hrlt (by rw [Int.toNat_natCast]; exact hcells) _ _ _ _ _ hR.out.1.2.1
          rw [Int.toNat_natCast, ← HI.out.1, ← take_next hlt] at hpl
          exact ⟨⟨hat, hpl, hcells⟩, hnode, hrlt⟩
        rw [hra] at o6
        clear hra hnode hcells
        go_wp2
        go_round
        case rel => exact ⟨k + 1, kid x.kids n, h', rb, ro + n * 8, by omega, by go_num, rfl, HN⟩
        case measure => simp [intOf]; omega
      · have HST : Hid (atT t P = none) := at_stop hlt hR.out.1.1 (by rw [HI.out.1]; exact step_no hin)
        by_cases h0 : i < 0
        · have hd1 : decide (i < 0) = true := decide_eq_true h0
          go_wp2
          go_ret
          exact ⟨.inl ⟨HST.out, rfl⟩, rfl⟩
        · have hd1 : decide (i < 0) = false := decide_eq_false h0
          have hd2 : decide (i ≥ (x.kids.length : Int)) = true := decide_eq_true (by omega)
          go_wp2
          go_ret
          exact ⟨.inl ⟨HST.out, rfl⟩, rfl⟩
    · obtain rfl : k = P.length := by omega
      have HX : Hid ((atT t P = some x ∧ Place w t h b off P x hx b' off' ∧ Cells8 w b' off' x hx) ∧ NodeIn w B x hx ∧ b' < w.heap.size) := by have := hR.out; rw [List.take_length] at this; exact this
      go_wp2
      go_ret
      exact ⟨.inr ⟨x, hx, b', off', HX.out.1.1, rfl, HX.out.1.2.1, HX.out.1.2.2, HX.out.2.1, HX.out.2.2⟩, rfl⟩
/-- The two boxes of a function that is handed a node and names its answer. -/
structure T2 (w W : World) (P O : Array Value) : Prop where
  par : W.heap[w.heap.size]? = some (.cells P 28 (0, 0))
  res : W.heap[w.heap.size + 1]? = some (.cells O 28 (0, 0))
  bel : Below w.heap.size w W
def zero8 : Array Value := #[.int .i64 0, .string ⟨#[]⟩, .string ⟨#[]⟩, .string ⟨#[]⟩, .slice none 0 0, .slice none 0 0, .slice none 0 0, .string ⟨#[]⟩]
theorem T2.size {w W : World} {P O : Array Value} (h : T2 w W P O) : w.heap.size + 2 ≤ W.heap.size := pairs.lt_heap h.res
theorem T2.new (w : World) (P : Array Value) : T2 w ((w.alloc (.cells P 28)).alloc (.cells #[.int .i64 0, .string ⟨#[]⟩, .string ⟨#[]⟩, .string ⟨#[]⟩, .slice none 0 0, .slice none 0 0, .slice none 0 0, .string ⟨#[]⟩] 28)) P #[.int .i64 0, .string ⟨#[]⟩, .string ⟨#[]⟩, .string ⟨#[]⟩, .slice none 0 0, .slice none 0 0, .slice none 0 0, .string ⟨#[]⟩] := by
  refine ⟨(Below.heap_alloc _ _ _ (by simp)).trans (heap_alloc_new w _), ?_, ((Below.refl _ w).alloc (Nat.le_refl _) _).alloc (by simp) _⟩
  have := heap_alloc_new (w.alloc (.cells P 28)) (.cells #[.int .i64 0, .string ⟨#[]⟩, .string ⟨#[]⟩, .string ⟨#[]⟩, .slice none 0 0, .slice none 0 0, .slice none 0 0, .string ⟨#[]⟩] 28)
  rw [World.size_alloc] at this
  exact this
theorem T2.below {w W W' : World} {P O : Array Value} (h : T2 w W P O) (hb : Below W.heap.size W W') : T2 w W' P O :=
  ⟨(hb.block _ (pairs.lt_heap h.par)).trans h.par, (hb.block _ (pairs.lt_heap h.res)).trans h.res, h.bel.trans (hb.mono h.bel.size)⟩
theorem cells_box {w : World} {b : Nat} {t : Tree} {h : Hdr} {ty : TypeId} (hb : w.heap[b]? = some (.cells (vals t h) ty (0, 0))) : Cells8 w b 0 t h := fun j hj => by
  rw [Nat.zero_add]
  simp [World.cell?, hb]
set_option maxRecDepth 100000 in
set_option maxHeartbeats 4000000 in
theorem impl_nodeAt (B : Nat) (t : Tree) (h : Hdr) (P : List Int) (a : Option Addr) (cap : Nat) (w : World) (hz : nsz t ≤ 1048576) (hn : NodeIn w B t h) (hP : IntsAt w a P) : AtOk 13 t h P a cap w := by
  have HZ : Hid (nsz t ≤ 1048576) := hz
  have HT0 : Hid (T2 w _ (vals t h) _) := T2.new w (vals t h)
  unfold AtOk
  have HS : Hid (∀ W, T2 w W (vals t h) #[.int .i64 0, .string ⟨#[]⟩, .string ⟨#[]⟩, .string ⟨#[]⟩, .slice none 0 0, .slice none 0 0, .slice none 0 0, .string ⟨#[]⟩] → Calls Try.prog 51 #[.pointer (some ⟨w.heap.size, 0, none⟩), .slice a P.length cap] W fun e w' => StandAns W B t h w.heap.size 0 P e ∧ w' = W) := fun W hT =>
    stands_at B t h w.heap.size 0 P a cap W hz (hn.below hT.bel) (cells_box hT.par) (pairs.lt_heap hT.par) (hP.below (Nat.le_refl _) hT.bel)
  obtain ⟨R, hR⟩ : ∃ R, atR t P = R := ⟨_, rfl⟩
  have HR : Hid (atR t P = R) := hR
  rw [hR]
  obtain ⟨T, hT⟩ : ∃ T : Tree, t = T := ⟨_, rfl⟩
  obtain ⟨H, hH⟩ : ∃ H : Hdr, h = H := ⟨_, rfl⟩
  have HV : Hid (vals t h = vals T H) := by show _ = _; rw [hT, hH]
  rw [HV.out] at HS HT0 ⊢
  rw [hT] at HS HR HZ
  rw [hH] at HS
  clear hR hn hz hP hT hH HV
  obtain ⟨k0, p0, l0, u0, x0, ds0, ats0, ks0⟩ := T
  obtain ⟨da0, dc0, aa0, ac0, ka0, kc0⟩ := H
  simp only [vals, Tree.kind, Tree.pre, Tree.loc, Tree.uri, Tree.text, Tree.ds, Tree.ats, Tree.kids] at HT0 HS ⊢
  obtain ⟨W2, hW2⟩ : ∃ W2, (w.alloc (.cells #[.int .i64 k0, .string p0, .string l0, .string u0, .slice da0 ds0.length dc0, .slice aa0 ats0.length ac0, .slice ka0 ks0.length kc0, .string x0] 28)).alloc (.cells #[.int .i64 0, .string ⟨#[]⟩, .string ⟨#[]⟩, .string ⟨#[]⟩, .slice none 0 0, .slice none 0 0, .slice none 0 0, .string ⟨#[]⟩] 28) = W2 := ⟨_, rfl⟩
  rw [hW2] at HT0
  go_enter Try.func13, Try.ntmps13
  go_wp2_with fail
  refine Calls.mono (HS.out _ HT0.out) ?_
  rintro e w9 ⟨hans, hw⟩
  have hw2 := hw.symm
  clear hw
  subst hw2
  have HANS : Hid _ := hans
  clear hans HS hW2
  rcases HANS.out with ⟨hat, rfl⟩ | ⟨x, hx, b', off', hat, rfl, hpl, hc, hnode, hlt⟩
  · have HAR : Hid (R = (noTree, false)) := by have := HR.out; unfold atR at this; rw [hat] at this; exact this.symm
    clear HANS hat
    obtain ⟨r0, r1, r2, r3, r4, r5, r6, r7⟩ := box8 HT0.out.res
    obtain ⟨s0, s1, s2, s3, s4, s5, s6, s7⟩ := box_froz HT0.out.res
    go_wp2
    refine bodyPost_ret (by simp [results, Try.results13, go_sem, r0, r1, r2, r3, r4, r5, r6, r7]; try rfl) rfl ?_
    rw [HAR.out]
    exact ⟨⟨noHdr, rfl, none_own _ _⟩, below8 HT0.out.bel (by omega) _ _ _ _ _ _ _ _⟩
  · have HAR : Hid (R = (x, true)) := by have := HR.out; unfold atR at this; rw [hat] at this; exact this.symm
    have hxz : nsz x ≤ 1048576 := Nat.le_trans (at_nsz _ _ _ hat) HZ.out
    have hcp := trees.copy_node B _ _ _ W2 (Nat.lt_succ_self _) hxz hnode
    unfold CopyOk at hcp
    obtain ⟨kd, p, l, u, x, ds, ats, ks⟩ := x
    obtain ⟨da, dc, aa, ac, ka, kc⟩ := hx
    have c0 := hc 0 (by omega)
    have c1 := hc 1 (by omega)
    have c2 := hc 2 (by omega)
    have c3 := hc 3 (by omega)
    have c4 := hc 4 (by omega)
    have c5 := hc 5 (by omega)
    have c6 := hc 6 (by omega)
    have c7 := hc 7 (by omega)
    simp only [Nat.add_zero, vals, Tree.kind, Tree.pre, Tree.loc, Tree.uri, Tree.text, Tree.ds, Tree.ats, Tree.kids] at hcp c0 c1 c2 c3 c4 c5 c6 c7
    simp at c0 c1 c2 c3 c4 c5 c6 c7
    have HC : Hid _ := hcp
    clear HANS hat hpl hc hnode hlt hxz hcp
    go_wp2_with fail
    refine Calls.mono HC.out ?_
    rintro e w5 ⟨⟨h', rfl, ho⟩, hb⟩
    obtain ⟨da', dc', aa', ac', ka', kc'⟩ := h'
    have HT5 : Hid _ := HT0.out.below hb
    have HO5 : Hid (OwnN w5 (.mk kd p l u x ds ats ks) ⟨da', dc', aa', ac', ka', kc'⟩ (Rng W2 w5)) := ho
    have hs5 := HT0.out.size
    have HS5 : Hid (W2.heap.size ≤ w5.heap.size) := hb.size
    clear hb ho HC c0 c1 c2 c3 c4 c5 c6 c7
    obtain ⟨r0, r1, r2, r3, r4, r5, r6, r7⟩ := box8 HT5.out.res
    obtain ⟨s0, s1, s2, s3, s4, s5, s6, s7⟩ := box_froz HT5.out.res
    go_wp2
    refine bodyPost_ret (by simp [results, Try.results13, go_sem, r0, r1, r2, r3, r4, r5, r6, r7]; try rfl) rfl ?_
    rw [HAR.out]
    refine ⟨⟨⟨da', dc', aa', ac', ka', kc'⟩, rfl, ?_⟩, below8 HT5.out.bel (by omega) _ _ _ _ _ _ _ _⟩
    have hout : Out (fun b => b = w.heap.size + 1) w5 _ := out8 (F := fun b => b = w.heap.size + 1) (g := w.heap.size + 1) (Out.refl _ w5) rfl (.int .i64 kd) (.string p) (.string l) (.string u) (.slice da' ds.length dc') (.slice aa' ats.length ac') (.slice ka' ks.length kc') (.string x)
    exact (HO5.out.out hout (fun b hb e => by have := hb.1; omega)).sub (trees.Rng.wide (by omega) hout.size)
end Go.Proofs.Ytpejcblmglbjfaa.paths
