/-
  How the specification draws a list of nodes to be merged.
-/
import Derived.Test.YtdpbiaomhndpcaaDrawEl
namespace Go.Proofs.Ytdpbiaomhndpcaa.draws
open Go.ChangeShapes Go.WideShapes Go.ChangeAt Go.RowKit
open pairs (Pair at0 PairsAt)
open trees (Att Tree Hdr vals TH th0 cellsN Bset Out Inc Apart OwnN OwnP OwnA OwnL RowA RowV Rng nsz nszs trees1 box8 box_froz)
set_option linter.unusedVariables false
def mg3L : List ByteArray := [⟨#[]⟩, ⟨#[120]⟩, ⟨#[32]⟩]
theorem mg3L_size : ∀ s ∈ mg3L, s.size ≤ 1 := by
  intro s hs
  simp only [mg3L, List.mem_cons, List.mem_nil_iff, or_false] at hs
  rcases hs with rfl | rfl | rfl <;> decide
theorem mg3_list (w : World) (q cb len cap : Nat) (a : Option Addr) (hq : q = w.heap.size) (hc : CurAt w cb a len cap) :
    Calls Try.prog 11 #[.pointer (some ⟨cb, 0, none⟩), .slice (some ⟨q, 0, none⟩) 3 3] (w.alloc (.cells #[.string ⟨#[]⟩, .string ⟨#[120]⟩, .string ⟨#[32]⟩] 9)) fun e w' => ∃ s, s ∈ mg3L ∧ e = .returned (.string s) ∧ CurAt w' cb a len cap ∧ ButFor cb w w' := by
  subst hq
  exact str_new w cb len cap 3 3 a mg3L _ 9 rfl rfl (by decide) (by decide) hc
/-- The list so far. -/
structure Mg (w W : World) (cb len cap : Nat) (a : Option Addr) (B : Nat) (v : Value) (P : List TH) (G : Nat → Bset) : Prop where
  st : ∃ w0 : World, w0.heap.size = B ∧ CurAt w0 cb a len cap
  cur : CurAt W cb a len cap
  kid : KidR W B v P G
  bel : Below w.heap.size w W
  ge : w.heap.size ≤ cb ∧ cb < B ∧ B ≤ W.heap.size
theorem Mg.below {w W W' : World} {cb len cap B : Nat} {a : Option Addr} {v : Value} {P : List TH} {G : Nat → Bset} (h : Mg w W cb len cap a B v P G) (hb : Below W.heap.size W W') : Mg w W' cb len cap a B v P G :=
  ⟨h.st, h.cur.stays (Nat.le_refl _) hb, h.kid.below hb, h.bel.trans (hb.mono h.bel.size), h.ge.1, h.ge.2.1, Nat.le_trans h.ge.2.2 hb.size⟩
theorem Mg.out {w W W' : World} {cb len cap B : Nat} {a : Option Addr} {v : Value} {P : List TH} {G : Nat → Bset} (h : Mg w W cb len cap a B v P G) (hc : CurAt W' cb a len cap) (ho : Out (fun b => b = cb) W W') : Mg w W' cb len cap a B v P G := by
  obtain ⟨a1, a2, a3⟩ := h.ge
  exact ⟨h.st, hc, h.kid.out ho (fun b e => by omega), h.bel.trans ⟨ho.os, ho.tape, ho.output, ho.size, fun k hk => ho.block k (Nat.lt_of_lt_of_le hk h.bel.size) (fun e => by omega)⟩, a1, a2, Nat.le_trans a3 ho.size⟩
theorem Mg.but {w W W' : World} {cb len cap B : Nat} {a : Option Addr} {v : Value} {P : List TH} {G : Nat → Bset} (h : Mg w W cb len cap a B v P G) (hc : CurAt W' cb a len cap) (hb : ButFor cb W W') : Mg w W' cb len cap a B v P G :=
  h.out hc ⟨hb.os, hb.tape, hb.output, hb.size, fun k hk hf => hb.block k hk hf⟩
theorem Mg.more {w W W' : World} {cb len cap B : Nat} {a : Option Addr} {v v' : Value} {P P' : List TH} {G G' : Nat → Bset} (h : Mg w W cb len cap a B v P G) (hk : KidR W' B v' P' G') (hb : Below B W W') : Mg w W' cb len cap a B v' P' G' := by
  obtain ⟨a1, a2, a3⟩ := h.ge
  obtain ⟨w0, e0, h0⟩ := h.st
  exact ⟨⟨w0, e0, h0⟩, h0.keeps h.cur hb.size (fun k hk => hb.block k (by omega)), hk, h.bel.trans (hb.mono (by omega)), a1, a2, Nat.le_trans a3 hb.size⟩
theorem mg_sz {P : List TH} {x : TH} (h : nszs (trees1 P) ≤ 24001 * P.length) (hx : nsz x.1 ≤ 24000) : nszs (trees1 (P ++ [x])) ≤ 24001 * (P ++ [x]).length := by
  rw [trees.trees1_append, trees.trees1_one, trees.nszs_append, trees.nszs_one, List.length_append, List.length_singleton]
  omega
theorem none_pairs (w : World) (ia : Option Addr) : PairsAt w ia [] := ⟨fun h => absurd h (by simp), Nat.zero_le _, fun i hi => absurd hi (by simp)⟩
set_option maxRecDepth 100000 in
set_option maxHeartbeats 4000000 in
theorem drawMerge (w : World) (len cap : Nat) (a : Option Addr) (hz : len ≤ 1048576) (hr : Hid (RowAt w a len)) : Calls Try.prog 5 #[.slice a len cap] w fun e w' => ∃ (ka : Option Addr) (kc : Nat) (P : List TH), e = .returned (.slice ka P.length kc) ∧ OwnL w' ka (trees1 P) (fun b => w.heap.size ≤ b ∧ b < w'.heap.size) ∧ nszs (trees1 P) ≤ 200000 ∧ Below w.heap.size w w' := by
  go_enter Try.func5, Try.ntmps5
  go_wp2_with fail
  refine (new_any _ _ _ _ hz hr).mono ?_
  rintro e w1 ⟨cb, rfl, hcb, hc1, hb1⟩
  have HRW : Hid _ := RowV.own (trees.new_row w1)
  have HM1 : Hid (Mg w (w1.alloc (.cells #[] 30)) cb len cap a w1.heap.size (.slice (some ⟨w1.heap.size, 0, none⟩) 0 0) [] (fun _ _ => False)) :=
    ⟨⟨w1, rfl, hc1⟩, hc1.stays (Nat.le_refl _) ((Below.refl _ _).alloc (Nat.le_refl _) _), ⟨HRW.out, fun i b h => False.elim h, fun i g _ hb => hb, fun i j h b hb => False.elim hb, fun i hi => absurd hi (by simp)⟩, hb1.trans (((Below.refl _ _).alloc (Nat.le_refl _) _).mono hb1.size), by omega, hc1.here, by rw [World.size_alloc]; omega⟩
  clear hb1 hc1 hcb HRW hr
  go_wp2_with fail
  refine (below_any _ cb len cap a 7 (by decide) HM1.out.cur).mono ?_
  rintro e w2 ⟨x, rfl, hx0, hx1, hc2, hb2⟩
  have HM2 : Hid _ := HM1.out.but hc2 hb2
  obtain ⟨q1, hq1⟩ : ∃ q, w1.heap.size = q := ⟨_, rfl⟩
  rw [hq1] at HM2
  rw [hq1]
  clear hc2 hb2 HM1 hq1
  go_wp2
  go_loopw [4, 5] (fun q4 q5 wr => ∃ (i : Int) (ka : Option Addr) (kc : Nat) (P : List TH) (G : Nat → Bset), 0 ≤ i ∧ i ≤ 6 ∧ (P.length : Int) + i ≤ 6 ∧ q4 = .slice ka P.length kc ∧ q5 = .int .i64 i ∧ Hid (nszs (trees1 P) ≤ 24001 * P.length) ∧ Hid (Mg w wr cb len cap a q1 (.slice ka P.length kc) P G)) (fun _ q5 _ => (intOf q5).toNat)
  case atStart => exact ⟨x, some ⟨q1, 0, none⟩, 0, [], _, hx0, by omega, by simp; omega, rfl, rfl, Nat.zero_le _, HM2⟩
  case round =>
    obtain ⟨i, ka, kc, P, G, hi0, hi6, hPi, rfl, rfl, hsz, hmg⟩ := hrel
    by_cases hgo : 0 < i
    · go_wp2_with fail
      refine (below_any _ cb len cap a 3 (by decide) hmg.out.cur).mono ?_
      rintro e w3 ⟨y, rfl, hy0, hy1, hc3, hb3⟩
      have HM3 : Hid (Mg w w3 cb len cap a q1 (.slice ka P.length kc) P G) := hmg.out.but hc3 hb3
      clear hc3 hb3 hmg
      obtain rfl | rfl | rfl : y = 0 ∨ y = 1 ∨ y = 2 := by omega
      · go_wp2_with fail
        refine (mg3_list _ _ _ _ _ _ (by simp) HM3.out.cur).mono ?_
        rintro e w4 ⟨tx, htx, rfl, hc4, hb4⟩
        have htz := mg3L_size tx htx
        have HM4 : Hid (Mg w w4 cb len cap a q1 (.slice ka P.length kc) P G) := HM3.out.but hc4 hb4
        have HMA : Hid (∀ o, Mg w (w4.alloc o) cb len cap a q1 (.slice ka P.length kc) P G) := fun o => HM4.out.below ((Below.refl _ _).alloc (Nat.le_refl _) o)
        clear hc4 hb4 htx HM3 HM4
        go_wp2_with (at_builtin; refine add_kid q1 (.slice ka P.length kc) _ P G (Tree.mk 2 ⟨#[]⟩ ⟨#[]⟩ ⟨#[]⟩ tx [] [] [], Hdr.mk none 0 none 0 none 0) (fun _ => False) (HMA.out _).kid (HMA.out _).ge.2.2 (by omega) (own_plain _ 2 ⟨#[]⟩ tx (by decide) (by decide) (by unfold maxLen; omega)) (fun b hb => False.elim hb) (fun g _ hb => hb) (fun i b _ hb => hb) (by rfl) _ _ (by rfl) (by rfl) (by rfl) (cells_new_at w4 (Tree.mk 2 ⟨#[]⟩ ⟨#[]⟩ ⟨#[]⟩ tx [] [] [], Hdr.mk none 0 none 0 none 0).1 (Tree.mk 2 ⟨#[]⟩ ⟨#[]⟩ ⟨#[]⟩ tx [] [] [], Hdr.mk none 0 none 0 none 0).2 _ _ (by simp)) ?_; rintro av cv w6 hk6 hb6; have HM6 : Hid _ := (HMA.out _).more hk6 hb6; clear hk6 hb6)
        go_roundw
        case rel =>
          have hl1 : (P ++ [(Tree.mk 2 ⟨#[]⟩ ⟨#[]⟩ ⟨#[]⟩ tx [] [] [], Hdr.mk none 0 none 0 none 0)]).length = P.length + 1 := by rw [List.length_append]; rfl
          exact ⟨i - 1, av, cv, P ++ [(Tree.mk 2 ⟨#[]⟩ ⟨#[]⟩ ⟨#[]⟩ tx [] [] [], Hdr.mk none 0 none 0 none 0)], (fun i' => if i' = P.length then fun _ => False else G i'), by omega, by omega, by rw [hl1]; omega, by rw [hl1], by go_num, mg_sz hsz.out (by rw [leaf_sz]; show 0 + tx.size ≤ _; omega), by rw [hl1]; exact HM6.out⟩
        case measure => simp [intOf]; omega
      · go_wp2_with fail
        refine (mg3_list _ _ _ _ _ _ (by simp) HM3.out.cur).mono ?_
        rintro e w4 ⟨tx, htx, rfl, hc4, hb4⟩
        have htz := mg3L_size tx htx
        have HM4 : Hid (Mg w w4 cb len cap a q1 (.slice ka P.length kc) P G) := HM3.out.but hc4 hb4
        have HMA : Hid (∀ o, Mg w (w4.alloc o) cb len cap a q1 (.slice ka P.length kc) P G) := fun o => HM4.out.below ((Below.refl _ _).alloc (Nat.le_refl _) o)
        clear hc4 hb4 htx HM3 HM4
        go_wp2_with (at_builtin; refine add_kid q1 (.slice ka P.length kc) _ P G (Tree.mk 2 ⟨#[]⟩ ⟨#[]⟩ ⟨#[]⟩ tx [] [] [], Hdr.mk none 0 none 0 none 0) (fun _ => False) (HMA.out _).kid (HMA.out _).ge.2.2 (by omega) (own_plain _ 2 ⟨#[]⟩ tx (by decide) (by decide) (by unfold maxLen; omega)) (fun b hb => False.elim hb) (fun g _ hb => hb) (fun i b _ hb => hb) (by rfl) _ _ (by rfl) (by rfl) (by rfl) (cells_new_at w4 (Tree.mk 2 ⟨#[]⟩ ⟨#[]⟩ ⟨#[]⟩ tx [] [] [], Hdr.mk none 0 none 0 none 0).1 (Tree.mk 2 ⟨#[]⟩ ⟨#[]⟩ ⟨#[]⟩ tx [] [] [], Hdr.mk none 0 none 0 none 0).2 _ _ (by simp)) ?_; rintro av cv w6 hk6 hb6; have HM6 : Hid _ := (HMA.out _).more hk6 hb6; clear hk6 hb6)
        go_roundw
        case rel =>
          have hl1 : (P ++ [(Tree.mk 2 ⟨#[]⟩ ⟨#[]⟩ ⟨#[]⟩ tx [] [] [], Hdr.mk none 0 none 0 none 0)]).length = P.length + 1 := by rw [List.length_append]; rfl
          exact ⟨i - 1, av, cv, P ++ [(Tree.mk 2 ⟨#[]⟩ ⟨#[]⟩ ⟨#[]⟩ tx [] [] [], Hdr.mk none 0 none 0 none 0)], (fun i' => if i' = P.length then fun _ => False else G i'), by omega, by omega, by rw [hl1]; omega, by rw [hl1], by go_num, mg_sz hsz.out (by rw [leaf_sz]; show 0 + tx.size ≤ _; omega), by rw [hl1]; exact HM6.out⟩
        case measure => simp [intOf]; omega
      · have HBa : Hid (∀ o o', Below w3.heap.size w3 ((w3.alloc o).alloc o')) := fun o o' => ((Below.refl _ _).alloc (Nat.le_refl _) o).alloc (by simp) o'
        have HXb : Hid (∀ o o', ((w3.alloc o).alloc o').heap[w3.heap.size]? = some o) := fun o o' => by
          have h1 : ((w3.alloc o).alloc o').heap[w3.heap.size]? = (w3.alloc o).heap[w3.heap.size]? := ((Below.refl (w3.alloc o).heap.size _).alloc (Nat.le_refl _) o').block _ (by simp)
          exact h1.trans (heap_alloc_new w3 o)
        have HCX : Hid (∀ o', Cx ((w3.alloc (.cells #[.int .i64 2] 3)).alloc o') cb w3.heap.size len cap a 2) := fun o' => ⟨HM3.out.cur.stays (Nat.le_refl _) (HBa.out _ _), HXb.out _ _, Nat.ne_of_lt HM3.out.cur.here, fun h0 b off e => by obtain ⟨b', off', e', hb, _⟩ := HM3.out.cur.row.row h0; rw [e] at e'; cases e'; omega⟩
        have hE := fun o' => el_any 2 (by decide) ((w3.alloc (.cells #[.int .i64 2] 3)).alloc o') cb w3.heap.size len cap a (some ⟨w3.heap.size + 1, 0, none⟩) [] 0 (by decide) (HCX.out o') ⟨none_pairs _ _, fun i hi => absurd hi (by simp), fun b off e => by cases e; have := HM3.out.cur.here; exact ⟨by omega, by omega⟩⟩
        unfold ElOk vals at hE
        go_wp2_with fail
        refine (hE _).mono ?_
        clear hE
        rintro e w5 ⟨t, h, m', rfl, hN, hk1, hm', hsz5, hcx, hout⟩
        obtain ⟨W4, hW4⟩ : ∃ W4, (w3.alloc (.cells #[.int .i64 2] 3)).alloc (.cells #[] 55) = W4 := ⟨_, rfl⟩
        have HSS : Hid (w3.heap.size + 2 = W4.heap.size) := by show _ = _; rw [← hW4, World.size_alloc, World.size_alloc]
        have HBB : Hid (Below w3.heap.size w3 W4) := hW4 ▸ HBa.out _ _
        rw [hW4] at hN hout
        have HN5 : Hid (OwnN w5 t h (Rng W4 w5)) := hN
        have HM5 : Hid (Mg w w5 cb len cap a q1 (.slice ka P.length kc) P G) := HM3.out.out hcx.cur ⟨hout.os.trans HBB.out.os, hout.tape.trans HBB.out.tape, hout.output.trans HBB.out.output, Nat.le_trans HBB.out.size hout.size, fun k hk hf => (hout.block k (by have := HSS.out; omega) (fun e => by rcases e with e | e; exact hf e; omega)).trans (HBB.out.block k hk)⟩
        have HSZ : Hid (nsz t ≤ 24000) := by show _ ≤ _; omega
        have HGr : Hid (∀ i b, G i b → b < w3.heap.size) := fun i b hb => (HM3.out.kid.rng i b hb).2
        have HVr : Hid (∀ g, (Value.slice ka P.length kc).ownBlock = some g → g < w3.heap.size) := fun g e => (World.ownsRow.lt HM3.out.kid.own g e).2
        have HO5 : Hid (W4.heap.size ≤ w5.heap.size ∧ q1 ≤ w3.heap.size) := ⟨hout.size, HM3.out.ge.2.2⟩
        have HBA : Hid (∀ o o', Below w5.heap.size w5 ((w5.alloc o).alloc o')) := fun o o' => ((Below.refl _ _).alloc (Nat.le_refl _) o).alloc (by simp) o'
        have HFF : Hid (∀ o o', Inc (Rng W4 w5) (fun b => q1 ≤ b ∧ b < ((w5.alloc o).alloc o').heap.size)) := fun o o' b hb => by have := HO5.out; have := HSS.out; have := (HBA.out o o').size; have h1 := hb.1; have h2 := hb.2; exact ⟨by omega, by omega⟩
        have HFG : Hid (∀ g, (Value.slice ka P.length kc).ownBlock = some g → ¬ Rng W4 w5 g) := fun g e hb => by have := HVr.out g e; have := HSS.out; have h1 := hb.1; omega
        have HFA : Hid (∀ i, Apart (G i) (Rng W4 w5)) := fun i b hb hc => by have := HGr.out i b hb; have := HSS.out; have h1 := hc.1; omega
        clear hN hcx hout hsz5 hk1 hW4 HCX HXb HBa HM3
        go_wp2_with (at_builtin; refine add_kid q1 (.slice ka P.length kc) _ P G (t, h) (Rng W4 w5) (HM5.out.below (HBA.out _ _)).kid (HM5.out.below (HBA.out _ _)).ge.2.2 (by omega) (HN5.out.below (HBA.out _ _)) (HFF.out _ _) HFG.out HFA.out (by rfl) _ _ (by rfl) (by rfl) (by rfl) (cells_new_at (w5.alloc _) t h _ _ (by simp)) ?_; rintro av cv w6 hk6 hb6; have HM6 : Hid _ := (HM5.out.below (HBA.out _ _)).more hk6 hb6; clear hk6 hb6)
        go_roundw
        case rel =>
          have hl1 : (P ++ [(t, h)]).length = P.length + 1 := by rw [List.length_append]; rfl
          exact ⟨i - 1, av, cv, P ++ [(t, h)], (fun i' => if i' = P.length then Rng W4 w5 else G i'), by omega, by omega, by rw [hl1]; omega, by rw [hl1], by go_num, mg_sz hsz.out HSZ.out, by rw [hl1]; exact HM6.out⟩
        case measure => simp [intOf]; omega
    · go_wp2
      go_ret
      refine ⟨ka, kc, P, rfl, ?_, by have := hsz.out; omega, hmg.out.bel⟩
      exact trees.OwnL.sub hmg.out.kid.rowOf (fun b hb => ⟨by have := hmg.out.ge; have := hb.1; omega, hb.2⟩)
end Go.Proofs.Ytdpbiaomhndpcaa.draws
