/-
  A draw of a tree that is right.
  (Texts of ours laid as one: DrawTree, DrawPath, DrawPlaces, DrawSame, PlaceFacts, SpecNodes.)
-/
import Derived.Test.YtpejcblmglbjfaaDrawEl
import Derived.Test.YtpejcblmglbjfaaSpecPart
import Derived.Maps.AppendAt
import Derived.Test.YtpejcblmglbjfaaLayP
import Derived.Deep.RegionWith
import Derived.Test.YtpejcblmglbjfaaPlacesP
import Derived.Test.YtpejcblmglbjfaaCountP
namespace Go.Proofs.Ytpejcblmglbjfaa.draws
open Go.ChangeShapes Go.WideShapes Go.ChangeAt Go.RowKit
open pairs (Pair at0 PairsAt)
open trees (Att Tree Hdr vals TH th0 cellsN Bset Out Inc Apart OwnN OwnP OwnA OwnL RowA RowV Rng nsz nszs trees1 box8 box_froz box_kept box_under NodeIn NodesAt)
set_option linter.unusedVariables false
abbrev rootT (P : List TH) : Tree := .mk 0 ⟨#[]⟩ ⟨#[]⟩ ⟨#[]⟩ ⟨#[]⟩ [] [] (trees1 P)
/-- Each of the row is an element whose parts are known, or has no lists. -/
structure Els (W : World) (P : List TH) (G : Nat → Bset) : Prop where
  el : ∀ i, i < P.length → (th0 P i).1.kind = 1 → ElParts (G i) W (th0 P i).1 (th0 P i).2
  leaf : ∀ i, i < P.length → (th0 P i).1.kind ≠ 1 → ∀ b, ¬ G i b
theorem Els.nil (W : World) (G : Nat → Bset) : Els W [] G := ⟨fun i hi => absurd hi (Nat.not_lt_zero i), fun i hi => absurd hi (Nat.not_lt_zero i)⟩
theorem Els.out {W W' : World} {P : List TH} {G : Nat → Bset} {K : Bset} (h : Els W P G) (ho : Out K W W') (hd : ∀ i, i < P.length → Apart (G i) K) : Els W' P G := ⟨fun i hi hk => (h.el i hi hk).out ho (hd i hi), h.leaf⟩
theorem Els.add {W : World} {P : List TH} {G : Nat → Bset} {x : TH} {F : Bset} (h : Els W P G) (h1 : x.1.kind = 1 → ElParts F W x.1 x.2) (h2 : x.1.kind ≠ 1 → ∀ b, ¬ F b) : Els W (P ++ [x]) (fun i => if i = P.length then F else G i) := by
  have e1 : th0 (P ++ [x]) P.length = x := by unfold th0; rw [List.getD_eq_getElem?_getD, List.getElem?_append_right (Nat.le_refl _), Nat.sub_self]; rfl
  have e2 : ∀ i, i < P.length → th0 (P ++ [x]) i = th0 P i := fun i hi => by unfold th0; rw [List.getD_eq_getElem?_getD, List.getD_eq_getElem?_getD, List.getElem?_append_left hi]
  refine ⟨fun i hi hk => ?_, fun i hi hk b => ?_⟩
  all_goals rw [List.length_append, List.length_singleton] at hi
  · by_cases e : i = P.length
    · subst e; rw [e1] at hk ⊢; rw [if_pos rfl]; exact h1 hk
    · rw [if_neg e]; rw [e2 i (by omega)] at hk ⊢; exact h.el i (by omega) hk
  · by_cases e : i = P.length
    · subst e; rw [e1] at hk; rw [if_pos rfl]; exact h2 hk b
    · rw [if_neg e]; rw [e2 i (by omega)] at hk; exact h.leaf i (by omega) hk b
/-- A tree while it is drawn: the answer's box, how many may be drawn, its own box (vb: its nodes as the box has them). -/
structure Dw (w W : World) (cb mb nb s len cap : Nat) (a : Option Addr) (m : Nat) (vb v : Value) (P : List TH) (G : Nat → Bset) : Prop where
  ent : CurAt w cb a len cap
  st : ∃ (w0 : World) (m0 : Nat), w0.heap.size ≤ nb ∧ Cx w0 cb mb len cap a m0
  cx : Cx W cb mb len cap a m
  res : W.heap[w.heap.size]? = some (.cells zero8 28 (0, 0))
  box : W.heap[nb]? = some (.cells #[.int .i64 0, .string ⟨#[]⟩, .string ⟨#[]⟩, .string ⟨#[]⟩, .slice none 0 0, .slice none 0 0, vb, .string ⟨#[]⟩] 28 (0, 0))
  kid : KidR W s v P G
  els : Els W P G
  out : Out (fun b => b = cb) w W
  lts : cb < w.heap.size ∧ w.heap.size < mb ∧ mb < nb ∧ nb < s ∧ s ≤ W.heap.size
theorem kid_apart {W : World} {s : Nat} {v : Value} {P : List TH} {G : Nat → Bset} {K : Bset} (h : KidR W s v P G) (hK : ∀ b, K b → b < s) : ∀ i, i < P.length → Apart (G i) K := fun i _ b hb hk => by have := (h.rng i b hb).1; have := hK b hk; omega
theorem Dw.turn {w W W' : World} {cb mb nb s len cap : Nat} {a : Option Addr} {m m' : Nat} {vb v : Value} {P : List TH} {G : Nat → Bset} (h : Dw w W cb mb nb s len cap a m vb v P G) (hc : Cx W' cb mb len cap a m') (ho : Out (Fm cb mb) W W') : Dw w W' cb mb nb s len cap a m' vb v P G := by
  obtain ⟨l1, l2, l3, l4, l5⟩ := h.lts
  have hF : ∀ b, Fm cb mb b → b < s := fun b hf => by rcases hf with e | e <;> omega
  exact ⟨h.ent, h.st, hc, (ho.block _ (by omega) (fun hf => by rcases hf with e | e <;> omega)).trans h.res, (ho.block _ (by omega) (fun hf => by rcases hf with e | e <;> omega)).trans h.box, h.kid.out ho hF, h.els.out ho (kid_apart h.kid hF),
    ⟨ho.os.trans h.out.os, ho.tape.trans h.out.tape, ho.output.trans h.out.output, Nat.le_trans h.out.size ho.size, fun k hk hf => (ho.block k (Nat.lt_of_lt_of_le hk h.out.size) (fun e => by rcases e with e | e; exact hf e; omega)).trans (h.out.block k hk hf)⟩, l1, l2, l3, l4, Nat.le_trans l5 ho.size⟩
theorem Dw.but {w W W' : World} {cb mb nb s len cap : Nat} {a : Option Addr} {m : Nat} {vb v : Value} {P : List TH} {G : Nat → Bset} (h : Dw w W cb mb nb s len cap a m vb v P G) (hc : CurAt W' cb a len cap) (hb : ButFor cb W W') : Dw w W' cb mb nb s len cap a m vb v P G := h.turn (h.cx.but hc hb) (out_but hb)
theorem Dw.below {w W W' : World} {cb mb nb s len cap : Nat} {a : Option Addr} {m : Nat} {vb v : Value} {P : List TH} {G : Nat → Bset} (h : Dw w W cb mb nb s len cap a m vb v P G) (hb : Below W.heap.size W W') : Dw w W' cb mb nb s len cap a m vb v P G := h.turn (h.cx.below hb) (Out.of_below hb)
/-- One more node; all that lies below s stays. -/
theorem Dw.more {w W W' : World} {cb mb nb s len cap : Nat} {a : Option Addr} {m : Nat} {vb v v' : Value} {P P' : List TH} {G G' : Nat → Bset} (h : Dw w W cb mb nb s len cap a m vb v P G) (hk : KidR W' s v' P' G') (he : Els W' P' G') (hb : Below s W W') : Dw w W' cb mb nb s len cap a m vb v' P' G' := by
  obtain ⟨l1, l2, l3, l4, l5⟩ := h.lts
  obtain ⟨w0, m0, e0, h0⟩ := h.st
  exact ⟨h.ent, h.st, h0.far h.cx hb.size (fun k hk => hb.block k (by omega)), (hb.block _ (by omega)).trans h.res, (hb.block _ (by omega)).trans h.box, hk, he,
    ⟨hb.os.trans h.out.os, hb.tape.trans h.out.tape, hb.output.trans h.out.output, Nat.le_trans h.out.size hb.size, fun k hk hf => (hb.block k (by omega)).trans (h.out.block k hk hf)⟩, l1, l2, l3, l4, Nat.le_trans l5 hb.size⟩
/-- The box takes what there is. -/
theorem Dw.set {w W : World} {cb mb nb s len cap : Nat} {a : Option Addr} {m : Nat} {vb v : Value} {P : List TH} {G : Nat → Bset} (h : Dw w W cb mb nb s len cap a m vb v P G) : Dw w (W.setCell ⟨nb, 6, none⟩ v) cb mb nb s len cap a m v v P G := by
  obtain ⟨l1, l2, l3, l4, l5⟩ := h.lts
  obtain ⟨w0, m0, e0, h0⟩ := h.st
  have hk : ∀ k, k ≠ nb → (W.setCell ⟨nb, 6, none⟩ v).heap[k]? = W.heap[k]? := fun k hk => Below.heap_setCell W ⟨nb, 6, none⟩ _ k hk
  have ho : Out (fun b => b = nb) W (W.setCell ⟨nb, 6, none⟩ v) := (Out.refl _ _).set (F := fun b => b = nb) rfl _ _
  have hF : ∀ b, b = nb → b < s := fun b e => by omega
  exact ⟨h.ent, h.st, h0.far h.cx (by rw [trees.size_setCell]; exact Nat.le_refl _) (fun k hk' => hk k (by omega)), (hk _ (by omega)).trans h.res, by rw [pairs.block_set _ h.box]; rfl, h.kid.out ho hF, h.els.out ho (kid_apart h.kid hF), ⟨h.out.os, h.out.tape, h.out.output, by rw [trees.size_setCell]; exact h.out.size, fun k hk' hf => (hk k (by omega)).trans (h.out.block k hk' hf)⟩, l1, l2, l3, l4, by rw [trees.size_setCell]; exact l5⟩
/-- append of one node, and that nothing but the row has turned. -/
theorem add_kid2 {ops : Array Oper} {rest : List Oper} {o : Oper} {a : Act} {w : World} {Q : Exit → Act → World → Prop} (B : Nat) (v : Value) (q : Nat) (P : List TH) (G : Nat → Bset) (x : TH) (F : Bset)
    (hR : KidR w B v P G) (hB : B ≤ w.heap.size) (hn : P.length ≤ 2000000) (hx : OwnN w x.1 x.2 F) (hF : Inc F (fun b => B ≤ b ∧ b < w.heap.size)) (hFg : ∀ g, v.ownBlock = some g → ¬ F g) (hFa : ∀ i, Apart (G i) F) (hgd : o.guard = none) (s y : Operand)
    (ho : o.op = .call { callee := .builtin .append, args := #[s, y], argTypes := #[26, 26] }) (hs : a.eval s = v) (hy : a.eval y = .slice (some ⟨q, 0, none⟩) 1 1)
    (hc : ∀ j u, (vals x.1 x.2).toList[j]? = some u → w.cell? ⟨q, j, none⟩ = some u)
    (h : ∀ av cv w', KidR w' B (.slice av (P.length + 1) cv) (P ++ [x]) (fun i => if i = P.length then F else G i) → Below B w w' → Out (fun b => v.ownBlock = some b) w w' → wpList Try.prog ops Q rest (a.put o.dst (.slice av (P.length + 1) cv)) w') : wpList Try.prog ops Q (o :: rest) a w := by
  obtain ⟨i0, hi, hz0, hz1, hz2⟩ := info_parts trees.infoN
  obtain ⟨v', w', hrun, ho', hgr, _, hg⟩ := run_append_own_at (P := Try.prog) (w := w) B 26 o.type 28 i0 (.agg #[.int .i64 0, .string ⟨#[]⟩, .string ⟨#[]⟩, .string ⟨#[]⟩, .slice none 0 0, .slice none 0 0, .slice none 0 0, .string ⟨#[]⟩]) 8 144 Try.underlying26 hi hz0 hz1 hz2 rfl (by decide) v P.length (cellsN P) hR.own ⟨q, 0, none⟩ 1 1 (vals x.1 x.2).toList rfl (fun j u hj => by
    rw [show (⟨q, 0, none⟩ : Addr).add j = ⟨q, j, none⟩ by rw [Addr.add_lit, Nat.zero_add]]
    exact hc j u hj) (trees.vals_one _ _) (by unfold maxLen; omega) (by omega) hB
  have hk := kid_more hR hB ho' hg hgr hx hF hFg hFa
  have hb : Below B w w' := ⟨hgr.os, hgr.tape, hgr.output, hgr.size, fun k hk' => hgr.block k (by omega) (fun e => by have := (World.ownsRow.lt hR.own k e.symm).1; omega)⟩
  have hout : Out (fun b => v.ownBlock = some b) w w' := ⟨hgr.os, hgr.tape, hgr.output, hgr.size, fun k hk' hf => hgr.block k hk' (fun e => hf e.symm)⟩
  obtain ⟨a', c', e⟩ := hk.shape
  rw [List.length_append, List.length_singleton] at e
  subst e
  exact pairs.wpList_run hgd s y _ ho _ _ _ hs hy hrun (h a' c' w' hk hb hout)
theorem leaf_own (w : World) (k : Int) (l x : ByteArray) (h0 : 0 ≤ k ∧ k ≤ 4) (hl : l.size ≤ 100) (hx : x.size ≤ 100) : OwnN w (.mk k ⟨#[]⟩ l ⟨#[]⟩ x [] [] []) ⟨none, 0, none, 0, none, 0⟩ (fun _ => False) := own_plain w k l x h0 (by unfold maxLen; omega) (by unfold maxLen; omega)
theorem no_row (w : World) (ia : Option Addr) : PairsAt w ia [] := ⟨fun h => absurd h (by simp), Nat.zero_le _, fun i hi => absurd hi (by simp)⟩
theorem none_parts (Z : World) (F : Bset) (k : Int) (p l u x : ByteArray) : ElParts F Z (.mk k p l u x [] [] []) ⟨none, 0, none, 0, none, 0⟩ :=
  ⟨⟨0, 0, 0, 0, 0, [], fun _ _ => False, ⟨Nat.le_refl _, Nat.le_refl _, Nat.le_refl _, Nat.le_refl _, Nat.zero_le _⟩, fun b h1 h2 => absurd h2 (by omega), fun h => absurd h (Nat.lt_irrefl 0), AttV.nil _ _, fun h => absurd h (Nat.lt_irrefl 0), fun g e => (by cases e), rfl, KidR.nil _ _, fun i b h => False.elim h, fun g e => (by cases e)⟩⟩
/-- What l5Draw answers: a right tree, all of it new. -/
structure TreeD (w Z : World) (cb len cap : Nat) (a : Option Addr) (g : Nat) (P : List TH) (G : Nat → Bset) (v : Value) : Prop where
  kid : ∃ s, KidR Z s v P G ∧ w.heap.size ≤ s
  own : v.ownBlock = some g
  ok : trees.treeOkB (rootT P) = true
  sz : nszs (trees1 P) ≤ 200000
  els : Els Z P G
  cur : CurAt Z cb a len cap
  out : Out (fun b => b = cb) w Z
theorem Dw.fin {w W Z : World} {cb mb nb s len cap g : Nat} {a : Option Addr} {m : Nat} {vb v : Value} {P : List TH} {G : Nat → Bset} (h : Dw w W cb mb nb s len cap a m vb v P G) (hv : v.ownBlock = some g) (hok : trees.treeOkB (rootT P) = true) (hsz : nszs (trees1 P) ≤ 200000) (hZ : Out (fun b => b = w.heap.size) W Z) : TreeD w Z cb len cap a g P G v := by
  obtain ⟨l1, l2, l3, l4, l5⟩ := h.lts
  have hF : ∀ b, b = w.heap.size → b < s := fun b e => by omega
  exact ⟨⟨s, h.kid.out hZ hF, by omega⟩, hv, hok, hsz, h.els.out hZ (kid_apart h.kid hF), h.ent.keeps h.cx.cur hZ.size (fun k hk => hZ.block k (by omega) (fun e => by omega)),
    ⟨hZ.os.trans h.out.os, hZ.tape.trans h.out.tape, hZ.output.trans h.out.output, Nat.le_trans h.out.size hZ.size, fun k hk hf => (hZ.block k (Nat.lt_of_lt_of_le hk h.out.size) (fun e => by omega)).trans (h.out.block k hk hf)⟩⟩
/-- The tree that stands for one that is not right. -/
abbrev bareP : List TH := [(.mk 1 ⟨#[]⟩ ⟨#[97]⟩ ⟨#[]⟩ ⟨#[]⟩ [] [] [], ⟨none, 0, none, 0, none, 0⟩)]
theorem bare_ok : trees.treeOkB (rootT bareP) = true := by kernel_rfl
theorem bare_kid (W : World) (s : Nat) (hs : s ≤ W.heap.size) : KidR (W.alloc (.cells (vals (.mk 1 ⟨#[]⟩ ⟨#[97]⟩ ⟨#[]⟩ ⟨#[]⟩ [] [] []) ⟨none, 0, none, 0, none, 0⟩) 28)) s (.slice (some ⟨W.heap.size, 0, none⟩) 1 1) bareP (fun _ _ => False) := by
  refine ⟨⟨rfl, .inr ⟨W.heap.size, 1, _, rfl, hs, heap_alloc_new W _, Nat.le_refl _, by decide, rfl, rfl⟩⟩, fun i b h => False.elim h, fun i g _ h => h, fun i j _ b h => False.elim h, fun i hi => ?_⟩
  obtain rfl : i = 0 := by have : i < 1 := hi; omega
  exact leaf_own _ 1 ⟨#[97]⟩ ⟨#[]⟩ (by decide) (by decide) (by decide)
theorem bare_els (W : World) (G : Nat → Bset) : Els W bareP G := ⟨fun i hi _ => by
    obtain rfl : i = 0 := by have : i < 1 := hi; omega
    exact none_parts W _ _ _ _ _ _, fun i hi h => by
    obtain rfl : i = 0 := by have : i < 1 := hi; omega
    exact absurd rfl h⟩
def l5DrawOk (w : World) (cb len cap : Nat) (a : Option Addr) : Prop :=
  Calls Try.prog 47 #[.pointer (some ⟨cb, 0, none⟩)] w fun e w' => ∃ (g kc : Nat) (P : List TH) (G : Nat → Bset), e = .returned (.agg #[.int .i64 0, .string ⟨#[]⟩, .string ⟨#[]⟩, .string ⟨#[]⟩, .slice none 0 0, .slice none 0 0, .slice (some ⟨g, 0, none⟩) P.length kc, .string ⟨#[]⟩]) ∧ TreeD w w' cb len cap a g P G (.slice (some ⟨g, 0, none⟩) P.length kc)
theorem Dw.node {w W : World} {cb mb nb s len cap : Nat} {a : Option Addr} {m : Nat} {vb v : Value} {P : List TH} {G : Nat → Bset} (h : Dw w W cb mb nb s len cap a m vb v P G) (hl : P.length ≤ 100) : ∃ ka kc, v = .slice ka P.length kc ∧ NodeIn W 0 (rootT P) ⟨none, 0, none, 0, ka, kc⟩ := by
  obtain ⟨ka, kc, e, ho⟩ := h.kid.row
  have hk := trees.OwnL.at ho (by rw [trees.trees1_len]; unfold maxLen; omega)
  have hz : (⟨#[]⟩ : ByteArray).size ≤ maxLen := Nat.zero_le _
  have hroom : P.length ≤ kc := by
    rcases h.kid.own.2 with ⟨e1, h0⟩ | ⟨g, cap, cur, e1, _, _, h2, _⟩
    · omega
    · rw [e] at e1; cases e1; exact h2
  exact ⟨ka, kc, e, trees.node_of (t := rootT P) (h := ⟨none, 0, none, 0, ka, kc⟩) ⟨⟨⟨by show -9223372036854775808 ≤ (0 : Int); omega, by show (0 : Int) ≤ 9223372036854775807; omega⟩, hz, hz, hz, hz, by show (trees1 P).length ≤ maxLen; rw [trees.trees1_len]; unfold maxLen; omega⟩, by show (trees1 P).length ≤ kc; rw [trees.trees1_len]; exact hroom⟩ (pairs.nil_pairs W) (trees.nil_atts W) hk (fun _ _ => Nat.zero_le _) (fun _ _ => Nat.zero_le _)⟩
set_option maxRecDepth 100000 in
set_option maxHeartbeats 8000000 in
theorem l5draw (w : World) (cb len cap : Nat) (a : Option Addr) (HC : Hid (CurAt w cb a len cap)) : l5DrawOk w cb len cap a := by
  unfold l5DrawOk
  have HRS : Hid (CurAt (w.alloc (.cells #[.int .i64 0, .string ⟨#[]⟩, .string ⟨#[]⟩, .string ⟨#[]⟩, .slice none 0 0, .slice none 0 0, .slice none 0 0, .string ⟨#[]⟩] 28)) cb a len cap) := HC.out.stays (Nat.le_refl _) ((Below.refl _ _).alloc (Nat.le_refl _) _)
  have HX0 : Hid _ := heap_alloc_new w (.cells #[.int .i64 0, .string ⟨#[]⟩, .string ⟨#[]⟩, .string ⟨#[]⟩, .slice none 0 0, .slice none 0 0, .slice none 0 0, .string ⟨#[]⟩] 28)
  have HB0 : Hid (Below w.heap.size w (w.alloc (.cells #[.int .i64 0, .string ⟨#[]⟩, .string ⟨#[]⟩, .string ⟨#[]⟩, .slice none 0 0, .slice none 0 0, .slice none 0 0, .string ⟨#[]⟩] 28))) := (Below.refl _ _).alloc (Nat.le_refl _) _
  have HCL : Hid (cb < w.heap.size) := HC.out.here
  have HENT : Hid (CurAt w cb a len cap) := HC.out
  clear HC
  go_enter Try.func47, Try.ntmps47
  go_wp2_with fail
  refine (below_any _ cb len cap a 8 (by decide) HRS.out).mono ?_
  rintro e w1 ⟨x, rfl, hx0, hx1, hc1, hb1⟩
  obtain ⟨y, rfl⟩ : ∃ y : Nat, x = y := ⟨x.toNat, by omega⟩
  have hy : y < 8 := by omega
  have HC1 : Hid _ := hc1
  have HX1 : Hid (w1.heap[w.heap.size]? = some (.cells zero8 28 (0, 0))) := (hb1.block _ (pairs.lt_heap HX0.out) (by have := HCL.out; omega)).trans HX0.out
  have HO1 : Hid (Out (fun b => b = cb) w w1) := (Out.of_below HB0.out).trans ⟨hb1.os, hb1.tape, hb1.output, hb1.size, fun k hk hf => hb1.block k hk hf⟩
  have HS1 : Hid (w.heap.size < w1.heap.size) := pairs.lt_heap HX1.out
  clear hb1 hc1 HRS HX0 HB0 hx0 hx1
  have hwr : IntKind.i64.wrap (3 + (y : Int)) = ((3 + y : Nat) : Int) := by rw [IntKind.wrap_i64]; omega
  obtain ⟨M, hM⟩ : ∃ M : Nat, 3 + y = M := ⟨_, rfl⟩
  have hMl : M ≤ 10 := by omega
  have hMc : (3 : Int) + (y : Int) = (M : Int) := by omega
  have HD0 : Hid (Dw w ((w1.alloc (.cells #[.int .i64 (M : Int)] 3)).alloc (.cells #[.int .i64 0, .string ⟨#[]⟩, .string ⟨#[]⟩, .string ⟨#[]⟩, .slice none 0 0, .slice none 0 0, .slice none 0 0, .string ⟨#[]⟩] 28)) cb w1.heap.size (w1.heap.size + 1) (w1.heap.size + 2) len cap a M (.slice none 0 0) (.slice none 0 0) [] (fun _ _ => False)) := by
    have hA : Below w1.heap.size w1 (w1.alloc (.cells #[.int .i64 (M : Int)] 3)) := (Below.refl _ _).alloc (Nat.le_refl _) _
    have hB : Below (w1.heap.size + 1) (w1.alloc (.cells #[.int .i64 (M : Int)] 3)) ((w1.alloc (.cells #[.int .i64 (M : Int)] 3)).alloc (.cells zero8 28)) := (Below.refl _ _).alloc (by simp) _
    have hAB := hA.trans (hB.mono (Nat.le_succ _))
    have hCx1 : Cx (w1.alloc (.cells #[.int .i64 (M : Int)] 3)) cb w1.heap.size len cap a M := ⟨HC1.out.stays (Nat.le_refl _) hA, heap_alloc_new w1 _, by have := HCL.out; have := HS1.out; omega, fun h0 b off e => by obtain ⟨b', off', e', hb, _⟩ := HC1.out.row.row h0; rw [e] at e'; cases e'; omega⟩
    have hn := heap_alloc_new (w1.alloc (.cells #[.int .i64 (M : Int)] 3)) (.cells zero8 28)
    rw [World.size_alloc] at hn
    exact ⟨HENT.out, ⟨_, M, by rw [World.size_alloc]; exact Nat.le_refl _, hCx1⟩, hCx1.below (hB.mono (by simp)), (hAB.block _ HS1.out).trans HX1.out, hn, KidR.nil _ _, Els.nil _ _, HO1.out.trans (Out.of_below hAB), HCL.out, HS1.out, Nat.lt_succ_self _, Nat.lt_succ_self _, by rw [World.size_alloc, World.size_alloc]; exact Nat.le_refl _⟩
  obtain ⟨mb, hmb⟩ : ∃ q, w1.heap.size = q := ⟨_, rfl⟩
  go_wp2_with fail
  refine (once_any _ cb len cap a 4 (by decide) HD0.out.cx.cur).mono ?_
  rintro e w2 ⟨b1, rfl, hc2, hb2⟩
  have HD2 : Hid (Dw w w2 cb mb (mb + 1) (mb + 2) len cap a M (.slice none 0 0) (.slice none 0 0) [] (fun _ _ => False)) := hmb ▸ HD0.out.but hc2 hb2
  clear hc2 hb2 HD0 HC1 HX1 HO1 HS1
  go_upto_if 11 with fail
  go_cut [4] from 6 to 17 (fun s4 wc => ∃ (v : Value) (P : List TH) (G : Nat → Bset), s4 = .pointer (some ⟨mb + 1, 0, none⟩) ∧ P.length ≤ 1 ∧ nszs (trees1 P) ≤ 100 ∧ Hid (Dw w wc cb mb (mb + 1) (mb + 2) len cap a M v v P G))
  case first =>
    cases b1
    · go_wp2
      go_meet
      case rel => exact ⟨.slice none 0 0, [], _, rfl, Nat.zero_le _, Nat.zero_le _, HD2.out⟩
    · have n6 := (box8 HD2.out.box).2.2.2.2.2.2.1
      have HLT : Hid (mb + 2 ≤ w2.heap.size) := HD2.out.lts.2.2.2.2
      have HMA : Hid (∀ o, Dw w (w2.alloc o) cb mb (mb + 1) (mb + 2) len cap a M (.slice none 0 0) (.slice none 0 0) [] (fun _ _ => False)) := fun o => HD2.out.below ((Below.refl _ _).alloc (Nat.le_refl _) o)
      go_wp2_with (at_builtin; refine add_kid2 (mb + 2) (.slice none 0 0) _ [] _ (Tree.mk 3 ⟨#[]⟩ ⟨#[]⟩ ⟨#[]⟩ ⟨#[104]⟩ [] [] [], Hdr.mk none 0 none 0 none 0) (fun _ => False) (HMA.out _).kid (HMA.out _).lts.2.2.2.2 (by decide) (leaf_own _ 3 ⟨#[]⟩ ⟨#[104]⟩ (by decide) (by decide) (by decide)) (fun b hb => False.elim hb) (fun g _ hb => hb) (fun i b _ hb => hb) (by rfl) _ _ (by rfl) (by rfl) (by rfl) (cells_new_at w2 (Tree.mk 3 ⟨#[]⟩ ⟨#[]⟩ ⟨#[]⟩ ⟨#[104]⟩ [] [] [], Hdr.mk none 0 none 0 none 0).1 (Tree.mk 3 ⟨#[]⟩ ⟨#[]⟩ ⟨#[]⟩ ⟨#[104]⟩ [] [] [], Hdr.mk none 0 none 0 none 0).2 _ _ (by simp)) ?_; rintro av cv w6 hk6 hb6 ho6; have HM6 : Hid _ := ((HMA.out _).more hk6 ((Els.nil w6 _).add (fun h => absurd h (by decide)) (fun _ _ h => h)) hb6); clear hk6 hb6 ho6; obtain ⟨n0, n1, n2, n3, n4, n5, n6', n7⟩ := box8 HM6.out.box; obtain ⟨f0, f1, f2, f3, f4, f5, f6, f7⟩ := box_froz HM6.out.box)
      go_meet
      case rel => exact ⟨_, _, _, rfl, Nat.le_refl _, by decide, HM6.out.set⟩
  case rest =>
    obtain ⟨v, P, G, rfl, hPl, hPz, HD⟩ := hcut
    have HDA : Hid (∀ o, Dw w (wc.alloc o) cb mb (mb + 1) (mb + 2) len cap a M v v P G) := fun o => HD.out.below ((Below.refl _ _).alloc (Nat.le_refl _) o)
    have hE := fun o => el_any M (by omega) (wc.alloc o) cb mb len cap a (some ⟨wc.heap.size, 0, none⟩) [] 0 (by simp; omega) (HDA.out o).cx ⟨no_row _ _, fun i hi => absurd hi (by simp), fun b off e => by cases e; have := HD.out.cx.lt; exact ⟨by omega, by omega⟩⟩
    unfold ElOk vals at hE
    have HE : Hid (∀ o, _) := hE
    clear hE
    go_wp2_with fail
    refine (HE.out _).mono ?_
    rintro e w3 ⟨t, h, m', rfl, hN, hk1, hm', hsz, hcx, hout, hel⟩
    obtain ⟨W3, hW3⟩ : ∃ W3, wc.alloc (.cells #[] 84) = W3 := ⟨_, rfl⟩
    rw [hW3] at hN hout hel
    have HS3 : Hid (W3.heap.size = wc.heap.size + 1 ∧ W3.heap.size ≤ w3.heap.size) := ⟨by rw [← hW3, World.size_alloc], hout.size⟩
    have HD3 : Hid (Dw w w3 cb mb (mb + 1) (mb + 2) len cap a m' v v P G) := (hW3 ▸ HDA.out (.cells #[] 84)).turn hcx hout
    have HN3 : Hid (OwnN w3 t h (Rng W3 w3)) := hN
    have HEL : Hid (ElParts (Rng W3 w3) w3 t h) := hel
    have HSZ : Hid (nsz t ≤ 88000) := by show _ ≤ _; omega
    have HGr : Hid (∀ i b, G i b → b < wc.heap.size) := fun i b hb => (HD.out.kid.rng i b hb).2
    have HVr : Hid (∀ g, v.ownBlock = some g → g < wc.heap.size) := fun g e => (World.ownsRow.lt HD.out.kid.own g e).2
    have HLS : Hid (mb + 2 ≤ wc.heap.size) := HD.out.lts.2.2.2.2
    have HBA : Hid (∀ o o', Below w3.heap.size w3 ((w3.alloc o).alloc o')) := fun o o' => ((Below.refl _ _).alloc (Nat.le_refl _) o).alloc (by simp) o'
    have HD5 : Hid (∀ o o', Dw w ((w3.alloc o).alloc o') cb mb (mb + 1) (mb + 2) len cap a m' v v P G) := fun o o' => HD3.out.below (HBA.out o o')
    have HK1 : Hid (t.kind = 1) := hk1
    have n6 := fun o => (box8 (HD3.out.below ((Below.refl _ _).alloc (Nat.le_refl _) o)).box).2.2.2.2.2.2.1
    have HFF : Hid (∀ o o', Inc (Rng W3 w3) (fun b => mb + 2 ≤ b ∧ b < ((w3.alloc o).alloc o').heap.size)) := fun o o' b hb => by have h1 := HS3.out; have h2 := HLS.out; have h3 := (HBA.out o o').size; have h4 := hb.1; have h5 := hb.2; exact ⟨by omega, by omega⟩
    have HFG : Hid (∀ g, v.ownBlock = some g → ¬ Rng W3 w3 g) := fun g e hb => by have h1 := HVr.out g e; have h2 := HS3.out; have h3 := hb.1; omega
    have HFA : Hid (∀ i, Apart (G i) (Rng W3 w3)) := fun i b hb hc => by have h1 := HGr.out i b hb; have h2 := HS3.out; have h3 := hc.1; omega
    have HELS : Hid (∀ o o' w6, Out (fun b => v.ownBlock = some b) ((w3.alloc o).alloc o') w6 → Els w6 (P ++ [(t, h)]) (fun i => if i = P.length then Rng W3 w3 else G i)) := fun o o' w6 ho6 =>
      ((HD5.out o o').els.out ho6 (fun i _ b hb e => (HD5.out o o').kid.not i b e hb)).add (fun _ => (HEL.out.out (Out.of_below (F := fun _ => False) (HBA.out o o')) (fun _ _ h => h)).out ho6 (fun b hb e => HFG.out b e hb)) (fun hne => absurd HK1.out hne)
    clear hN hk1 hm' hsz hcx hout hel hW3 HDA HD HE
    go_wp2_with (at_builtin; refine add_kid2 (mb + 2) v _ P G (t, h) (Rng W3 w3) (HD5.out _ _).kid (HD5.out _ _).lts.2.2.2.2 (by omega) (HN3.out.below (HBA.out _ _)) (HFF.out _ _) HFG.out HFA.out (by rfl) _ _ (by rfl) (by rfl) (by rfl) (cells_new_at (w3.alloc _) t h _ _ (by simp)) ?_; rintro av cv w6 hk6 hb6 ho6; have HD6 : Hid _ := ((HD5.out _ _).more hk6 (HELS.out _ _ _ ho6) hb6); clear hk6 hb6 ho6; obtain ⟨n0, n1, n2, n3, n4, n5, n6', n7⟩ := box8 HD6.out.box; obtain ⟨f0, f1, f2, f3, f4, f5, f6, f7⟩ := box_froz HD6.out.box)
    have HD7 : Hid _ := HD6.out.set
    have hPl2 : (P ++ [(t, h)]).length ≤ 2 := by rw [List.length_append]; show P.length + 1 ≤ 2; omega
    have hPz2 : nszs (trees1 (P ++ [(t, h)])) ≤ 90000 := by rw [trees.trees1_append, trees.trees1_one, trees.nszs_append, trees.nszs_one]; have := HSZ.out; show _ + (1 + nsz t) ≤ _; omega
    go_wp2_with fail
    refine (once_any _ cb len cap a 4 (by decide) HD7.out.cx.cur).mono ?_
    rintro e w8 ⟨b2, rfl, hc8, hb8⟩
    have HD8 : Hid _ := HD7.out.but hc8 hb8
    clear hc8 hb8 HD7 HD6 HD5 HD3 HN3 HEL n0 n1 n2 n3 n4 n5 n6' n7 f0 f1 f2 f3 f4 f5 f6 f7 n6 HFF HFG HFA HBA
    go_upto_if 28 with fail
    go_cut [4] from 6 to 34 (fun s4 wd => ∃ (v2 : Value) (P2 : List TH) (G2 : Nat → Bset), s4 = .pointer (some ⟨mb + 1, 0, none⟩) ∧ P2.length ≤ 3 ∧ 1 ≤ P2.length ∧ nszs (trees1 P2) ≤ 100000 ∧ Hid (Dw w wd cb mb (mb + 1) (mb + 2) len cap a m' v2 v2 P2 G2))
    case first =>
      cases b2
      · go_wp2
        go_meet
        case rel => exact ⟨_, P ++ [(t, h)], _, rfl, by omega, by rw [List.length_append]; show 1 ≤ _ + 1; omega, by omega, HD8.out⟩
      · have n6 := (box8 HD8.out.box).2.2.2.2.2.2.1
        have HLT : Hid (mb + 2 ≤ w8.heap.size) := HD8.out.lts.2.2.2.2
        have HMA : Hid (∀ o, Dw w (w8.alloc o) cb mb (mb + 1) (mb + 2) len cap a m' (.slice av (P.length + 1) cv) (.slice av (P.length + 1) cv) (P ++ [(t, h)]) _) := fun o => HD8.out.below ((Below.refl _ _).alloc (Nat.le_refl _) o)
        have HELT : Hid (∀ o w9, Out (fun b => (Value.slice av (P.length + 1) cv).ownBlock = some b) (w8.alloc o) w9 → Els w9 (P ++ [(t, h)] ++ [(Tree.mk 4 ⟨#[]⟩ ⟨#[116]⟩ ⟨#[]⟩ ⟨#[101, 110, 100]⟩ [] [] [], Hdr.mk none 0 none 0 none 0)]) (fun i => if i = (P ++ [(t, h)]).length then fun _ => False else if i = P.length then Rng W3 w3 else G i)) := fun o w9 ho6 =>
          ((HMA.out o).els.out ho6 (fun i _ b hb e => (HMA.out o).kid.not i b e hb)).add (fun h => absurd h (by decide)) (fun _ _ h => h)
        go_wp2_with (at_builtin; refine add_kid2 (mb + 2) (.slice av (P.length + 1) cv) _ (P ++ [(t, h)]) _ (Tree.mk 4 ⟨#[]⟩ ⟨#[116]⟩ ⟨#[]⟩ ⟨#[101, 110, 100]⟩ [] [] [], Hdr.mk none 0 none 0 none 0) (fun _ => False) (HMA.out _).kid (HMA.out _).lts.2.2.2.2 (by omega) (leaf_own _ 4 ⟨#[116]⟩ ⟨#[101, 110, 100]⟩ (by decide) (by decide) (by decide)) (fun b hb => False.elim hb) (fun g _ hb => hb) (fun i b _ hb => hb) (by rfl) _ _ (by rfl) (by rfl) (by rfl) (cells_new_at w8 (Tree.mk 4 ⟨#[]⟩ ⟨#[116]⟩ ⟨#[]⟩ ⟨#[101, 110, 100]⟩ [] [] [], Hdr.mk none 0 none 0 none 0).1 (Tree.mk 4 ⟨#[]⟩ ⟨#[116]⟩ ⟨#[]⟩ ⟨#[101, 110, 100]⟩ [] [] [], Hdr.mk none 0 none 0 none 0).2 _ _ (by simp)) ?_; rintro av2 cv2 w9 hk6 hb6 ho6; have HM6 : Hid _ := ((HMA.out _).more hk6 (HELT.out _ _ ho6) hb6); clear hk6 hb6 ho6; obtain ⟨n0, n1, n2, n3, n4, n5, n6', n7⟩ := box8 HM6.out.box; obtain ⟨f0, f1, f2, f3, f4, f5, f6, f7⟩ := box_froz HM6.out.box)
        go_meet
        case rel =>
          have e2 : (P ++ [(t, h)] ++ [(Tree.mk 4 ⟨#[]⟩ ⟨#[116]⟩ ⟨#[]⟩ ⟨#[101, 110, 100]⟩ [] [] [], Hdr.mk none 0 none 0 none 0)]).length = (P ++ [(t, h)]).length + 1 := by rw [List.length_append]; rfl
          have e3 : (P ++ [(t, h)]).length = P.length + 1 := by rw [List.length_append]; rfl
          have h9 := HM6.out.set
          rw [e3] at h9
          exact ⟨_, P ++ [(t, h)] ++ [(Tree.mk 4 ⟨#[]⟩ ⟨#[116]⟩ ⟨#[]⟩ ⟨#[101, 110, 100]⟩ [] [] [], Hdr.mk none 0 none 0 none 0)], _, rfl, by omega, by omega, by rw [trees.trees1_append, trees.trees1_one, trees.nszs_append, trees.nszs_one, leaf_sz]; show _ + (1 + (1 + 3)) ≤ _; omega, h9⟩
    case rest =>
      obtain ⟨v2, P2, G2, rfl, hl3, hl1, hz2, HD9⟩ := hcut
      obtain ⟨ka, kc, rfl, hn⟩ := HD9.out.node (by omega)
      have hT := trees.spec_tree_ok (rootT P2) ⟨none, 0, none, 0, ka, kc⟩ 0 wc (by rw [nsz]; simp [pairs.sizeTo, trees.smallA, trees.asizeTo]; show 0 + 0 + 0 + _ + 0 ≤ _; omega) hn
      unfold trees.TreeOkOk at hT
      obtain ⟨c, hc⟩ : ∃ c, trees.treeOkB (rootT P2) = c := ⟨_, rfl⟩
      rw [hc] at hT
      have HC2 : Hid _ := hc
      unfold vals at hT
      simp only [Tree.kind, Tree.pre, Tree.loc, Tree.uri, Tree.text, Tree.ds, Tree.ats, Tree.kids, trees.trees1_len, List.length_nil] at hT
      have HT : Hid _ := hT
      clear hT hn hc
      obtain ⟨n0, n1, n2, n3, n4, n5, n6, n7⟩ := box8 HD9.out.box
      go_wp2_with fail
      refine Calls.mono HT.out ?_
      rintro e w10 ⟨rfl, hb⟩
      have HD10 : Hid _ := HD9.out.below hb
      clear hb n0 n1 n2 n3 n4 n5 n6 n7 HT
      have hne : w.heap.size ≠ mb + 1 := by have := HD10.out.lts; omega
      have hne' : mb + 1 ≠ w.heap.size := fun e => hne e.symm
      cases c
      · have HS10 : Hid (mb + 2 ≤ w10.heap.size) := HD10.out.lts.2.2.2.2
        have HDB : Hid (Dw w (w10.alloc (.cells #[.int .i64 1, .string ⟨#[]⟩, .string ⟨#[97]⟩, .string ⟨#[]⟩, .slice none 0 0, .slice none 0 0, .slice none 0 0, .string ⟨#[]⟩] 28)) cb mb (mb + 1) (mb + 2) len cap a m' (.slice ka P2.length kc) (.slice (some ⟨w10.heap.size, 0, none⟩) 1 1) bareP (fun _ _ => False)) :=
          HD10.out.more (bare_kid w10 (mb + 2) HS10.out) (bare_els _ _) (((Below.refl w10.heap.size w10).alloc (Nat.le_refl _) _).mono HS10.out)
        obtain ⟨r0, r1, r2, r3, r4, r5, r6, r7⟩ := box8 HDB.out.res
        obtain ⟨q0, q1, q2, q3, q4, q5, q6, q7⟩ := box_froz HDB.out.res
        go_wp2_with fail
        refine bodyPost_ret (by simp [results, Try.results47, go_sem, r0, r1, r2, r3, r4, r5, r6, r7]; try rfl) rfl ?_
        exact ⟨w10.heap.size, 1, bareP, _, rfl, HDB.out.fin rfl bare_ok (by decide) (((((((((Out.refl _ _).set (F := fun b => b = w.heap.size) rfl _ _).set rfl _ _).set rfl _ _).set rfl _ _).set rfl _ _).set rfl _ _).set rfl _ _).set rfl _ _)⟩
      · obtain ⟨g, hg⟩ : ∃ g, ka = some ⟨g, 0, none⟩ := by
          obtain ⟨g, cap', cur, e, _⟩ := trees.ownsRow_cells HD10.out.kid.own (by omega)
          cases e
          exact ⟨g, rfl⟩
        subst hg
        obtain ⟨n0, n1, n2, n3, n4, n5, n6, n7⟩ := box8 HD10.out.box
        obtain ⟨r0, r1, r2, r3, r4, r5, r6, r7⟩ := box8 HD10.out.res
        obtain ⟨q0, q1, q2, q3, q4, q5, q6, q7⟩ := box_froz HD10.out.res
        go_wp2_with fail
        refine bodyPost_ret (by simp [results, Try.results47, go_sem, r0, r1, r2, r3, r4, r5, r6, r7]; try rfl) rfl ?_
        exact ⟨g, kc, P2, G2, rfl, HD10.out.fin rfl HC2.out (by omega) (((((((((Out.refl _ _).set (F := fun b => b = w.heap.size) rfl _ _).set rfl _ _).set rfl _ _).set rfl _ _).set rfl _ _).set rfl _ _).set rfl _ _).set rfl _ _)⟩
end Go.Proofs.Ytpejcblmglbjfaa.draws
namespace Go.Proofs.Ytpejcblmglbjfaa.places
open Go.ChangeShapes Go.WideShapes Go.ChangeAt Go.RowKit
open trees (Tree Hdr vals noTree kid nsz nszs tsize ksize NodeIn NodesAt Bset Inc Apart Out Rng)
open ints (int0 okI IFit IntsAt MadeI)
open draws (CurAt ButFor RowAt)
set_option linter.unusedVariables false
/-- append of one number, that lies in a block of its own; and what else stays. -/
theorem add_int2 {ops : Array Oper} {rest : List Oper} {o : Oper} {a : Act} {w : World} {Q : Exit → Act → World → Prop} (B g n c : Nat) (L : List Int) (x : Int) (ty : TypeId)
    (hR : RowI w B g n c L) (hB : B ≤ w.heap.size) (hn : n ≤ 2000000) (hgd : o.guard = none) (s y : Operand)
    (ho : o.op = .call { callee := .builtin .append, args := #[s, y], argTypes := #[32, 32] }) (hs : a.eval s = .slice (some ⟨g, 0, none⟩) n c) (q : Nat) (hy : a.eval y = .slice (some ⟨q, 0, none⟩) 1 1) (hq : q = w.heap.size)
    (h : ∀ g' c' w', RowI w' B g' (n + 1) c' (L ++ [x]) → Below B w w' → w.heap.size ≤ w'.heap.size → (g' = g ∨ w.heap.size ≤ g') → (∀ k, k < w.heap.size → k ≠ g → w'.heap[k]? = w.heap[k]?) → wpList Try.prog ops Q rest (a.put o.dst (.slice (some ⟨g', 0, none⟩) (n + 1) c')) w') : wpList Try.prog ops Q (o :: rest) a (w.alloc (.cells #[.int .i64 x] ty)) := by
  obtain ⟨i0, hi, hz0, hz1, hz2⟩ := info_parts infoI
  subst hq
  obtain ⟨v', w', hrun, ho', hg, _, hw⟩ := run_append_own_at (P := Try.prog) (w := w.alloc (.cells #[.int .i64 x] ty)) B 32 o.type 3 i0 (.int .i64 0) 1 8 Try.underlying32 hi hz0 hz1 hz2 rfl (by decide) (.slice (some ⟨g, 0, none⟩) n c) n (cellsI L) (World.ownsRow.alloc hR.own _) ⟨w.heap.size, 0, none⟩ 1 1 (cellsI [x]) (cellsI_len [x]) (fun j u hj => by
    rw [show (⟨w.heap.size, 0, none⟩ : Addr).add j = ⟨w.heap.size, j, none⟩ by rw [Addr.add_lit, Nat.zero_add]]
    exact pairs.cell_new w _ _ j u (by rw [← Array.getElem?_toList]; exact hj)) (cellsI_one [x]) (by unfold maxLen; omega) (by omega) (by simp; omega)
  have hsz := hg.size
  have hlt := hR.lt
  rcases ho'.2 with ⟨rfl, h0⟩ | ⟨g', cap', cur, rfl, _⟩
  · exact absurd h0 (by omega)
  · have hk : ∀ k, k < w.heap.size → k ≠ g → w'.heap[k]? = w.heap[k]? := fun k hk hne => (hg.block k (by simp; omega) (fun e => hne (by simpa [Value.ownBlock] using e))).trans (Below.heap_alloc w _ k hk)
    refine pairs.wpList_run hgd s y _ ho _ _ _ hs hy hrun (h g' cap' w' ⟨by rw [cellsI_append]; exact ho', by rw [List.length_append, hR.len]; rfl⟩ ⟨hg.os, hg.tape, hg.output, by simp at hsz; omega, fun k hkB => hk k (by omega) (by omega)⟩ (by simp at hsz; omega) ?_ hk)
    simp only [Value.ownBlock, Option.some.injEq, World.size_alloc] at hw
    rcases hw with e | e
    · exact .inl e
    · exact .inr (by omega)
theorem RowI.out {w w' : World} {B g n c : Nat} {L : List Int} {G : Bset} (h : RowI w B g n c L) (ho : Out G w w') (hG : ∀ b, G b → b < B) : RowI w' B g n c L := ⟨own_out h.own ho hG, h.len⟩
theorem RowI.keep {w w' : World} {B g n c : Nat} {L : List Int} (h : RowI w B g n c L) (hk : w'.heap[g]? = w.heap[g]?) : RowI w' B g n c L := by
  refine ⟨⟨h.own.1, ?_⟩, h.len⟩
  rcases h.own.2 with ⟨e, _⟩ | ⟨g', cap, cur, e, h0, h1, rest⟩
  · cases e
  · cases e
    exact .inr ⟨g, c, cur, rfl, h0, hk.trans h1, rest⟩
theorem RowI.cap {w : World} {B g n c : Nat} {L : List Int} (h : RowI w B g n c L) : n ≤ c := by
  rcases h.own.2 with ⟨e, _⟩ | ⟨g', cap, cur, e, _, _, h2, _⟩
  · cases e
  · cases e; exact h2
theorem put8 {w : World} {b : Nat} {t : TypeId} {c0 c1 c2 c3 c4 c5 c6 c7 : Value} (h : w.heap[b]? = some (.cells #[c0, c1, c2, c3, c4, c5, c6, c7] t (0, 0))) (u0 u1 u2 u3 u4 u5 u6 u7 : Value) :
    ((((((((w.setCell ⟨b, 0, none⟩ u0).setCell ⟨b, 1, none⟩ u1).setCell ⟨b, 2, none⟩ u2).setCell ⟨b, 3, none⟩ u3).setCell ⟨b, 4, none⟩ u4).setCell ⟨b, 5, none⟩ u5).setCell ⟨b, 6, none⟩ u6).setCell ⟨b, 7, none⟩ u7).heap[b]? = some (.cells #[u0, u1, u2, u3, u4, u5, u6, u7] t (0, 0)) := by
  have h0 := pairs.block_set (i := 0) u0 h
  generalize w.setCell ⟨b, 0, none⟩ u0 = w0 at h0 ⊢
  have h1 := pairs.block_set (i := 1) u1 h0
  generalize w0.setCell ⟨b, 1, none⟩ u1 = w1 at h1 ⊢
  have h2 := pairs.block_set (i := 2) u2 h1
  generalize w1.setCell ⟨b, 2, none⟩ u2 = w2 at h2 ⊢
  have h3 := pairs.block_set (i := 3) u3 h2
  generalize w2.setCell ⟨b, 3, none⟩ u3 = w3 at h3 ⊢
  have h4 := pairs.block_set (i := 4) u4 h3
  generalize w3.setCell ⟨b, 4, none⟩ u4 = w4 at h4 ⊢
  have h5 := pairs.block_set (i := 5) u5 h4
  generalize w4.setCell ⟨b, 5, none⟩ u5 = w5 at h5 ⊢
  have h6 := pairs.block_set (i := 6) u6 h5
  generalize w5.setCell ⟨b, 6, none⟩ u6 = w6 at h6 ⊢
  have h7 := pairs.block_set (i := 7) u7 h6
  generalize w6.setCell ⟨b, 7, none⟩ u7 = w7 at h7 ⊢
  rw [h7]
  simp
theorem out8 (w : World) (b : Nat) (u0 u1 u2 u3 u4 u5 u6 u7 : Value) :
    Out (fun k => k = b) w ((((((((w.setCell ⟨b, 0, none⟩ u0).setCell ⟨b, 1, none⟩ u1).setCell ⟨b, 2, none⟩ u2).setCell ⟨b, 3, none⟩ u3).setCell ⟨b, 4, none⟩ u4).setCell ⟨b, 5, none⟩ u5).setCell ⟨b, 6, none⟩ u6).setCell ⟨b, 7, none⟩ u7) := by
  have key : ∀ (z : World) (o : Nat) (u : Value), Out (fun k => k = b) w z → Out (fun k => k = b) w (z.setCell ⟨b, o, none⟩ u) := fun z o u h => Out.set (F := fun k => k = b) h rfl o u
  exact key _ _ _ (key _ _ _ (key _ _ _ (key _ _ _ (key _ _ _ (key _ _ _ (key _ _ _ (key _ _ _ (Out.refl _ w))))))))
/-- While a path is drawn. -/
structure Pw (w W : World) (cb len cap : Nat) (a : Option Addr) (xb g n c : Nat) (L : List Int) (O : Array Value) : Prop where
  ent : CurAt w cb a len cap
  cur : CurAt W cb a len cap
  out : Out (fun b => b = cb) w W
  box : W.heap[xb]? = some (.cells O 28 (0, 0))
  xge : w.heap.size ≤ xb
  row : RowI W w.heap.size g n c L
  ne : g ≠ xb
theorem out_but {cb : Nat} {w w' : World} (h : ButFor cb w w') : Out (fun b => b = cb) w w' := ⟨h.os, h.tape, h.output, h.size, fun k hk hf => h.block k hk hf⟩
theorem Pw.but {w W W' : World} {cb len cap xb g n c : Nat} {a : Option Addr} {L : List Int} {O : Array Value} (h : Pw w W cb len cap a xb g n c L O) (hc : CurAt W' cb a len cap) (hb : ButFor cb W W') : Pw w W' cb len cap a xb g n c L O := by
  have h0 := h.ent.here
  have h1 := h.xge
  exact ⟨h.ent, hc, h.out.trans (out_but hb), (hb.block xb (pairs.lt_heap h.box) (by omega)).trans h.box, h.xge, h.row.out (out_but hb) (fun b e => by omega), h.ne⟩
theorem Pw.below {w W W' : World} {cb len cap xb g n c : Nat} {a : Option Addr} {L : List Int} {O : Array Value} (h : Pw w W cb len cap a xb g n c L O) (hb : Below W.heap.size W W') : Pw w W' cb len cap a xb g n c L O :=
  ⟨h.ent, h.cur.stays (Nat.le_refl _) hb, h.out.trans (Out.of_below hb), (hb.block xb (pairs.lt_heap h.box)).trans h.box, h.xge, h.row.below hb, h.ne⟩
theorem Pw.add {w W W' : World} {cb len cap xb g n c g' c' m : Nat} {a : Option Addr} {L M : List Int} {O : Array Value} (h : Pw w W cb len cap a xb g n c L O) (hR : RowI W' w.heap.size g' m c' M) (hb : Below w.heap.size W W') (hg : g' = g ∨ W.heap.size ≤ g') (hk : ∀ k, k < W.heap.size → k ≠ g → W'.heap[k]? = W.heap[k]?) : Pw w W' cb len cap a xb g' m c' M O := by
  have h0 := h.ent.here
  have hx := pairs.lt_heap h.box
  have hs := h.out.size
  exact ⟨h.ent, h.ent.keeps h.cur hb.size (fun k hk' => hb.block k hk'), ⟨hb.os.trans h.out.os, hb.tape.trans h.out.tape, hb.output.trans h.out.output, Nat.le_trans hs hb.size, fun k hk' hf => (hb.block k hk').trans (h.out.block k hk' hf)⟩, (hk xb hx (fun e => h.ne e.symm)).trans h.box, h.xge, hR, by rcases hg with e | e; exact e ▸ h.ne; omega⟩
theorem Pw.put {w W W' : World} {cb len cap xb g n c : Nat} {a : Option Addr} {L : List Int} {O O' : Array Value} (h : Pw w W cb len cap a xb g n c L O) (ho : Out (fun b => b = xb) W W') (hb : W'.heap[xb]? = some (.cells O' 28 (0, 0))) : Pw w W' cb len cap a xb g n c L O' := by
  have h0 := h.ent.here
  have hx := h.xge
  have hs := h.out.size
  exact ⟨h.ent, h.ent.keeps h.cur ho.size (fun k hk' => ho.block k (by omega) (by omega)), ⟨ho.os.trans h.out.os, ho.tape.trans h.out.tape, ho.output.trans h.out.output, Nat.le_trans hs ho.size, fun k hk' hf => (ho.block k (by omega) (by omega)).trans (h.out.block k hk' hf)⟩, hb, h.xge, h.row.keep (ho.block g h.row.lt.2 h.ne), h.ne⟩
def lenV : Value → Nat | .slice _ n _ => n | _ => 0
/-- A tree that stays, whatever becomes of the cursor. -/
structure Stays (w : World) (cb : Nat) (t : Tree) (h : Hdr) : Prop where
  own : ∃ F : Bset, trees.OwnN w t h F ∧ ¬ F cb
theorem Stays.out {w w' : World} {cb : Nat} {t : Tree} {h : Hdr} (hs : Stays w cb t h) (ho : Out (fun b => b = cb) w w') : Stays w' cb t h := by
  obtain ⟨F, h1, h2⟩ := hs.own
  exact ⟨⟨F, h1.out ho (fun b hb e => h2 (e ▸ hb)), h2⟩⟩
theorem Stays.node {w w' : World} {cb : Nat} {t : Tree} {h : Hdr} (hs : Stays w cb t h) (ho : Out (fun b => b = cb) w w') : NodeIn w' 0 t h := by
  obtain ⟨F, h1, h2⟩ := (hs.out ho).own
  exact h1.in
theorem ok_add {L : List Int} {k : Int} (h : ∀ x, x ∈ L → okI x) (hk : okI k) : ∀ x, x ∈ L ++ [k] → okI x := by
  intro x hx
  rw [List.mem_append] at hx
  rcases hx with hx | hx
  · exact h x hx
  · have : x = k := by simpa using hx
    exact this ▸ hk
theorem RowI.mono {w : World} {B B' g n c : Nat} {L : List Int} (h : RowI w B g n c L) (hb : B' ≤ B) : RowI w B' g n c L := by
  refine ⟨⟨h.own.1, ?_⟩, h.len⟩
  rcases h.own.2 with ⟨e, _⟩ | ⟨g', cap, cur, e, h0, h1⟩
  · cases e
  · exact .inr ⟨g', cap, cur, e, Nat.le_trans hb h0, h1⟩
theorem Pw.new {w : World} {cb len cap : Nat} {a : Option Addr} (hc : CurAt w cb a len cap) (o : Obj) (O : Array Value) : Pw w (((w.alloc o).alloc (.cells #[] 3)).alloc (.cells O 28)) cb len cap a (w.heap.size + 1 + 1) (w.heap.size + 1) 0 0 [] O := by
  have hA : Below w.heap.size w (w.alloc o) := (Below.refl _ _).alloc (Nat.le_refl _) o
  have hs : (w.alloc o).heap.size = w.heap.size + 1 := World.size_alloc _ _
  generalize w.alloc o = W1 at hA hs ⊢
  have hr := new_rowI W1
  have hA2 : Below W1.heap.size W1 (W1.alloc (.cells #[] 3)) := (Below.refl _ _).alloc (Nat.le_refl _) _
  have hs2 : (W1.alloc (.cells #[] 3)).heap.size = W1.heap.size + 1 := World.size_alloc _ _
  generalize W1.alloc (.cells #[] 3) = W2 at hr hA2 hs2 ⊢
  have hA3 : Below W2.heap.size W2 (W2.alloc (.cells O 28)) := (Below.refl _ _).alloc (Nat.le_refl _) _
  have hx := heap_alloc_new W2 (.cells O 28)
  have hB : Below w.heap.size w (W2.alloc (.cells O 28)) := hA.trans ((hA2.trans (hA3.mono (by omega))).mono (by omega))
  rw [hs] at hr
  refine ⟨hc, hc.stays (Nat.le_refl _) hB, Out.of_below hB, ?_, by omega, (hr.mono (by omega)).below hA3, by omega⟩
  rw [show w.heap.size + 1 + 1 = W2.heap.size by omega]
  exact hx
theorem kid_stays {w : World} {cb : Nat} {t y : Tree} {h : Hdr} {k kb ko : Nat} (hs : Stays w cb t h) (hk : k < t.kids.length) (hy : kid t.kids k = y) (ha : h.ka = some ⟨kb, ko, none⟩) : ∃ hy : Hdr, Stays w cb y hy ∧ ∀ W, Out (fun b => b = cb) w W → ∀ j, j < 8 → W.cell? ⟨kb, ko + k * 8 + j, none⟩ = (vals y hy)[j]? := by
  obtain ⟨F, h1, h2⟩ := hs.own
  obtain ⟨FD, FA, FK, hp⟩ := h1.parts
  obtain ⟨g, cur, ty, G, e, hr⟩ := hp.kids (by omega)
  rw [ha] at e
  cases e
  obtain ⟨h3, n3, c3⟩ := hr.kids k hk
  rw [hy] at n3 c3
  have hFK : ∀ b, FK b → F b := hp.sk
  refine ⟨h3, ⟨G k, n3, fun hc => h2 (hFK _ (hr.sub k _ hc))⟩, fun W ho j hj => ?_⟩
  have hb := (ho.block kb (pairs.lt_heap hr.blk) (fun e => h2 (e ▸ hFK _ hr.mem))).trans hr.blk
  rw [Nat.zero_add, ← c3 j hj]
  simp [World.cell?, hb]
/-- What l10Path answers. -/
def PathD (w : World) (cb len cap : Nat) (a : Option Addr) (m : Nat) (e : Ending) (w' : World) : Prop :=
  ∃ g n c L, e = .returned (.slice (some ⟨g, 0, none⟩) n c) ∧ RowI w' w.heap.size g n c L ∧ (n ≤ m ∧ ∀ x, x ∈ L → okI x) ∧ CurAt w' cb a len cap ∧ Out (fun b => b = cb) w w'
set_option maxRecDepth 100000 in
set_option maxHeartbeats 8000000 in
theorem l10path (w : World) (cb len cap : Nat) (a : Option Addr) (t : Tree) (h : Hdr) (HC : Hid (CurAt w cb a len cap)) (HS : Hid (Stays w cb t h)) (hz : nsz t ≤ 200000) :
    Calls Try.prog 50 #[.pointer (some ⟨cb, 0, none⟩), .agg (vals t h)] w (PathD w cb len cap a 200001) := by
  have hcb := HC.out.here
  obtain ⟨N, hN⟩ : ∃ N, nsz t = N := ⟨_, rfl⟩
  have HNZ : Hid (0 + nsz t ≤ N) := by show _ ≤ _; omega
  have hNz : N ≤ 200000 := by omega
  clear hN hz
  obtain ⟨kd0, p0, l0, u0, x0, ds0, ats0, ks0⟩ := t
  obtain ⟨da0, dc0, aa0, ac0, ka0, kc0⟩ := h
  unfold vals
  simp only [Tree.kind, Tree.pre, Tree.loc, Tree.uri, Tree.text, Tree.ds, Tree.ats, Tree.kids] at *
  have HP0 : Hid (Pw w (((w.alloc (.cells #[.int .i64 kd0, .string p0, .string l0, .string u0, .slice da0 ds0.length dc0, .slice aa0 ats0.length ac0, .slice ka0 ks0.length kc0, .string x0] 28)).alloc (.cells #[] 3)).alloc (.cells #[.int .i64 kd0, .string p0, .string l0, .string u0, .slice da0 ds0.length dc0, .slice aa0 ats0.length ac0, .slice ka0 ks0.length kc0, .string x0] 28)) cb len cap a (w.heap.size + 1 + 1) (w.heap.size + 1) 0 0 [] #[.int .i64 kd0, .string p0, .string l0, .string u0, .slice da0 ds0.length dc0, .slice aa0 ats0.length ac0, .slice ka0 ks0.length kc0, .string x0]) := Pw.new HC.out _ _
  have HST : Hid _ := HS
  clear HS HC
  go_enter Try.func50, Try.ntmps50
  go_wp2_with fail
  obtain ⟨W0, hW0⟩ : ∃ W0, ((w.alloc (.cells #[.int .i64 kd0, .string p0, .string l0, .string u0, .slice da0 ds0.length dc0, .slice aa0 ats0.length ac0, .slice ka0 ks0.length kc0, .string x0] 28)).alloc (.cells #[] 3)).alloc (.cells #[.int .i64 kd0, .string p0, .string l0, .string u0, .slice da0 ds0.length dc0, .slice aa0 ats0.length ac0, .slice ka0 ks0.length kc0, .string x0] 28) = W0 := ⟨_, rfl⟩
  rw [hW0] at HP0 ⊢
  clear hW0
  obtain ⟨xb, hxb⟩ : ∃ xb, w.heap.size + 1 + 1 = xb := ⟨_, rfl⟩
  rw [hxb] at HP0 ⊢
  clear hxb
  have HOK0 : Hid (∀ x : Int, x ∈ ([] : List Int) → okI x) := fun x hx => by cases hx
  go_loopw [5] (fun q wr => ∃ (n g c : Nat) (L : List Int) (kd : Int) (p l u x : ByteArray) (ds : List pairs.Pair) (ats : List trees.Att) (ks : List Tree) (da : Option Addr) (dc : Nat) (aa : Option Addr) (ac : Nat) (ka : Option Addr) (kc : Nat), q = .slice (some ⟨g, 0, none⟩) n c ∧ Hid (Pw w wr cb len cap a xb g n c L #[.int .i64 kd, .string p, .string l, .string u, .slice da ds.length dc, .slice aa ats.length ac, .slice ka ks.length kc, .string x]) ∧ Hid (Stays w cb (.mk kd p l u x ds ats ks) ⟨da, dc, aa, ac, ka, kc⟩) ∧ Hid (n + nsz (.mk kd p l u x ds ats ks) ≤ N) ∧ Hid (∀ x, x ∈ L → okI x)) (fun q _ => N + 1 - lenV q)
  case atStart => exact ⟨0, _, 0, [], kd0, p0, l0, u0, x0, ds0, ats0, ks0, da0, dc0, aa0, ac0, ka0, kc0, rfl, HP0, HST, HNZ, HOK0⟩
  case round =>
    obtain ⟨n, g, c, L, kd, p, l, u, x, ds, ats, ks, da, dc, aa, ac, ka, kc, rfl, hP, hS, hN, hO⟩ := hrel
    have hn : n ≤ 200000 := by have := hN.out; omega
    have HNK : Hid (nszs ks ≤ nsz (.mk kd p l u x ds ats ks)) := nsz_eq (.mk kd p l u x ds ats ks)
    have hkl : ks.length ≤ 200000 := by have h1 := HNK.out; have h2 := hN.out; have := trees.nszs_eq ks; omega
    obtain ⟨b0, b1, b2, b3, b4, b5, b6, b7⟩ := trees.box8 hP.out.box
    by_cases h0 : 0 < ks.length
    · have h0' : (0 : Int) < ks.length := by omega
      go_wp2_with fail
      refine (draws.once_any _ cb len cap a 4 (by decide) hP.out.cur).mono ?_
      rintro e w2 ⟨bb, rfl, hc2, hb2⟩
      have HP2 : Hid _ := hP.out.but hc2 hb2
      clear hc2 hb2 b0 b1 b2 b3 b4 b5 b6 b7
      cases bb
      · obtain ⟨b0, b1, b2, b3, b4, b5, b6, b7⟩ := trees.box8 HP2.out.box
        go_wp2_with fail
        refine (draws.below_any _ cb len cap a _ (by omega) HP2.out.cur).mono ?_
        rintro e w3 ⟨z, rfl, hz0, hz1, hc3, hb3⟩
        obtain ⟨k, rfl⟩ : ∃ k : Nat, z = k := ⟨z.toNat, by omega⟩
        have hk : k < ks.length := by omega
        have HP3 : Hid _ := HP2.out.but hc3 hb3
        clear hc3 hb3 b0 b1 b2 b3 b4 b5 b6 b7 hz0 hz1
        have hk1 := nsz_kid1 ks k hk
        obtain ⟨y, hy⟩ : ∃ y, kid ks k = y := ⟨_, rfl⟩
        have HNY : Hid (n + 1 + nsz y ≤ N) := by have h1 := HNK.out; have h2 := hN.out; show _ ≤ _; rw [← hy]; omega
        have HKY : Hid (kid ks k = y) := hy
        have HO3 : Hid (∀ x : Int, x ∈ L ++ [(k : Int)] → okI x) := ok_add hO.out ⟨by omega, by omega⟩
        have hws : w.heap.size ≤ w3.heap.size := HP3.out.out.size
        obtain ⟨kb, ko, hka⟩ : ∃ kb ko, ka = some ⟨kb, ko, none⟩ := by
          obtain ⟨b, off, ha, _⟩ := (trees.kids_at (hS.out.node (Out.refl _ _))).row (by show 0 < ks.length; omega)
          exact ⟨b, off, ha⟩
        subst hka
        have HYS : Hid (∃ hy : Hdr, Stays w cb y hy ∧ ∀ W, Out (fun b => b = cb) w W → ∀ j, j < 8 → W.cell? ⟨kb, ko + k * 8 + j, none⟩ = (vals y hy)[j]?) := kid_stays hS.out hk HKY.out rfl
        obtain ⟨⟨da', dc', aa', ac', ka', kc'⟩, hys, hyc⟩ := HYS.out
        obtain ⟨kd', p', l', u', x', ds', ats', ks'⟩ := y
        have HSY : Hid _ := hys
        have HYC : Hid (∀ W, Out (fun b => b = cb) w W → _) := hyc
        clear hk1 hy hys hyc HYS HNK
        go_wp2_with (at_builtin; refine add_int2 w.heap.size g n c L (k : Int) _ HP3.out.row hws (by omega) (by rfl) _ _ (by rfl) (by rfl) _ (by rfl) (by simp) ?_; rintro g4 c4 w4 hR4 hb4 hs4 hg4 hk4; have HP4 : Hid _ := HP3.out.add hR4 hb4 hg4 hk4; obtain ⟨b0, b1, b2, b3, b4, b5, b6, b7⟩ := trees.box8 HP4.out.box; obtain ⟨f0, f1, f2, f3, f4, f5, f6, f7⟩ := trees.box_froz HP4.out.box; have hyc := HYC.out w4 HP4.out.out; have e0 := hyc 0 (by omega); have e1 := hyc 1 (by omega); have e2 := hyc 2 (by omega); have e3 := hyc 3 (by omega); have e4 := hyc 4 (by omega); have e5 := hyc 5 (by omega); have e6 := hyc 6 (by omega); have e7 := hyc 7 (by omega); simp only [vals, Nat.add_zero, Tree.kind, Tree.pre, Tree.loc, Tree.uri, Tree.text, Tree.ds, Tree.ats, Tree.kids, List.getElem?_toArray, List.getElem?_cons_zero, List.getElem?_cons_succ] at e0 e1 e2 e3 e4 e5 e6 e7; clear hyc hR4 hb4 hs4 hg4 hk4)
        go_roundw
        case rel => exact ⟨n + 1, g4, c4, L ++ [(k : Int)], kd', p', l', u', x', ds', ats', ks', da', dc', aa', ac', ka', kc', rfl, HP4.out.put (out8 _ _ _ _ _ _ _ _ _ _) (put8 HP4.out.box _ _ _ _ _ _ _ _), HSY.out, HNY.out, HO3.out⟩
        case measure => have := hN.out; have := trees.nszs_eq ks; simp [lenV]; omega
      · obtain ⟨b0, b1, b2, b3, b4, b5, b6, b7⟩ := trees.box8 HP2.out.box
        go_wp2_with fail
        refine (draws.once_any _ cb len cap a 8 (by decide) HP2.out.cur).mono ?_
        rintro e w5 ⟨bb, rfl, hc5, hb5⟩
        have HP5 : Hid _ := HP2.out.but hc5 hb5
        clear hc5 hb5 b0 b1 b2 b3 b4 b5 b6 b7
        cases bb
        · go_wp2
          go_ret
          exact ⟨g, n, c, L, rfl, HP5.out.row, ⟨by omega, hO.out⟩, HP5.out.cur, HP5.out.out⟩
        · have hA : Below w5.heap.size w5 (w5.alloc (.cells #[.int .i64 (-1), .int .i64 0, .int .i64 7] 3)) := (Below.refl _ _).alloc (Nat.le_refl _) _
          have HP6 : Hid (Pw w (w5.alloc (.cells #[.int .i64 (-1), .int .i64 0, .int .i64 7] 3)) cb len cap a xb g n c L _) := HP5.out.below hA
          have HCL : Hid (∀ j, j < 3 → (w5.alloc (.cells #[.int .i64 (-1), .int .i64 0, .int .i64 7] 3)).cell? ⟨w5.heap.size, j, none⟩ = some (.int .i64 (int0 [-1, 0, 7] j))) := fun j hj => by
            rcases (by omega : j = 0 ∨ j = 1 ∨ j = 2) with rfl | rfl | rfl
            · exact pairs.cell_new w5 _ _ 0 _ rfl
            · exact pairs.cell_new w5 _ _ 1 _ rfl
            · exact pairs.cell_new w5 _ _ 2 _ rfl
          have hs5 : w.heap.size ≤ w5.heap.size := HP5.out.out.size
          have HI := draws.int_any (w5.alloc (.cells #[.int .i64 (-1), .int .i64 0, .int .i64 7] 3)) cb len cap w5.heap.size 3 3 a (int0 [-1, 0, 7]) (by omega) (by omega) (by simp) (by omega) HCL HP6.out.cur
          have HII : Hid _ := HI
          clear HI hA
          go_wp2_with fail
          refine Calls.mono HII.out ?_
          rintro e w6 ⟨j, hj, rfl, hc6, hb6⟩
          have HP7 : Hid _ := HP6.out.but hc6 hb6
          have hs7 : w.heap.size ≤ w6.heap.size := HP7.out.out.size
          have HO7 : Hid (∀ x : Int, x ∈ L ++ [int0 [-1, 0, 7] j] → okI x) := ok_add hO.out (by
            rcases (by omega : j = 0 ∨ j = 1 ∨ j = 2) with rfl | rfl | rfl <;> exact ⟨by decide, by decide⟩)
          obtain ⟨z, hz⟩ : ∃ z, int0 [-1, 0, 7] j = z := ⟨_, rfl⟩
          rw [hz] at HO7 ⊢
          clear hc6 hb6 hz HII HCL
          go_wp2_with (at_builtin; refine add_int2 w.heap.size g n c L z _ HP7.out.row hs7 (by omega) (by rfl) _ _ (by rfl) (by rfl) _ (by rfl) (by simp) ?_; rintro g8 c8 w8 hR8 hb8 hs8 hg8 hk8; have HP8 : Hid _ := HP7.out.add hR8 hb8 hg8 hk8; clear hR8 hb8 hs8 hg8 hk8)
          go_ret
          exact ⟨g8, n + 1, c8, L ++ [z], rfl, HP8.out.row, ⟨by omega, HO7.out⟩, HP8.out.cur, HP8.out.out⟩
    · have hl0 : ks = [] := List.length_eq_zero_iff.1 (by omega)
      subst hl0
      go_wp2_with fail
      refine (draws.once_any _ cb len cap a 8 (by decide) hP.out.cur).mono ?_
      rintro e w5 ⟨bb, rfl, hc5, hb5⟩
      have HP5 : Hid _ := hP.out.but hc5 hb5
      clear hc5 hb5 b0 b1 b2 b3 b4 b5 b6 b7
      cases bb
      · go_wp2
        go_ret
        exact ⟨g, n, c, L, rfl, HP5.out.row, ⟨by omega, hO.out⟩, HP5.out.cur, HP5.out.out⟩
      · have hA : Below w5.heap.size w5 (w5.alloc (.cells #[.int .i64 (-1), .int .i64 0, .int .i64 7] 3)) := (Below.refl _ _).alloc (Nat.le_refl _) _
        have HP6 : Hid (Pw w (w5.alloc (.cells #[.int .i64 (-1), .int .i64 0, .int .i64 7] 3)) cb len cap a xb g n c L _) := HP5.out.below hA
        have HCL : Hid (∀ j, j < 3 → (w5.alloc (.cells #[.int .i64 (-1), .int .i64 0, .int .i64 7] 3)).cell? ⟨w5.heap.size, j, none⟩ = some (.int .i64 (int0 [-1, 0, 7] j))) := fun j hj => by
          rcases (by omega : j = 0 ∨ j = 1 ∨ j = 2) with rfl | rfl | rfl
          · exact pairs.cell_new w5 _ _ 0 _ rfl
          · exact pairs.cell_new w5 _ _ 1 _ rfl
          · exact pairs.cell_new w5 _ _ 2 _ rfl
        have hs5 : w.heap.size ≤ w5.heap.size := HP5.out.out.size
        have HI := draws.int_any (w5.alloc (.cells #[.int .i64 (-1), .int .i64 0, .int .i64 7] 3)) cb len cap w5.heap.size 3 3 a (int0 [-1, 0, 7]) (by omega) (by omega) (by simp) (by omega) HCL HP6.out.cur
        have HII : Hid _ := HI
        clear HI hA
        go_wp2_with fail
        refine Calls.mono HII.out ?_
        rintro e w6 ⟨j, hj, rfl, hc6, hb6⟩
        have HP7 : Hid _ := HP6.out.but hc6 hb6
        have hs7 : w.heap.size ≤ w6.heap.size := HP7.out.out.size
        have HO7 : Hid (∀ x : Int, x ∈ L ++ [int0 [-1, 0, 7] j] → okI x) := ok_add hO.out (by
          rcases (by omega : j = 0 ∨ j = 1 ∨ j = 2) with rfl | rfl | rfl <;> exact ⟨by decide, by decide⟩)
        obtain ⟨z, hz⟩ : ∃ z, int0 [-1, 0, 7] j = z := ⟨_, rfl⟩
        rw [hz] at HO7 ⊢
        clear hc6 hb6 hz HII HCL
        go_wp2_with (at_builtin; refine add_int2 w.heap.size g n c L z _ HP7.out.row hs7 (by omega) (by rfl) _ _ (by rfl) (by rfl) _ (by rfl) (by simp) ?_; rintro g8 c8 w8 hR8 hb8 hs8 hg8 hk8; have HP8 : Hid _ := HP7.out.add hR8 hb8 hg8 hk8; clear hR8 hb8 hs8 hg8 hk8)
        go_ret
        exact ⟨g8, n + 1, c8, L ++ [z], rfl, HP8.out.row, ⟨by omega, HO7.out⟩, HP8.out.cur, HP8.out.out⟩
end Go.Proofs.Ytpejcblmglbjfaa.places
namespace Go.Proofs.Ytpejcblmglbjfaa.places
open Go.ChangeShapes Go.WideShapes Go.ChangeAt Go.RowKit
open trees (Tree Hdr vals noTree kid nsz nszs tsize ksize NodeIn NodesAt Bset Inc Apart Out Rng OwnN trees1)
open ints (int0 okI IFit IntsAt MadeI)
open draws (CurAt ButFor RowAt TreeD rootT)
set_option linter.unusedVariables false
theorem tree_own {w Z : World} {cb len cap g kc : Nat} {a : Option Addr} {P : List trees.TH} {G : Nat → Bset} (h : TreeD w Z cb len cap a g P G (.slice (some ⟨g, 0, none⟩) P.length kc)) : OwnN Z (rootT P) ⟨none, 0, none, 0, some ⟨g, 0, none⟩, kc⟩ (fun b => w.heap.size ≤ b ∧ b < Z.heap.size) := by
  obtain ⟨s, hk, hs⟩ := h.kid
  obtain ⟨a', c', e, ho⟩ := hk.row
  cases e
  have hz : (⟨#[]⟩ : ByteArray).size ≤ maxLen := Nat.zero_le _
  have hl : (trees1 P).length ≤ 200000 := by have h1 := h.sz; have h2 := trees.nszs_eq (trees1 P); omega
  have hroom : P.length ≤ kc := by
    rcases hk.own.2 with ⟨e1, h0⟩ | ⟨g', cap', cur, e1, _, _, h2, _⟩
    · cases e1
    · cases e1; exact h2
  refine trees.PartsN.node (FD := fun _ => False) (FA := fun _ => False) (FK := fun b => s ≤ b ∧ b < Z.heap.size) ⟨⟨⟨by show -9223372036854775808 ≤ (0 : Int) ∧ (0 : Int) ≤ 9223372036854775807; omega, hz, hz, hz, hz, by show (trees1 P).length ≤ maxLen; unfold maxLen; omega⟩, by show (trees1 P).length ≤ kc; rw [trees.trees1_len]; exact hroom⟩, ⟨Nat.zero_le _, fun i hi => absurd hi (Nat.not_lt_zero i)⟩, ⟨Nat.zero_le _, fun i hi => absurd hi (Nat.not_lt_zero i)⟩, fun b hb => False.elim hb, fun b hb => False.elim hb, fun b hb => ⟨by have := hb.1; omega, hb.2⟩, fun b hb => False.elim hb, fun b hb => False.elim hb, fun b hb => False.elim hb, fun h0 => absurd h0 (Nat.not_lt_zero 0), fun h0 => absurd h0 (Nat.not_lt_zero 0), ho⟩
theorem root_vals (P : List trees.TH) (g kc : Nat) : (#[.int .i64 0, .string ⟨#[]⟩, .string ⟨#[]⟩, .string ⟨#[]⟩, .slice none 0 0, .slice none 0 0, .slice (some ⟨g, 0, none⟩) P.length kc, .string ⟨#[]⟩] : Array Value) = vals (rootT P) ⟨none, 0, none, 0, some ⟨g, 0, none⟩, kc⟩ := by
  show _ = (#[.int .i64 0, .string ⟨#[]⟩, .string ⟨#[]⟩, .string ⟨#[]⟩, .slice none 0 0, .slice none 0 0, .slice (some ⟨g, 0, none⟩) (trees1 P).length kc, .string ⟨#[]⟩] : Array Value)
  rw [trees.trees1_len]
theorem root_nsz {P : List trees.TH} (h : nszs (trees1 P) ≤ 200000) : nsz (rootT P) ≤ 200000 := by
  rw [nsz]
  show 0 + 0 + 0 + (0 + 0) + 0 + nszs (trees1 P) + 0 ≤ _
  omega
/-- A drawn tree. -/
structure TreeAt (w' : World) (t : Tree) (h : Hdr) : Prop where
  node : NodeIn w' 0 t h
  ok : trees.treeOkB t = true
  sz : nsz t ≤ 200000
theorem TreeAt.below {w w' : World} {t : Tree} {h : Hdr} (ht : TreeAt w t h) (hb : Below w.heap.size w w') : TreeAt w' t h := ⟨ht.node.below hb, ht.ok, ht.sz⟩
/-- A drawn path, in a row of its own. -/
structure PathAt (w' : World) (g n c : Nat) (L : List Int) : Prop where
  row : ∃ B, RowI w' B g n c L
  fit : n ≤ 200001 ∧ ∀ x, x ∈ L → okI x
theorem PathAt.below {w w' : World} {g n c : Nat} {L : List Int} (h : PathAt w g n c L) (hb : Below w.heap.size w w') : PathAt w' g n c L := by
  obtain ⟨B, hr⟩ := h.row
  exact ⟨⟨B, hr.below hb⟩, h.fit⟩
theorem PathAt.ints {w' : World} {g n c : Nat} {L : List Int} (h : PathAt w' g n c L) : IntsAt w' (some ⟨g, 0, none⟩) L ∧ L.length = n ∧ n ≤ c := by
  obtain ⟨B, hr⟩ := h.row
  have hp : PFit L := ⟨by have := hr.len; have := h.fit.1; omega, h.fit.2⟩
  exact ⟨hr.made.ints hp.at.1 hp.at.2, hr.len, hr.cap⟩
set_option maxRecDepth 100000 in
set_option maxHeartbeats 4000000 in
theorem drawTree (w : World) (len cap : Nat) (a : Option Addr) (hz : len ≤ 1048576) (hr : Hid (RowAt w a len)) : Calls Try.prog 10 #[.slice a len cap] w fun e w' => ∃ t h, e = .returned (.agg (vals t h)) ∧ TreeAt w' t h ∧ Below w.heap.size w w' := by
  have HA : Hid (Below w.heap.size w (w.alloc (.cells draws.zero8 28))) := (Below.refl _ _).alloc (Nat.le_refl _) _
  have HX : Hid ((w.alloc (.cells draws.zero8 28)).heap[w.heap.size]? = _) := heap_alloc_new w _
  have HRW : Hid (RowAt (w.alloc (.cells draws.zero8 28)) a len) := hr.out.stays HA.out.size (fun _ b off _ hb => HA.out.block b hb)
  clear hr
  go_enter Try.func10, Try.ntmps10
  go_wp2_with fail
  refine (draws.new_any _ _ _ _ hz HRW).mono ?_
  rintro e w1 ⟨cb, rfl, hcb, hc1, hb1⟩
  have HC1 : Hid _ := hc1
  have HX1 : Hid (w1.heap[w.heap.size]? = some (.cells draws.zero8 28 (0, 0))) := box_bel HX.out hb1
  have HB1 : Hid (Below w.heap.size w w1) := HA.out.trans (hb1.mono HA.out.size)
  have HCB : Hid (w.heap.size < cb) := by rw [hcb]; show _ < _; simp
  have HD : Hid _ := draws.l5draw w1 cb len cap a HC1
  unfold draws.l5DrawOk at HD
  clear hc1 hb1 hcb HRW HA HX
  go_wp2_with fail
  refine Calls.mono HD.out ?_
  rintro e w2 ⟨g, kc, P, G, rfl, hT⟩
  have hsw := pairs.lt_heap HX1.out
  have HT : Hid _ := hT
  have HX2 : Hid (w2.heap[w.heap.size]? = some (.cells draws.zero8 28 (0, 0))) := (hT.out.block _ hsw (by have := HCB.out; omega)).trans HX1.out
  obtain ⟨r0, r1, r2, r3, r4, r5, r6, r7⟩ := trees.box8 HX2.out
  obtain ⟨f0, f1, f2, f3, f4, f5, f6, f7⟩ := trees.box_froz HX2.out
  have HO : Hid _ := out8 w2 w.heap.size (.int .i64 0) (.string ⟨#[]⟩) (.string ⟨#[]⟩) (.string ⟨#[]⟩) (.slice none 0 0) (.slice none 0 0) (.slice (some ⟨g, 0, none⟩) P.length kc) (.string ⟨#[]⟩)
  have HN : Hid _ := ((tree_own hT).out HO.out (fun b hb e => by have := hb.1; omega)).in
  have HB2 : Hid (Below w.heap.size w w2) := HB1.out.trans ⟨hT.out.os, hT.out.tape, hT.out.output, hT.out.size, fun k hk => hT.out.block k (by omega) (by have := HCB.out; omega)⟩
  have HB3 : Hid _ := HO.out.below HB2.out (fun b e => by omega) HB2.out.size
  clear hT HD
  go_wp2
  refine bodyPost_ret (by simp [results, Try.results10, go_sem, r0, r1, r2, r3, r4, r5, r6, r7]; try rfl) rfl ?_
  exact ⟨rootT P, ⟨none, 0, none, 0, some ⟨g, 0, none⟩, kc⟩, by rw [← root_vals], ⟨HN.out, HT.out.ok, root_nsz HT.out.sz⟩, HB3.out⟩
set_option maxRecDepth 100000 in
set_option maxHeartbeats 4000000 in
theorem drawNodeAt (w : World) (len cap : Nat) (a : Option Addr) (hz : len ≤ 1048576) (hr : Hid (RowAt w a len)) : Calls Try.prog 12 #[.slice a len cap] w fun e w' => ∃ t h g n c L, e = .returned (.tuple #[.agg (vals t h), .slice (some ⟨g, 0, none⟩) n c]) ∧ TreeAt w' t h ∧ PathAt w' g n c L ∧ Below w.heap.size w w' := by
  have HA : Hid (Below w.heap.size w (w.alloc (.cells draws.zero8 28))) := (Below.refl _ _).alloc (Nat.le_refl _) _
  have HX : Hid ((w.alloc (.cells draws.zero8 28)).heap[w.heap.size]? = _) := heap_alloc_new w _
  have HRW : Hid (RowAt (w.alloc (.cells draws.zero8 28)) a len) := hr.out.stays HA.out.size (fun _ b off _ hb => HA.out.block b hb)
  clear hr
  go_enter Try.func12, Try.ntmps12
  go_wp2_with fail
  refine (draws.new_any _ _ _ _ hz HRW).mono ?_
  rintro e w1 ⟨cb, rfl, hcb, hc1, hb1⟩
  have HC1 : Hid _ := hc1
  have HX1 : Hid (w1.heap[w.heap.size]? = some (.cells draws.zero8 28 (0, 0))) := box_bel HX.out hb1
  have HB1 : Hid (Below w.heap.size w w1) := HA.out.trans (hb1.mono HA.out.size)
  have HCB : Hid (w.heap.size < cb ∧ cb < w1.heap.size) := ⟨by rw [hcb]; simp, hc1.here⟩
  have HD : Hid _ := draws.l5draw w1 cb len cap a HC1
  unfold draws.l5DrawOk at HD
  clear hc1 hb1 hcb HRW HA HX HC1
  go_wp2_with fail
  refine Calls.mono HD.out ?_
  rintro e w2 ⟨g, kc, P, G, rfl, hT⟩
  have hsw := pairs.lt_heap HX1.out
  have HST : Hid (Stays w2 cb (rootT P) ⟨none, 0, none, 0, some ⟨g, 0, none⟩, kc⟩) := ⟨_, tree_own hT, fun hc => by have := hc.1; have := HCB.out.2; omega⟩
  have HOK : Hid (trees.treeOkB (rootT P) = true ∧ nsz (rootT P) ≤ 200000) := ⟨hT.ok, root_nsz hT.sz⟩
  have HX2 : Hid (w2.heap[w.heap.size]? = some (.cells draws.zero8 28 (0, 0))) := (hT.out.block _ hsw (by have := HCB.out.1; omega)).trans HX1.out
  have HB2 : Hid (Below w.heap.size w w2) := HB1.out.trans ⟨hT.out.os, hT.out.tape, hT.out.output, hT.out.size, fun k hk => hT.out.block k (by omega) (by have := HCB.out.1; omega)⟩
  have HC2 : Hid _ := hT.cur
  have HOWN : Hid (OwnN w2 (rootT P) ⟨none, 0, none, 0, some ⟨g, 0, none⟩, kc⟩ (fun b => w1.heap.size ≤ b ∧ b < w2.heap.size)) := tree_own hT
  have HS2 : Hid (w.heap.size < w2.heap.size ∧ cb < w2.heap.size ∧ w.heap.size < w1.heap.size) := ⟨by have := hT.out.size; omega, hT.cur.here, hsw⟩
  clear hT HD HX1 HB1 hsw
  have hA3 : Below w2.heap.size w2 (w2.alloc (.cells #[.int .i64 0, .string ⟨#[]⟩, .string ⟨#[]⟩, .string ⟨#[]⟩, .slice none 0 0, .slice none 0 0, .slice (some ⟨g, 0, none⟩) P.length kc, .string ⟨#[]⟩] 28)) := (Below.refl _ _).alloc (Nat.le_refl _) _
  have hx3 := heap_alloc_new w2 (.cells #[.int .i64 0, .string ⟨#[]⟩, .string ⟨#[]⟩, .string ⟨#[]⟩, .slice none 0 0, .slice none 0 0, .slice (some ⟨g, 0, none⟩) P.length kc, .string ⟨#[]⟩] 28)
  go_wp2_with fail
  obtain ⟨w3, hw3⟩ : ∃ w3, w2.alloc (.cells #[.int .i64 0, .string ⟨#[]⟩, .string ⟨#[]⟩, .string ⟨#[]⟩, .slice none 0 0, .slice none 0 0, .slice (some ⟨g, 0, none⟩) P.length kc, .string ⟨#[]⟩] 28) = w3 := ⟨_, rfl⟩
  rw [hw3] at hA3 hx3 ⊢
  have HX3 : Hid _ := hx3
  have HX3R : Hid (w3.heap[w.heap.size]? = _) := box_bel HX2.out hA3
  have HB3 : Hid (Below w.heap.size w w3) := HB2.out.trans (hA3.mono HB2.out.size)
  have hAd := hA3.drew
  have HLP : Hid (Calls Try.prog 50 #[.pointer (some ⟨cb, 0, none⟩), .agg (vals (rootT P) ⟨none, 0, none, 0, some ⟨g, 0, none⟩, kc⟩)] w3.drew (PathD w3.drew cb len cap a 200001)) := l10path w3.drew cb len cap a (rootT P) _ (HC2.out.stays (Nat.le_refl _) hAd) (HST.out.out (Out.of_below hAd)) HOK.out.2
  rw [← root_vals] at HLP
  have HOWN3 : Hid (OwnN w3 (rootT P) ⟨none, 0, none, 0, some ⟨g, 0, none⟩, kc⟩ (fun b => w1.heap.size ≤ b ∧ b < w2.heap.size)) := trees.OwnN.below HOWN.out hA3
  have HFIN : Hid (∀ (w6 : World) (g6 n6 c6 : Nat) (L6 : List Int) (W : World), Out (fun b => b = cb) w3 w6 → RowI w6 w3.heap.size g6 n6 c6 L6 → (n6 ≤ 200001 ∧ ∀ x, x ∈ L6 → okI x) → Out (fun b => b = w.heap.size) w6 W → TreeAt W (rootT P) ⟨none, 0, none, 0, some ⟨g, 0, none⟩, kc⟩ ∧ PathAt W g6 n6 c6 L6 ∧ Below w.heap.size w W) := fun w6 g6 n6 c6 L6 W h1 h2 h3 h4 => by
    have hs := HB3.out.size
    have hl := pairs.lt_heap HX3R.out
    have hc := HCB.out
    have hw := HS2.out
    have h5 : Below w.heap.size w w6 := HB3.out.trans ⟨h1.os, h1.tape, h1.output, h1.size, fun k hk => h1.block k (by omega) (by omega)⟩
    refine ⟨⟨trees.OwnN.in (trees.OwnN.out (trees.OwnN.out HOWN3.out h1 (fun b (hb : w1.heap.size ≤ b ∧ b < w2.heap.size) (e : b = cb) => by omega)) h4 (fun b (hb : w1.heap.size ≤ b ∧ b < w2.heap.size) (e : b = w.heap.size) => by omega)), HOK.out.1, HOK.out.2⟩, ⟨⟨_, h2.out h4 (fun b (e : b = w.heap.size) => by omega)⟩, h3⟩, h4.below h5 (fun b (e : b = w.heap.size) => by omega) h5.size⟩
  clear hA3 hx3 hAd hw3 HX2 HB2 HC2 HST HOWN
  obtain ⟨q0, q1, q2, q3, q4, q5, q6, q7⟩ := trees.box8 HX3.out
  go_region_with (go_at_call 50; refine Calls.mono HLP.out ?_; rintro e w6 ⟨g6, n6, c6, L6, rfl, hr6, hf6, hc6, ho6⟩; have HO6 : Hid (Out (fun b => b = cb) w3 w6) := ⟨ho6.os, ho6.tape, ho6.output, ho6.size, ho6.block⟩; have HR6 : Hid _ := hr6; have HF6 : Hid _ := hf6; have hx6 := (HO6.out.block w2.heap.size (pairs.lt_heap HX3.out) (by have := HS2.out.2.1; omega)).trans HX3.out; obtain ⟨q0, q1, q2, q3, q4, q5, q6, q7⟩ := trees.box8 hx6; have hy6 := (HO6.out.block w.heap.size (pairs.lt_heap HX3R.out) (by have := HCB.out.1; omega)).trans HX3R.out; have HY6 : Hid _ := hy6; obtain ⟨r0, r1, r2, r3, r4, r5, r6, r7⟩ := trees.box8 hy6; obtain ⟨f0, f1, f2, f3, f4, f5, f6, f7⟩ := trees.box_froz hy6; clear hr6 hf6 hc6 ho6 hx6 hy6)
  all_goals go_wp2
  all_goals refine bodyPost_ret (by simp [results, Try.results12, go_sem, r0, r1, r2, r3, r4, r5, r6, r7]; try rfl) rfl ?_
  all_goals
    obtain ⟨k1, k2, k3⟩ := HFIN.out _ _ _ _ _ _ HO6.out HR6.out HF6.out (out8 _ _ _ _ _ _ _ _ _ _)
    exact ⟨rootT P, ⟨none, 0, none, 0, some ⟨g, 0, none⟩, kc⟩, g6, n6, c6, L6, by rw [← root_vals], k1, k2, k3⟩
end Go.Proofs.Ytpejcblmglbjfaa.places
namespace Go.Proofs.Ytpejcblmglbjfaa.places
open Go.ChangeShapes Go.WideShapes Go.ChangeAt Go.RowKit
open trees (Tree Hdr vals Bset Inc Apart Out Rng)
open ints (int0 okI IFit IntsAt MadeI)
open draws (CurAt ButFor RowAt)
set_option linter.unusedVariables false
/-- Two rows of numbers, while they are drawn. -/
structure Ps (w W : World) (cb len cap : Nat) (a : Option Addr) (g n c : Nat) (A : List Int) (g2 n2 c2 : Nat) (B : List Int) : Prop where
  ent : CurAt w cb a len cap
  cur : CurAt W cb a len cap
  out : Out (fun b => b = cb) w W
  r1 : RowI W w.heap.size g n c A
  r2 : RowI W w.heap.size g2 n2 c2 B
  ne : g ≠ g2
  ok : (∀ x, x ∈ A → okI x) ∧ ∀ x, x ∈ B → okI x
section
variable {w W W' : World} {cb len cap g n c g2 n2 c2 : Nat} {a : Option Addr} {A B : List Int}
theorem Ps.new (hc : CurAt w cb a len cap) : Ps w ((w.alloc (.cells #[] 3)).alloc (.cells #[] 3)) cb len cap a w.heap.size 0 0 [] (w.heap.size + 1) 0 0 [] := by
  have hr := new_rowI w
  have hA : Below w.heap.size w (w.alloc (.cells #[] 3)) := (Below.refl _ _).alloc (Nat.le_refl _) _
  have hs : (w.alloc (.cells #[] 3)).heap.size = w.heap.size + 1 := World.size_alloc _ _
  generalize w.alloc (.cells #[] 3) = W1 at hr hA hs ⊢
  have hr2 := new_rowI W1
  have hA2 : Below W1.heap.size W1 (W1.alloc (.cells #[] 3)) := (Below.refl _ _).alloc (Nat.le_refl _) _
  rw [hs] at hr2
  have hB := hA.trans (hA2.mono (by omega))
  exact ⟨hc, hc.stays (Nat.le_refl _) hB, Out.of_below hB, hr.below hA2, hr2.mono (by omega), by omega, fun x hx => (by cases hx), fun x hx => (by cases hx)⟩
theorem Ps.but (h : Ps w W cb len cap a g n c A g2 n2 c2 B) (hc : CurAt W' cb a len cap) (hb : ButFor cb W W') : Ps w W' cb len cap a g n c A g2 n2 c2 B := by
  have h0 := h.ent.here
  exact ⟨h.ent, hc, h.out.trans (out_but hb), h.r1.out (out_but hb) (fun b e => by omega), h.r2.out (out_but hb) (fun b e => by omega), h.ne, h.ok⟩
theorem Ps.turn {g' m c' : Nat} {M : List Int} (h : Ps w W cb len cap a g n c A g2 n2 c2 B) (hR : RowI W' w.heap.size g' m c' M) (hb : Below w.heap.size W W') (hg : g' = g ∨ W.heap.size ≤ g') (hk : ∀ k, k < W.heap.size → k ≠ g → W'.heap[k]? = W.heap[k]?) (hM : ∀ x, x ∈ M → okI x) : Ps w W' cb len cap a g' m c' M g2 n2 c2 B := by
  have h0 := h.ent.here
  have h1 := h.r2.lt.2
  have hs := h.out.size
  exact ⟨h.ent, h.ent.keeps h.cur hb.size (fun k hk' => hb.block k hk'), ⟨hb.os.trans h.out.os, hb.tape.trans h.out.tape, hb.output.trans h.out.output, Nat.le_trans hs hb.size, fun k hk' hf => (hb.block k hk').trans (h.out.block k hk' hf)⟩, hR, h.r2.keep (hk g2 h1 (fun e => h.ne e.symm)), by rcases hg with e | e; exact e ▸ h.ne; omega, hM, h.ok.2⟩
theorem Ps.swap (h : Ps w W cb len cap a g n c A g2 n2 c2 B) : Ps w W cb len cap a g2 n2 c2 B g n c A := ⟨h.ent, h.cur, h.out, h.r2, h.r1, fun e => h.ne e.symm, h.ok.2, h.ok.1⟩
theorem Ps.turn2 {g' m c' : Nat} {M : List Int} (h : Ps w W cb len cap a g n c A g2 n2 c2 B) (hR : RowI W' w.heap.size g' m c' M) (hb : Below w.heap.size W W') (hg : g' = g2 ∨ W.heap.size ≤ g') (hk : ∀ k, k < W.heap.size → k ≠ g2 → W'.heap[k]? = W.heap[k]?) (hM : ∀ x, x ∈ M → okI x) : Ps w W' cb len cap a g n c A g' m c' M := (h.swap.turn hR hb hg hk hM).swap
theorem Ps.ends {w0 : World} (h : Ps w W cb len cap a g n c A g2 n2 c2 B) (hw : Below w0.heap.size w0 w) (hc : w0.heap.size ≤ cb) (h1 : n ≤ 10) (h2 : n2 ≤ 10) : PathAt W g n c A ∧ PathAt W g2 n2 c2 B ∧ Below w0.heap.size w0 W :=
  ⟨⟨⟨_, h.r1⟩, by omega, h.ok.1⟩, ⟨⟨_, h.r2⟩, by omega, h.ok.2⟩, h.out.below hw (fun b e => by omega) hw.size⟩
end
set_option maxRecDepth 100000 in
set_option maxHeartbeats 8000000 in
theorem drawSamePath (w : World) (len cap : Nat) (a : Option Addr) (hz : len ≤ 1048576) (hr : Hid (RowAt w a len)) : Calls Try.prog 15 #[.slice a len cap] w fun e w' => ∃ g n c A g2 n2 c2 B, e = .returned (.tuple #[.slice (some ⟨g, 0, none⟩) n c, .slice (some ⟨g2, 0, none⟩) n2 c2]) ∧ PathAt w' g n c A ∧ PathAt w' g2 n2 c2 B ∧ Below w.heap.size w w' := by
  go_enter Try.func15, Try.ntmps15
  go_wp2_with fail
  refine (draws.new_any _ _ _ _ hz hr).mono ?_
  rintro e w1 ⟨cb, rfl, hcb, hc1, hb1⟩
  have HB1 : Hid _ := hb1
  have HP1 : Hid _ := Ps.new hc1
  have HCB : Hid (w.heap.size ≤ cb) := by show _ ≤ _; omega
  clear hb1 hc1 hcb hr
  go_wp2_with fail
  obtain ⟨W1, hW1⟩ : ∃ W1, (w1.alloc (.cells #[] 3)).alloc (.cells #[] 3) = W1 := ⟨_, rfl⟩
  rw [hW1] at HP1 ⊢
  clear hW1
  refine (draws.below_any _ cb len cap a 4 (by decide) HP1.out.cur).mono ?_
  rintro e w2 ⟨x, rfl, hx0, hx1, hc2, hb2⟩
  obtain ⟨x, rfl⟩ : ∃ y : Nat, x = y := ⟨x.toNat, by omega⟩
  have hx : x ≤ 3 := by omega
  have HP2 : Hid _ := HP1.out.but hc2 hb2
  clear hc2 hb2 HP1 hx0 hx1
  go_wp2_with fail
  go_loopw [5, 6, 7] (fun p q t wr => ∃ (i g n c : Nat) (A : List Int) (g2 n2 c2 : Nat) (B : List Int), n + i ≤ 3 ∧ n2 + i ≤ 3 ∧ t = .int .i64 i ∧ p = .slice (some ⟨g, 0, none⟩) n c ∧ q = .slice (some ⟨g2, 0, none⟩) n2 c2 ∧ Hid (Ps w1 wr cb len cap a g n c A g2 n2 c2 B)) (fun _ _ t _ => (intOf t).toNat)
  case atStart => exact ⟨x, _, 0, 0, [], _, 0, 0, [], by omega, by omega, rfl, rfl, rfl, HP2⟩
  case round =>
    obtain ⟨i, g, n, c, A, g2, n2, c2, B, hn, hn2, rfl, rfl, rfl, hP⟩ := hrel
    by_cases h0 : 0 < i
    · have h0' : (0 : Int) < i := by omega
      go_wp2_with fail
      refine (draws.below_any _ cb len cap a 2 (by decide) hP.out.cur).mono ?_
      rintro e w3 ⟨z, rfl, hz0, hz1, hc3, hb3⟩
      have HP3 : Hid _ := hP.out.but hc3 hb3
      have hok : okI z := ⟨by omega, by omega⟩
      have hs3 : w1.heap.size ≤ w3.heap.size := HP3.out.out.size
      have HOA : Hid (∀ x : Int, x ∈ A ++ [z] → okI x) := ok_add HP3.out.ok.1 hok
      have HOB : Hid (∀ x : Int, x ∈ B ++ [z] → okI x) := ok_add HP3.out.ok.2 hok
      clear hc3 hb3 hok
      go_wp2_with (at_builtin; first | (refine add_int2 w1.heap.size g n c A z _ HP3.out.r1 hs3 (by omega) (by rfl) _ _ (by rfl) (by rfl) _ (by rfl) (by simp) ?_; rintro g4 c4 w4 hR4 hb4 hs4 hg4 hk4; have HP4 : Hid _ := HP3.out.turn hR4 hb4 hg4 hk4 HOA.out; have hs4' : w1.heap.size ≤ w4.heap.size := HP4.out.out.size; clear hR4 hb4 hs4 hg4 hk4) | (refine add_int2 w1.heap.size g2 n2 c2 B z _ HP4.out.r2 hs4' (by omega) (by rfl) _ _ (by rfl) (by rfl) _ (by rfl) (by simp) ?_; rintro g5 c5 w5 hR5 hb5 hs5 hg5 hk5; have HP5 : Hid _ := HP4.out.turn2 hR5 hb5 hg5 hk5 HOB.out; clear hR5 hb5 hs5 hg5 hk5))
      go_roundw
      case rel => exact ⟨i - 1, g4, n + 1, c4, A ++ [z], g5, n2 + 1, c5, B ++ [z], by omega, by omega, by go_num, rfl, rfl, HP5.out⟩
      case measure => simp [intOf]; omega
    · obtain rfl : i = 0 := by omega
      go_wp2_with fail
      refine (draws.once_any _ cb len cap a 2 (by decide) hP.out.cur).mono ?_
      rintro e w3 ⟨b1, rfl, hc3, hb3⟩
      have HP3 : Hid _ := hP.out.but hc3 hb3
      clear hc3 hb3
      cases b1
      · go_wp2_with fail
        refine (draws.once_any _ cb len cap a 3 (by decide) HP3.out.cur).mono ?_
        rintro e wdp ⟨b2, rfl, hc4, hb4⟩
        have HPdp : Hid _ := HP3.out.but hc4 hb4
        clear hc4 hb4
        cases b2
        · go_wp2
          go_ret2
          obtain ⟨k1, k2, k3⟩ := Ps.ends HPdp.out HB1.out HCB.out (by omega) (by omega)
          exact ⟨g, n, c, A, g2, n2, c2, B, rfl, k1, k2, k3⟩
        · go_wp2_with fail
          refine (draws.below_any _ cb len cap a 2 (by decide) HPdp.out.cur).mono ?_
          rintro e wapy ⟨zpy, rfl, hz0, hz1, hca, hba⟩
          have HPapy : Hid _ := HPdp.out.but hca hba
          have hsapy : w1.heap.size ≤ wapy.heap.size := HPapy.out.out.size
          have HOapy : Hid (∀ x : Int, x ∈ A ++ [zpy] → okI x) := ok_add HPapy.out.ok.1 ⟨by omega, by omega⟩
          clear hca hba hz0 hz1
          go_wp2_with (first | (at_builtin; refine add_int2 w1.heap.size g (n) c (A) zpy _ HPapy.out.r1 hsapy (by omega) (by rfl) _ _ (by rfl) (by rfl) _ (by rfl) (by simp) ?_; rintro gpy cpy wbpy hRb hbb hsb hgb hkb; have HPbpy : Hid _ := HPapy.out.turn hRb hbb hgb hkb HOapy.out; clear hRb hbb hsb hgb hkb) | fail)
          go_ret2
          obtain ⟨k1, k2, k3⟩ := Ps.ends HPbpy.out HB1.out HCB.out (by omega) (by omega)
          exact ⟨gpy, n + 1, cpy, A ++ [zpy], g2, n2, c2, B, rfl, k1, k2, k3⟩
      · go_wp2_with fail
        refine (draws.below_any _ cb len cap a 2 (by decide) HP3.out.cur).mono ?_
        rintro e wax ⟨zx, rfl, hz0, hz1, hca, hba⟩
        have HPax : Hid _ := HP3.out.but hca hba
        have hsax : w1.heap.size ≤ wax.heap.size := HPax.out.out.size
        have HOax : Hid (∀ x : Int, x ∈ B ++ [zx] → okI x) := ok_add HPax.out.ok.2 ⟨by omega, by omega⟩
        clear hca hba hz0 hz1
        go_wp2_with (first | (at_builtin; refine add_int2 w1.heap.size g2 (n2) c2 (B) zx _ HPax.out.r2 hsax (by omega) (by rfl) _ _ (by rfl) (by rfl) _ (by rfl) (by simp) ?_; rintro gx cx wbx hRb hbb hsb hgb hkb; have HPbx : Hid _ := HPax.out.turn2 hRb hbb hgb hkb HOax.out; clear hRb hbb hsb hgb hkb) | fail)
        refine (draws.once_any _ cb len cap a 3 (by decide) HPbx.out.cur).mono ?_
        rintro e wdq ⟨b2, rfl, hc4, hb4⟩
        have HPdq : Hid _ := HPbx.out.but hc4 hb4
        clear hc4 hb4
        cases b2
        · go_wp2
          go_ret2
          obtain ⟨k1, k2, k3⟩ := Ps.ends HPdq.out HB1.out HCB.out (by omega) (by omega)
          exact ⟨g, n, c, A, gx, n2 + 1, cx, B ++ [zx], rfl, k1, k2, k3⟩
        · go_wp2_with fail
          refine (draws.below_any _ cb len cap a 2 (by decide) HPdq.out.cur).mono ?_
          rintro e waqy ⟨zqy, rfl, hz0, hz1, hca, hba⟩
          have HPaqy : Hid _ := HPdq.out.but hca hba
          have hsaqy : w1.heap.size ≤ waqy.heap.size := HPaqy.out.out.size
          have HOaqy : Hid (∀ x : Int, x ∈ A ++ [zqy] → okI x) := ok_add HPaqy.out.ok.1 ⟨by omega, by omega⟩
          clear hca hba hz0 hz1
          go_wp2_with (first | (at_builtin; refine add_int2 w1.heap.size g (n) c (A) zqy _ HPaqy.out.r1 hsaqy (by omega) (by rfl) _ _ (by rfl) (by rfl) _ (by rfl) (by simp) ?_; rintro gqy cqy wbqy hRb hbb hsb hgb hkb; have HPbqy : Hid _ := HPaqy.out.turn hRb hbb hgb hkb HOaqy.out; clear hRb hbb hsb hgb hkb) | fail)
          go_ret2
          obtain ⟨k1, k2, k3⟩ := Ps.ends HPbqy.out HB1.out HCB.out (by omega) (by omega)
          exact ⟨gqy, n + 1, cqy, A ++ [zqy], gx, n2 + 1, cx, B ++ [zx], rfl, k1, k2, k3⟩
set_option maxRecDepth 100000 in
set_option maxHeartbeats 8000000 in
theorem drawUnder (w : World) (len cap : Nat) (a : Option Addr) (hz : len ≤ 1048576) (hr : Hid (RowAt w a len)) : Calls Try.prog 16 #[.slice a len cap] w fun e w' => ∃ g n c A g2 n2 c2 B, e = .returned (.tuple #[.slice (some ⟨g, 0, none⟩) n c, .slice (some ⟨g2, 0, none⟩) n2 c2]) ∧ PathAt w' g n c A ∧ PathAt w' g2 n2 c2 B ∧ Below w.heap.size w w' := by
  go_enter Try.func16, Try.ntmps16
  go_wp2_with fail
  refine (draws.new_any _ _ _ _ hz hr).mono ?_
  rintro e w1 ⟨cb, rfl, hcb, hc1, hb1⟩
  have HB1 : Hid _ := hb1
  have HP1 : Hid _ := Ps.new hc1
  have HCB : Hid (w.heap.size ≤ cb) := by show _ ≤ _; omega
  clear hb1 hc1 hcb hr
  go_wp2_with fail
  obtain ⟨W1, hW1⟩ : ∃ W1, (w1.alloc (.cells #[] 3)).alloc (.cells #[] 3) = W1 := ⟨_, rfl⟩
  rw [hW1] at HP1 ⊢
  clear hW1
  refine (draws.below_any _ cb len cap a 4 (by decide) HP1.out.cur).mono ?_
  rintro e w2 ⟨x, rfl, hx0, hx1, hc2, hb2⟩
  obtain ⟨x, rfl⟩ : ∃ y : Nat, x = y := ⟨x.toNat, by omega⟩
  have hx : x ≤ 3 := by omega
  have HP2 : Hid _ := HP1.out.but hc2 hb2
  clear hc2 hb2 HP1 hx0 hx1
  go_wp2_with fail
  go_loopw [5, 6, 7] (fun p q t wr => ∃ (i g n c : Nat) (A : List Int) (g2 n2 c2 : Nat) (B : List Int), n + i ≤ 3 ∧ n2 + i ≤ 3 ∧ t = .int .i64 i ∧ p = .slice (some ⟨g, 0, none⟩) n c ∧ q = .slice (some ⟨g2, 0, none⟩) n2 c2 ∧ Hid (Ps w1 wr cb len cap a g n c A g2 n2 c2 B)) (fun _ _ t _ => (intOf t).toNat)
  case atStart => exact ⟨x, _, 0, 0, [], _, 0, 0, [], by omega, by omega, rfl, rfl, rfl, HP2⟩
  case round =>
    obtain ⟨i, g, n, c, A, g2, n2, c2, B, hn, hn2, rfl, rfl, rfl, hP⟩ := hrel
    by_cases h0 : 0 < i
    · have h0' : (0 : Int) < i := by omega
      go_wp2_with fail
      refine (draws.below_any _ cb len cap a 2 (by decide) hP.out.cur).mono ?_
      rintro e w3 ⟨z, rfl, hz0, hz1, hc3, hb3⟩
      have HP3 : Hid _ := hP.out.but hc3 hb3
      have hok : okI z := ⟨by omega, by omega⟩
      have hs3 : w1.heap.size ≤ w3.heap.size := HP3.out.out.size
      have HOA : Hid (∀ x : Int, x ∈ A ++ [z] → okI x) := ok_add HP3.out.ok.1 hok
      have HOB : Hid (∀ x : Int, x ∈ B ++ [z] → okI x) := ok_add HP3.out.ok.2 hok
      clear hc3 hb3 hok
      go_wp2_with (at_builtin; first | (refine add_int2 w1.heap.size g n c A z _ HP3.out.r1 hs3 (by omega) (by rfl) _ _ (by rfl) (by rfl) _ (by rfl) (by simp) ?_; rintro g4 c4 w4 hR4 hb4 hs4 hg4 hk4; have HP4 : Hid _ := HP3.out.turn hR4 hb4 hg4 hk4 HOA.out; have hs4' : w1.heap.size ≤ w4.heap.size := HP4.out.out.size; clear hR4 hb4 hs4 hg4 hk4) | (refine add_int2 w1.heap.size g2 n2 c2 B z _ HP4.out.r2 hs4' (by omega) (by rfl) _ _ (by rfl) (by rfl) _ (by rfl) (by simp) ?_; rintro g5 c5 w5 hR5 hb5 hs5 hg5 hk5; have HP5 : Hid _ := HP4.out.turn2 hR5 hb5 hg5 hk5 HOB.out; clear hR5 hb5 hs5 hg5 hk5))
      go_roundw
      case rel => exact ⟨i - 1, g4, n + 1, c4, A ++ [z], g5, n2 + 1, c5, B ++ [z], by omega, by omega, by go_num, rfl, rfl, HP5.out⟩
      case measure => simp [intOf]; omega
    · obtain rfl : i = 0 := by omega
      go_wp2_with fail
      refine (draws.once_any _ cb len cap a 2 (by decide) hP.out.cur).mono ?_
      rintro e w3 ⟨b1, rfl, hc3, hb3⟩
      have HP3 : Hid _ := hP.out.but hc3 hb3
      clear hc3 hb3
      cases b1
      · go_wp2_with fail
        refine (draws.once_any _ cb len cap a 3 (by decide) HP3.out.cur).mono ?_
        rintro e wdp ⟨b2, rfl, hc4, hb4⟩
        have HPdp : Hid _ := HP3.out.but hc4 hb4
        clear hc4 hb4
        cases b2
        · go_wp2
          go_ret2
          obtain ⟨k1, k2, k3⟩ := Ps.ends HPdp.out HB1.out HCB.out (by omega) (by omega)
          exact ⟨g, n, c, A, g2, n2, c2, B, rfl, k1, k2, k3⟩
        · go_wp2_with fail
          refine (draws.below_any _ cb len cap a 2 (by decide) HPdp.out.cur).mono ?_
          rintro e wapy ⟨zpy, rfl, hz0, hz1, hca, hba⟩
          have HPapy : Hid _ := HPdp.out.but hca hba
          have hsapy : w1.heap.size ≤ wapy.heap.size := HPapy.out.out.size
          have HOapy : Hid (∀ x : Int, x ∈ B ++ [zpy] → okI x) := ok_add HPapy.out.ok.2 ⟨by omega, by omega⟩
          clear hca hba hz0 hz1
          go_wp2_with (first | (at_builtin; refine add_int2 w1.heap.size g2 (n2) c2 (B) zpy _ HPapy.out.r2 hsapy (by omega) (by rfl) _ _ (by rfl) (by rfl) _ (by rfl) (by simp) ?_; rintro gpy cpy wbpy hRb hbb hsb hgb hkb; have HPbpy : Hid _ := HPapy.out.turn2 hRb hbb hgb hkb HOapy.out; clear hRb hbb hsb hgb hkb) | fail)
          go_ret2
          obtain ⟨k1, k2, k3⟩ := Ps.ends HPbpy.out HB1.out HCB.out (by omega) (by omega)
          exact ⟨g, n, c, A, gpy, n2 + 1, cpy, B ++ [zpy], rfl, k1, k2, k3⟩
      · go_wp2_with fail
        refine (draws.below_any _ cb len cap a 2 (by decide) HP3.out.cur).mono ?_
        rintro e wax ⟨zx, rfl, hz0, hz1, hca, hba⟩
        have HPax : Hid _ := HP3.out.but hca hba
        have hsax : w1.heap.size ≤ wax.heap.size := HPax.out.out.size
        have HOax : Hid (∀ x : Int, x ∈ A ++ [zx] → okI x) := ok_add HPax.out.ok.1 ⟨by omega, by omega⟩
        clear hca hba hz0 hz1
        go_wp2_with (first | (at_builtin; refine add_int2 w1.heap.size g (n) c (A) zx _ HPax.out.r1 hsax (by omega) (by rfl) _ _ (by rfl) (by rfl) _ (by rfl) (by simp) ?_; rintro gx cx wbx hRb hbb hsb hgb hkb; have HPbx : Hid _ := HPax.out.turn hRb hbb hgb hkb HOax.out; clear hRb hbb hsb hgb hkb) | fail)
        refine (draws.once_any _ cb len cap a 3 (by decide) HPbx.out.cur).mono ?_
        rintro e wdq ⟨b2, rfl, hc4, hb4⟩
        have HPdq : Hid _ := HPbx.out.but hc4 hb4
        clear hc4 hb4
        cases b2
        · go_wp2
          go_ret2
          obtain ⟨k1, k2, k3⟩ := Ps.ends HPdq.out HB1.out HCB.out (by omega) (by omega)
          exact ⟨gx, n + 1, cx, A ++ [zx], g2, n2, c2, B, rfl, k1, k2, k3⟩
        · go_wp2_with fail
          refine (draws.below_any _ cb len cap a 2 (by decide) HPdq.out.cur).mono ?_
          rintro e waqy ⟨zqy, rfl, hz0, hz1, hca, hba⟩
          have HPaqy : Hid _ := HPdq.out.but hca hba
          have hsaqy : w1.heap.size ≤ waqy.heap.size := HPaqy.out.out.size
          have HOaqy : Hid (∀ x : Int, x ∈ B ++ [zqy] → okI x) := ok_add HPaqy.out.ok.2 ⟨by omega, by omega⟩
          clear hca hba hz0 hz1
          go_wp2_with (first | (at_builtin; refine add_int2 w1.heap.size g2 (n2) c2 (B) zqy _ HPaqy.out.r2 hsaqy (by omega) (by rfl) _ _ (by rfl) (by rfl) _ (by rfl) (by simp) ?_; rintro gqy cqy wbqy hRb hbb hsb hgb hkb; have HPbqy : Hid _ := HPaqy.out.turn2 hRb hbb hgb hkb HOaqy.out; clear hRb hbb hsb hgb hkb) | fail)
          go_ret2
          obtain ⟨k1, k2, k3⟩ := Ps.ends HPbqy.out HB1.out HCB.out (by omega) (by omega)
          exact ⟨gx, n + 1, cx, A ++ [zx], gqy, n2 + 1, cqy, B ++ [zqy], rfl, k1, k2, k3⟩
end Go.Proofs.Ytpejcblmglbjfaa.places
namespace Go.Proofs.Ytpejcblmglbjfaa.places
open trees (Tree Hdr noTree kid nsz nszs tsize ksize cnt cnts)
open ints (int0 okI IFit)
open paths (atT stepT sameB underB)
set_option linter.unusedVariables false
mutual
def nodesT : Tree → List Tree
  | .mk a b c d e f g ks => .mk a b c d e f g ks :: nodesTs ks
def nodesTs : List Tree → List Tree
  | [] => []
  | x :: r => nodesT x ++ nodesTs r
end
theorem nodes_eq (t : Tree) : nodesT t = t :: nodesTs t.kids := by cases t; rw [nodesT]; rfl
mutual
theorem paths_at (t0 : Tree) : ∀ (p : List Int) (t : Tree), atT t0 p = some t → (pathsT p t).map (atT t0) = (nodesT t).map some
  | p, .mk a b c d e f g ks, h => by
    have h2 := pathss_at t0 p (.mk a b c d e f g ks) [] ks h rfl
    rw [List.length_nil] at h2
    rw [pathsT, nodesT, List.map_cons, List.map_cons, h, h2]
theorem pathss_at (t0 : Tree) : ∀ (p : List Int) (x : Tree) (pre L : List Tree), atT t0 p = some x → x.kids = pre ++ L → (pathsTs p pre.length L).map (atT t0) = (nodesTs L).map some
  | p, x, pre, [], h, hk => by rw [pathsTs, nodesTs]; rfl
  | p, x, pre, y :: L, h, hk => by
    have hy : atT t0 (p ++ [((pre.length : Nat) : Int)]) = some y := by
      rw [paths.at_append, h]
      show atT x [_] = some y
      rw [paths.at_one, paths.step_yes ⟨by omega, by rw [hk]; simp; omega⟩, hk]
      congr 1
      unfold kid
      simp
    have h2 := pathss_at t0 p x (pre ++ [y]) L h (by rw [hk, List.append_assoc]; rfl)
    rw [List.length_append, List.length_singleton] at h2
    rw [pathsTs, nodesTs, List.map_append, List.map_append, paths_at t0 _ y hy, h2]
end
theorem nodes_len (t : Tree) : (pathsT [] t).length = (nodesT t).length := by
  have h := congrArg List.length (paths_at t [] t rfl)
  rwa [List.length_map, List.length_map] at h
theorem place_at (t : Tree) {i : Nat} (hi : i < (pathsT [] t).length) : atT t ((pathsT [] t).getD i []) = some (kid (nodesT t) i) := by
  have h := congrArg (fun l => l[i]?) (paths_at t [] t rfl)
  have hj : i < (nodesT t).length := by rw [← nodes_len]; exact hi
  simp only [List.getElem?_map, List.getElem?_eq_getElem hi, List.getElem?_eq_getElem hj, Option.map_some] at h
  unfold kid
  rw [List.getD_eq_getElem?_getD, List.getElem?_eq_getElem hi, List.getD_eq_getElem?_getD, List.getElem?_eq_getElem hj]
  exact Option.some.inj h
/-- How many nodes, and Attrs. -/
def sumA : List Tree → Nat
  | [] => 0
  | x :: r => 1 + x.ats.length + sumA r
theorem sumA_append : ∀ (L M : List Tree), sumA (L ++ M) = sumA L + sumA M
  | [], M => by rw [List.nil_append, sumA]; omega
  | x :: L, M => by rw [List.cons_append, sumA, sumA_append L M, sumA]; omega
mutual
theorem sum_cnt : ∀ (t : Tree), sumA (nodesT t) = cnt t
  | .mk a b c d e f g ks => by
    rw [nodesT, sumA, sums_cnt ks, cnt]
    rfl
theorem sums_cnt : ∀ (L : List Tree), sumA (nodesTs L) = cnts L
  | [] => by rw [nodesTs, sumA, cnts]
  | x :: L => by rw [nodesTs, sumA_append, sum_cnt x, sums_cnt L, cnts]
end
theorem sum_next {L : List Tree} {i : Nat} (h : i < L.length) : sumA (L.take (i + 1)) = sumA (L.take i) + 1 + (kid L i).ats.length := by
  rw [kid_take h, sumA_append, sumA, sumA]
  omega
theorem sum_take (L : List Tree) (i : Nat) : sumA (L.take i) ≤ sumA L := by
  have h := sumA_append (L.take i) (L.drop i)
  rw [List.take_append_drop] at h
  omega
/-! ### Each once -/
mutual
theorem paths_pre : ∀ (p : List Int) (t : Tree) (q : List Int), q ∈ pathsT p t → p <+: q
  | p, .mk a b c d e f g ks, q, hq => by
    rw [pathsT, List.mem_cons] at hq
    rcases hq with rfl | hq
    · exact List.prefix_refl _
    · obtain ⟨j, _, hj⟩ := pathss_pre p 0 ks q hq
      exact (List.prefix_append p _).trans hj
theorem pathss_pre : ∀ (p : List Int) (i : Nat) (L : List Tree) (q : List Int), q ∈ pathsTs p i L → ∃ j, i ≤ j ∧ (p ++ [((j : Nat) : Int)]) <+: q
  | p, i, [], q, hq => by rw [pathsTs] at hq; cases hq
  | p, i, x :: L, q, hq => by
    rw [pathsTs, List.mem_append] at hq
    rcases hq with hq | hq
    · exact ⟨i, Nat.le_refl _, paths_pre _ x q hq⟩
    · obtain ⟨j, h1, h2⟩ := pathss_pre p (i + 1) L q hq
      exact ⟨j, by omega, h2⟩
end
theorem pre_same {p q : List Int} {i j : Nat} (h1 : (p ++ [((i : Nat) : Int)]) <+: q) (h2 : (p ++ [((j : Nat) : Int)]) <+: q) : i = j := by
  obtain ⟨r, rfl⟩ := h1
  obtain ⟨s, e⟩ := h2
  rw [List.append_assoc, List.append_assoc] at e
  have := List.append_cancel_left e
  simp at this
  omega
mutual
theorem paths_once : ∀ (p : List Int) (t : Tree), (pathsT p t).Nodup
  | p, .mk a b c d e f g ks => by
    rw [pathsT, List.nodup_cons]
    refine ⟨fun h => ?_, pathss_once p 0 ks⟩
    obtain ⟨j, _, hj⟩ := pathss_pre p 0 ks p h
    have := hj.length_le
    rw [List.length_append] at this
    simp only [List.length_cons, List.length_nil] at this
    omega
theorem pathss_once : ∀ (p : List Int) (i : Nat) (L : List Tree), (pathsTs p i L).Nodup
  | p, i, [] => by rw [pathsTs]; exact List.nodup_nil
  | p, i, x :: L => by
    rw [pathsTs, List.nodup_append]
    refine ⟨paths_once _ x, pathss_once p (i + 1) L, fun q hq r hr e => ?_⟩
    subst e
    have h1 := paths_pre _ x q hq
    obtain ⟨j, h2, h3⟩ := pathss_pre p (i + 1) L q hr
    have := pre_same h1 h3
    omega
end
theorem same_eq {L M : List Int} (h : sameB L M = true) : L = M := by
  unfold sameB underB at h
  rw [Bool.and_eq_true, beq_iff_eq, List.isPrefixOf_iff_prefix] at h
  exact (h.2.eq_of_length h.1.symm).symm
theorem places_differ (t : Tree) {i : Nat} (hi : i + 1 < (pathsT [] t).length) : sameB ((pathsT [] t).getD i []) ((pathsT [] t).getD (i + 1) []) = false := by
  cases h : sameB ((pathsT [] t).getD i []) ((pathsT [] t).getD (i + 1) []) with
  | false => rfl
  | true =>
    have e := same_eq h
    rw [List.getD_eq_getElem?_getD, List.getD_eq_getElem?_getD, List.getElem?_eq_getElem (by omega), List.getElem?_eq_getElem hi] at e
    have h2 := List.pairwise_iff_getElem.1 (paths_once [] t) i (i + 1) (by omega) hi (by omega)
    exact absurd e h2
theorem under_none (L : List Int) : underB L [] = true := by cases L <;> rfl
theorem first_place (t : Tree) : (pathsT [] t).getD 0 [] = [] ∧ 0 < (pathsT [] t).length := by rw [paths_eq]; exact ⟨rfl, by simp⟩
end Go.Proofs.Ytpejcblmglbjfaa.places
namespace Go.Proofs.Ytpejcblmglbjfaa.places
open Go.ChangeShapes Go.WideShapes Go.ChangeAt Go.RowKit
open trees (Tree Hdr vals noTree kid nsz nszs tsize ksize NodeIn NodesAt box8 box_kept box_under)
set_option linter.unusedVariables false
theorem nodess_append : ∀ (L M : List Tree), nodesTs (L ++ M) = nodesTs L ++ nodesTs M
  | [], M => rfl
  | x :: L, M => by rw [List.cons_append, nodesTs, nodess_append L M, nodesTs, List.append_assoc]
theorem nodess_next {L : List Tree} {i : Nat} (h : i < L.length) : (nodesTs (L.take (i + 1))).length = (nodesTs (L.take i)).length + (nodesT (kid L i)).length := by
  rw [kid_take h, nodess_append, List.length_append, nodesTs, nodesTs, List.append_nil]
theorem nodess_take (L : List Tree) (i : Nat) : (nodesTs (L.take i)).length ≤ (nodesTs L).length := by
  have h := nodess_append (L.take i) (L.drop i)
  rw [List.take_append_drop] at h
  rw [h, List.length_append]
  omega
def NodesOk (t : Tree) (h : Hdr) (w : World) : Prop :=
  Calls Try.prog 22 #[.agg (vals t h)] w fun e w' => e = .returned (.int .i64 ((nodesT t).length : Int)) ∧ Below w.heap.size w w'
set_option maxRecDepth 100000 in
set_option maxHeartbeats 4000000 in
theorem spec_nodes_of (n B : Nat) (ih : ∀ (t : Tree) (h : Hdr) (w : World), tsize t < n → nsz t ≤ 3000000 → NodeIn w B t h → NodesOk t h w)
    (t : Tree) (h : Hdr) (w : World) (ht : tsize t ≤ n) (hz : nsz t ≤ 3000000) (hn : NodeIn w B t h) : NodesOk t h w := by
  have hkt := trees.tsize_kid t
  have hcl := nodes_len t
  have hcm := paths_len [] t
  have HZ : Hid (nszs t.kids ≤ 3000000) := by have := nsz_eq t; show _ ≤ _; omega
  have HCN : Hid ((nodesT t).length = 1 + (nodesTs t.kids).length) := by show _ = _; rw [nodes_eq, List.length_cons]; omega
  have HCB : Hid ((nodesTs t.kids).length ≤ 3000001) := by have h1 := HCN.out; show _ ≤ _; omega
  obtain ⟨N, hN⟩ : ∃ N, (nodesT t).length = N := ⟨_, rfl⟩
  unfold NodesOk
  rw [hN] at HCN ⊢
  clear hN hcl hcm
  obtain ⟨k, p, l, u, x, ds, ats, ks⟩ := t
  obtain ⟨da, dc, aa, ac, ka, kc⟩ := h
  have HK : Hid (NodesAt w B ka ks) := trees.kids_at hn
  have hkk : ks.length ≤ 9223372036854775807 := (trees.kids_at hn).short
  have HKT : Hid (∀ i, i < ks.length → tsize (kid ks i) < n) := fun i hi => Nat.lt_of_lt_of_le (hkt i hi) ht
  have HIH : Hid _ := ih
  simp only [vals, Tree.kind, Tree.pre, Tree.loc, Tree.uri, Tree.text, Tree.ds, Tree.ats, Tree.kids] at *
  clear ih hn ht hz hkt
  go_enter Try.func22, Try.ntmps22
  go_wp2_with fail
  go_loopw [3, 4] (fun q t wr => ∃ (i c : Nat), i ≤ ks.length ∧ c ≤ 3000002 ∧ t = .int .i64 i ∧ q = .int .i64 (c : Int) ∧ Hid (1 + (nodesTs (ks.take i)).length = c) ∧ Hid (Below (w.alloc (.cells #[.int .i64 k, .string p, .string l, .string u, .slice da ds.length dc, .slice aa ats.length ac, .slice ka ks.length kc, .string x] 28)).heap.size (w.alloc (.cells #[.int .i64 k, .string p, .string l, .string u, .slice da ds.length dc, .slice aa ats.length ac, .slice ka ks.length kc, .string x] 28)) wr)) (fun _ t _ => ks.length - (intOf t).toNat)
  case atStart => exact ⟨0, 1, Nat.zero_le _, by omega, rfl, rfl, by show _ = _; rw [List.take_zero, nodesTs]; rfl, Below.refl _ _⟩
  case round =>
    obtain ⟨i, c, hi, hcc, rfl, rfl, hC, hbw⟩ := hrel
    obtain ⟨b0, b1, b2, b3, b4, b5, b6, b7⟩ := box8 (box_kept hbw.out)
    have HBW : Hid _ := box_under hbw.out
    by_cases hlt : i < ks.length
    · obtain ⟨b, off, ha, hblt, hc⟩ := (HK.out.below HBW.out).row (by omega)
      obtain ⟨h', hnode, hc0, hc1, hc2, hc3, hc4, hc5, hc6, hc7⟩ := hc i hlt
      have hE := HIH.out (kid ks i) h' wr (HKT.out i hlt) (by have h1 := trees.nsz_kid ks i hlt; have h2 := HZ.out; omega) hnode
      unfold NodesOk at hE
      unfold vals at hE
      have hst := nodess_next hlt
      have hmo := nodess_take ks (i + 1)
      have hcb := HCB.out
      have hCo := hC.out
      generalize kid ks i = y at hc0 hc1 hc2 hc3 hc4 hc5 hc6 hc7 hE hst
      obtain ⟨z, hz⟩ : ∃ z, (nodesT y).length = z := ⟨_, rfl⟩
      rw [hz] at hE hst
      have hb1 : c + z ≤ 3000002 := by omega
      have HE : Hid _ := hE
      have HST : Hid (1 + (nodesTs (ks.take (i + 1))).length = c + z) := by show _ = _; omega
      subst ha
      clear hc hE hnode hst hmo hcb hz hCo
      go_wp2_with fail
      refine Calls.mono HE.out ?_
      rintro e w2 ⟨rfl, hb3⟩
      have HB2 : Hid _ := hbw.out.trans (hb3.mono hbw.out.size)
      clear hb3 HE
      go_wp2
      go_roundw
      case rel => exact ⟨i + 1, c + z, by omega, hb1, by go_num, by go_num, HST.out, HB2.out⟩
      case measure => simp [intOf]; omega
    · obtain rfl : i = ks.length := by omega
      have HNC : Hid (N = c) := by have h1 := hC.out; rw [List.take_length] at h1; show _ = _; rw [HCN.out, h1]
      go_wp2
      go_ret
      exact ⟨by rw [HNC.out]; rfl, HBW.out⟩
theorem spec_nodes (B : Nat) : ∀ n, ∀ (t : Tree) (h : Hdr) (w : World), tsize t < n → nsz t ≤ 3000000 → NodeIn w B t h → NodesOk t h w
  | 0, t, h, w, ht, _, _ => by omega
  | n + 1, t, h, w, ht, hz, hn => spec_nodes_of n B (fun t h w ht hz hn => spec_nodes B n t h w ht hz hn) t h w (by omega) hz hn
end Go.Proofs.Ytpejcblmglbjfaa.places
