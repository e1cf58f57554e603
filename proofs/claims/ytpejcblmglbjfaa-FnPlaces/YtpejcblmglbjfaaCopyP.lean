/-
  What copies of nodes are, and a copy's boxes.
-/
import Derived.Test.YtpejcblmglbjfaaRowsOwn
import Derived.Test.YtpejcblmglbjfaaNodeFns
import Derived.Test.YtpejcblmglbjfaaQuiet
namespace Go.Proofs.Ytpejcblmglbjfaa.trees
open Go.ChangeShapes Go.WideShapes Go.ChangeAt Go.RowKit
open pairs (Pair at0 PairsAt)
set_option linter.unusedVariables false
theorem Rng.wide {w w1 w2 w' : World} (h1 : w.heap.size ≤ w1.heap.size) (h2 : w2.heap.size ≤ w'.heap.size) : Inc (Rng w1 w2) (Rng w w') := fun b hb => ⟨Nat.le_trans h1 hb.1, Nat.lt_of_lt_of_le hb.2 h2⟩
/-- What a function that copies a node answers. -/
def CopyOk (f : FuncId) (t : Tree) (h : Hdr) (w : World) : Prop :=
  Calls Try.prog f #[.agg (vals t h)] w fun e w' => (∃ h', e = .returned (.agg (vals t h')) ∧ OwnN w' t h' (Rng w w')) ∧ Below w.heap.size w w'
theorem kid_take {L : List Tree} {i : Nat} (hi : i < L.length) : L.take (i + 1) = L.take i ++ [kid L i] := by
  rw [List.take_succ_eq_append_getElem hi]
  congr 2
  unfold kid
  rw [List.getD_eq_getElem?_getD, List.getElem?_eq_getElem hi]
  rfl
theorem trees1_append (P R : List TH) : trees1 (P ++ R) = trees1 P ++ trees1 R := by unfold trees1; rw [List.map_append]
theorem trees1_len (P : List TH) : (trees1 P).length = P.length := by unfold trees1; rw [List.length_map]
theorem new_row (w : World) : RowV (w.alloc (.cells #[] 28)) w.heap.size w.heap.size 0 0 [] (fun _ _ => False) :=
  ⟨World.ownsRow_made w #[] 0 (Nat.le_refl _) (by decide) (by decide), rfl, fun i b hb => hb.elim, fun i hb => hb, fun i j _ b hb _ => hb, fun i hi => by cases hi⟩
/-- append of one node, that lies in a block of its own, to a row of the call's own. -/
theorem add_node {ops : Array Oper} {rest : List Oper} {o : Oper} {a : Act} {w : World} {Q : Exit → Act → World → Prop} (B g n c : Nat) (P : List TH) (G : Nat → Bset) (x : TH) (F : Bset) (ty : TypeId)
    (hR : RowV w B g n c P G) (hB : B ≤ w.heap.size) (hn : n ≤ 2000000) (hx : OwnN w x.1 x.2 F) (hF : Inc F (fun b => B ≤ b ∧ b < w.heap.size)) (hFg : ¬ F g) (hFa : ∀ i, Apart (G i) F) (hgd : o.guard = none) (s y : Operand)
    (ho : o.op = .call { callee := .builtin .append, args := #[s, y], argTypes := #[26, 26] }) (hs : a.eval s = .slice (some ⟨g, 0, none⟩) n c) (q : Nat) (hy : a.eval y = .slice (some ⟨q, 0, none⟩) 1 1) (hq : q = w.heap.size)
    (h : ∀ g' c' w', RowV w' B g' (n + 1) c' (P ++ [x]) (fun i => if i = n then F else G i) → Below B w w' → w.heap.size ≤ w'.heap.size → wpList Try.prog ops Q rest (a.put o.dst (.slice (some ⟨g', 0, none⟩) (n + 1) c')) w') : wpList Try.prog ops Q (o :: rest) a (w.alloc (.cells (vals x.1 x.2) ty)) := by
  subst hq
  have hb0 : Below w.heap.size w (w.alloc (.cells (vals x.1 x.2) ty)) := (Below.refl _ _).alloc (Nat.le_refl _) _
  have hR0 := hR.below hb0
  obtain ⟨g', c', w', hr, how, hg', hgr⟩ := appn_run (w.alloc (.cells (vals x.1 x.2) ty)) o.type B g n c (cellsN P) x.1 x.2 ⟨w.heap.size, 0, none⟩ 1 hR0.own (Nat.le_trans hB hb0.size) hn (fun j u hj => by
    rw [show (⟨w.heap.size, 0, none⟩ : Addr).add j = ⟨w.heap.size, j, none⟩ by rw [Addr.add_lit, Nat.zero_add]]
    exact pairs.cell_new w _ _ j u (by rw [← Array.getElem?_toList]; exact hj))
  refine pairs.wpList_run hgd s y _ ho _ _ _ hs hy hr (h g' c' w' (RowV.more hR0 how hg' hgr (hx.below hb0) (fun b hb => ⟨(hF b hb).1, Nat.lt_of_lt_of_le (hF b hb).2 hb0.size⟩) hFg hFa) ?_ (Nat.le_trans hb0.size hgr.size))
  have := hR.lt
  exact (hb0.mono hB).trans ⟨hgr.os, hgr.tape, hgr.output, hgr.size, fun k hk => hgr.block k (by simp; omega) (fun e => by cases e; omega)⟩
theorem made_set {w : World} {g b o : Nat} {u : Value} {L : List Pair} {k : Nat} (h : pairs.Made w g L k) (hne : g ≠ b) : pairs.Made (w.setCell ⟨b, o, none⟩ u) g L k := h.other (pairs.grown_set w b o u) hne
theorem madeA_set2 {w : World} {g b o : Nat} {u : Value} {L : List Att} {k : Nat} (h : MadeA w g L k) (hne : g ≠ b) : MadeA (w.setCell ⟨b, o, none⟩ u) g L k := madeA_out (G := fun x => x = b) h ((Out.refl (fun x => x = b) w).set (F := fun x => x = b) rfl o u) (fun e => hne e)
theorem madeA_below {w w' : World} {g : Nat} {L : List Att} {k : Nat} (h : MadeA w g L k) (hb : Below w.heap.size w w') : MadeA w' g L k := madeA_out (G := fun _ => False) h (Out.of_below hb) (fun h => h)
/-- A copy out of its parts. -/
theorem copy_parts {w W W' : World} {t : Tree} {h : Hdr} {g1 g2 s3 : Nat} (hf : t.fits ∧ t.kids.length ≤ h.kc) (hd : PFit t.ds) (ha : AFit t.ats) (h1 : pairs.Made W g1 t.ds t.ds.length) (h2 : MadeA W g2 t.ats t.ats.length) (h3 : OwnL W h.ka t.kids (fun b => s3 ≤ b ∧ b < W.heap.size)) (e1 : h.da = some ⟨g1, 0, none⟩) (e2 : h.aa = some ⟨g2, 0, none⟩)
    (o1 : w.heap.size + 3 ≤ g1) (o2 : g1 < g2) (o3 : g2 < s3) (o4 : s3 ≤ W.heap.size) (ho : Out (fun b => b = w.heap.size + 1 ∨ b = w.heap.size + 1 + 1) W W') : OwnN W' t h (Rng w W') := by
  have hs := ho.size
  refine PartsN.node (FD := fun b => b = g1) (FA := fun b => b = g2) (FK := fun b => s3 ≤ b ∧ b < W.heap.size) ⟨hf, hd, ha, fun b hb => by subst hb; exact ⟨by omega, by omega⟩, fun b hb => by subst hb; exact ⟨by omega, by omega⟩, fun b hb => ⟨by have := hb.1; omega, by have := hb.2; omega⟩, fun b hb hc => by subst hb; omega, fun b hb hc => by subst hb; have := hc.1; omega, fun b hb hc => by subst hb; have := hc.1; omega, fun _ => ⟨g1, e1, rfl, made_out h1 ho (fun e => by omega)⟩, fun _ => ⟨g2, e2, rfl, madeA_out h2 ho (fun e => by omega)⟩, h3.out ho (fun b hb e => by have := hb.1; omega)⟩
/-- The three boxes of a copy. -/
structure T3 (w W : World) (P O : Array Value) : Prop where
  par : W.heap[w.heap.size]? = some (.cells P 28 (0, 0))
  res : W.heap[w.heap.size + 1]? = some (.cells #[.int .i64 0, .string ⟨#[]⟩, .string ⟨#[]⟩, .string ⟨#[]⟩, .slice none 0 0, .slice none 0 0, .slice none 0 0, .string ⟨#[]⟩] 28 (0, 0))
  out : W.heap[w.heap.size + 1 + 1]? = some (.cells O 28 (0, 0))
  bel : Below w.heap.size w W
theorem T3.size {w W : World} {P O : Array Value} (h : T3 w W P O) : w.heap.size + 3 ≤ W.heap.size := pairs.lt_heap h.out
theorem T3.new (w : World) (P O : Array Value) : T3 w (((w.alloc (.cells P 28)).alloc (.cells #[.int .i64 0, .string ⟨#[]⟩, .string ⟨#[]⟩, .string ⟨#[]⟩, .slice none 0 0, .slice none 0 0, .slice none 0 0, .string ⟨#[]⟩] 28)).alloc (.cells O 28)) P O := by
  refine ⟨?_, ?_, ?_, (((Below.refl _ w).alloc (Nat.le_refl _) _).alloc (by simp) _).alloc (by simp; omega) _⟩
  · exact (Below.heap_alloc _ _ _ (by simp; omega)).trans ((Below.heap_alloc _ _ _ (by simp)).trans (heap_alloc_new w _))
  · have := heap_alloc_new (w.alloc (.cells P 28)) (.cells #[.int .i64 0, .string ⟨#[]⟩, .string ⟨#[]⟩, .string ⟨#[]⟩, .slice none 0 0, .slice none 0 0, .slice none 0 0, .string ⟨#[]⟩] 28)
    rw [World.size_alloc] at this
    exact (Below.heap_alloc _ _ _ (by simp)).trans this
  · have := heap_alloc_new ((w.alloc (.cells P 28)).alloc (.cells #[.int .i64 0, .string ⟨#[]⟩, .string ⟨#[]⟩, .string ⟨#[]⟩, .slice none 0 0, .slice none 0 0, .slice none 0 0, .string ⟨#[]⟩] 28)) (.cells O 28)
    rw [World.size_alloc, World.size_alloc] at this
    exact this
theorem T3.below {w W W' : World} {P O : Array Value} (h : T3 w W P O) (hb : Below W.heap.size W W') : T3 w W' P O :=
  ⟨(hb.block _ (pairs.lt_heap h.par)).trans h.par, (hb.block _ (pairs.lt_heap h.res)).trans h.res, (hb.block _ (pairs.lt_heap h.out)).trans h.out, h.bel.trans (hb.mono h.bel.size)⟩
theorem T3.set {w W : World} {P O : Array Value} (h : T3 w W P O) (i : Nat) (u : Value) : T3 w (W.setCell ⟨w.heap.size + 1 + 1, i, none⟩ u) P (O.setIfInBounds i u) :=
  ⟨(Below.heap_setCell _ ⟨w.heap.size + 1 + 1, i, none⟩ _ _ (by show w.heap.size ≠ w.heap.size + 1 + 1; omega)).trans h.par, (Below.heap_setCell _ ⟨w.heap.size + 1 + 1, i, none⟩ _ _ (by show w.heap.size + 1 ≠ w.heap.size + 1 + 1; omega)).trans h.res, pairs.block_set _ h.out, h.bel.setCell (p := ⟨w.heap.size + 1 + 1, i, none⟩) (by show w.heap.size ≤ w.heap.size + 1 + 1; omega) _⟩
theorem box_froz {w : World} {b : Nat} {t : TypeId} {C : Array Value} (h : w.heap[b]? = some (.cells C t (0, 0))) :
    w.frozen? ⟨b, 0, none⟩ = false ∧ w.frozen? ⟨b, 1, none⟩ = false ∧ w.frozen? ⟨b, 2, none⟩ = false ∧ w.frozen? ⟨b, 3, none⟩ = false ∧ w.frozen? ⟨b, 4, none⟩ = false ∧ w.frozen? ⟨b, 5, none⟩ = false ∧ w.frozen? ⟨b, 6, none⟩ = false ∧ w.frozen? ⟨b, 7, none⟩ = false := by
  simp [World.frozen?, h]
def set8 (cur : Array Value) (k : Nat) (u0 u1 u2 u3 u4 u5 u6 u7 : Value) : Array Value := (((((((cur.setIfInBounds (k * 8) u0).setIfInBounds (k * 8 + 1) u1).setIfInBounds (k * 8 + 2) u2).setIfInBounds (k * 8 + 3) u3).setIfInBounds (k * 8 + 4) u4).setIfInBounds (k * 8 + 5) u5).setIfInBounds (k * 8 + 6) u6).setIfInBounds (k * 8 + 7) u7
theorem set8_in (cur : Array Value) (k : Nat) (u0 u1 u2 u3 u4 u5 u6 u7 : Value) (hk : k * 8 + 8 ≤ cur.size) (q : Nat) (hq : q < 8) : (set8 cur k u0 u1 u2 u3 u4 u5 u6 u7)[k * 8 + q]? = (#[u0, u1, u2, u3, u4, u5, u6, u7] : Array Value)[q]? := by
  unfold set8
  rcases (show q = 0 ∨ q = 1 ∨ q = 2 ∨ q = 3 ∨ q = 4 ∨ q = 5 ∨ q = 6 ∨ q = 7 by omega) with rfl | rfl | rfl | rfl | rfl | rfl | rfl | rfl
  · rw [Array.getElem?_setIfInBounds_ne (by omega), Array.getElem?_setIfInBounds_ne (by omega), Array.getElem?_setIfInBounds_ne (by omega), Array.getElem?_setIfInBounds_ne (by omega), Array.getElem?_setIfInBounds_ne (by omega), Array.getElem?_setIfInBounds_ne (by omega), Array.getElem?_setIfInBounds_ne (by omega)]; exact Array.getElem?_setIfInBounds_self_of_lt (by omega)
  · rw [Array.getElem?_setIfInBounds_ne (by omega), Array.getElem?_setIfInBounds_ne (by omega), Array.getElem?_setIfInBounds_ne (by omega), Array.getElem?_setIfInBounds_ne (by omega), Array.getElem?_setIfInBounds_ne (by omega), Array.getElem?_setIfInBounds_ne (by omega), Array.getElem?_setIfInBounds_self_of_lt (by simp only [Array.size_setIfInBounds]; omega)]; rfl
  · rw [Array.getElem?_setIfInBounds_ne (by omega), Array.getElem?_setIfInBounds_ne (by omega), Array.getElem?_setIfInBounds_ne (by omega), Array.getElem?_setIfInBounds_ne (by omega), Array.getElem?_setIfInBounds_ne (by omega), Array.getElem?_setIfInBounds_self_of_lt (by simp only [Array.size_setIfInBounds]; omega)]; rfl
  · rw [Array.getElem?_setIfInBounds_ne (by omega), Array.getElem?_setIfInBounds_ne (by omega), Array.getElem?_setIfInBounds_ne (by omega), Array.getElem?_setIfInBounds_ne (by omega), Array.getElem?_setIfInBounds_self_of_lt (by simp only [Array.size_setIfInBounds]; omega)]; rfl
  · rw [Array.getElem?_setIfInBounds_ne (by omega), Array.getElem?_setIfInBounds_ne (by omega), Array.getElem?_setIfInBounds_ne (by omega), Array.getElem?_setIfInBounds_self_of_lt (by simp only [Array.size_setIfInBounds]; omega)]; rfl
  · rw [Array.getElem?_setIfInBounds_ne (by omega), Array.getElem?_setIfInBounds_ne (by omega), Array.getElem?_setIfInBounds_self_of_lt (by simp only [Array.size_setIfInBounds]; omega)]; rfl
  · rw [Array.getElem?_setIfInBounds_ne (by omega), Array.getElem?_setIfInBounds_self_of_lt (by simp only [Array.size_setIfInBounds]; omega)]; rfl
  · rw [Array.getElem?_setIfInBounds_self_of_lt (by simp only [Array.size_setIfInBounds]; omega)]; rfl
theorem set8_out (cur : Array Value) (k j : Nat) (u0 u1 u2 u3 u4 u5 u6 u7 : Value) (hj : j ≠ k) (q : Nat) (hq : q < 8) : (set8 cur k u0 u1 u2 u3 u4 u5 u6 u7)[j * 8 + q]? = cur[j * 8 + q]? := by
  unfold set8
  rw [Array.getElem?_setIfInBounds_ne (by omega), Array.getElem?_setIfInBounds_ne (by omega), Array.getElem?_setIfInBounds_ne (by omega), Array.getElem?_setIfInBounds_ne (by omega), Array.getElem?_setIfInBounds_ne (by omega), Array.getElem?_setIfInBounds_ne (by omega), Array.getElem?_setIfInBounds_ne (by omega), Array.getElem?_setIfInBounds_ne (by omega)]
end Go.Proofs.Ytpejcblmglbjfaa.trees
