/-
  The laws' own copy of a node.
-/
import Derived.Test.YtpejcblmglbjfaaNodeFns
namespace Go.Proofs.Ytpejcblmglbjfaa.trees
open Go.ChangeShapes Go.WideShapes Go.ChangeAt Go.RowKit
open pairs (Pair at0 PairsAt)
set_option linter.unusedVariables false
/-- A row of the call's own, of as many nodes, the first k of which are there already; what they lead to lies beyond it. -/
structure MadeN (w : World) (g : Nat) (L : List Tree) (k : Nat) : Prop where
  all : ∃ (cur : Array Value) (ty : TypeId), w.heap[g]? = some (.cells cur ty (0, 0)) ∧ L.length * 8 ≤ cur.size ∧ ∀ i, i < k → ∃ h, NodeIn w (g + 1) (kid L i) h ∧ ∀ j, j < 8 → cur[i * 8 + j]? = (vals (kid L i) h)[j]?
theorem set_keeps {w : World} {g o : Nat} {u : Value} (k : Nat) (hk : g + 1 ≤ k) : (w.setCell ⟨g, o, none⟩ u).heap[k]? = w.heap[k]? := Below.heap_setCell w ⟨g, o, none⟩ u k (by show k ≠ g; omega)
theorem set_size (w : World) (g o : Nat) (u : Value) : (w.setCell ⟨g, o, none⟩ u).heap.size = w.heap.size := by simp [World.setCell]
theorem node_set {w : World} {g o : Nat} {u : Value} {t : Tree} {h : Hdr} (hn : NodeIn w (g + 1) t h) : NodeIn (w.setCell ⟨g, o, none⟩ u) (g + 1) t h := NodeIn.keep (by rw [set_size]; exact Nat.le_refl _) (fun k hk _ => set_keeps k hk) t h hn
set_option maxHeartbeats 1000000 in
theorem MadeN.next {w w2 : World} {g : Nat} {L : List Tree} {k : Nat} (hm : MadeN w g L k) (hk : k < L.length) (hb : Below w.heap.size w w2) :
    ∃ c0 c1 c2 c3 c4 c5 c6 c7, w2.cell? ⟨g, k * 8, none⟩ = some c0 ∧ w2.cell? ⟨g, k * 8 + 1, none⟩ = some c1 ∧ w2.cell? ⟨g, k * 8 + 2, none⟩ = some c2 ∧ w2.cell? ⟨g, k * 8 + 3, none⟩ = some c3 ∧ w2.cell? ⟨g, k * 8 + 4, none⟩ = some c4 ∧ w2.cell? ⟨g, k * 8 + 5, none⟩ = some c5 ∧ w2.cell? ⟨g, k * 8 + 6, none⟩ = some c6 ∧ w2.cell? ⟨g, k * 8 + 7, none⟩ = some c7 ∧ w2.frozen? ⟨g, k * 8, none⟩ = false ∧ w2.frozen? ⟨g, k * 8 + 1, none⟩ = false ∧ w2.frozen? ⟨g, k * 8 + 2, none⟩ = false ∧ w2.frozen? ⟨g, k * 8 + 3, none⟩ = false ∧ w2.frozen? ⟨g, k * 8 + 4, none⟩ = false ∧ w2.frozen? ⟨g, k * 8 + 5, none⟩ = false ∧ w2.frozen? ⟨g, k * 8 + 6, none⟩ = false ∧ w2.frozen? ⟨g, k * 8 + 7, none⟩ = false ∧ ∀ t h, t = kid L k → NodeIn w2 (g + 1) t h →
      MadeN ((((((((w2.setCell ⟨g, k * 8, none⟩ (.int .i64 t.kind)).setCell ⟨g, k * 8 + 1, none⟩ (.string t.pre)).setCell ⟨g, k * 8 + 2, none⟩ (.string t.loc)).setCell ⟨g, k * 8 + 3, none⟩ (.string t.uri)).setCell ⟨g, k * 8 + 4, none⟩ (.slice h.da t.ds.length h.dc)).setCell ⟨g, k * 8 + 5, none⟩ (.slice h.aa t.ats.length h.ac)).setCell ⟨g, k * 8 + 6, none⟩ (.slice h.ka t.kids.length h.kc)).setCell ⟨g, k * 8 + 7, none⟩ (.string t.text)) g L (k + 1) := by
  obtain ⟨cur, ty, hg, hs, hj⟩ := hm.all
  have hg2 : w2.heap[g]? = some (.cells cur ty (0, 0)) := (hb.block g (pairs.lt_heap hg)).trans hg
  have hlt : ∀ j, j < 8 → k * 8 + j < cur.size := fun j hj => by omega
  refine ⟨cur[k * 8 + 0]'(hlt 0 (by omega)), cur[k * 8 + 1]'(hlt 1 (by omega)), cur[k * 8 + 2]'(hlt 2 (by omega)), cur[k * 8 + 3]'(hlt 3 (by omega)), cur[k * 8 + 4]'(hlt 4 (by omega)), cur[k * 8 + 5]'(hlt 5 (by omega)), cur[k * 8 + 6]'(hlt 6 (by omega)), cur[k * 8 + 7]'(hlt 7 (by omega)), by have := hlt 0 (by omega); simp [World.cell?, hg2], by have := hlt 1 (by omega); simp [World.cell?, hg2, this], by have := hlt 2 (by omega); simp [World.cell?, hg2, this], by have := hlt 3 (by omega); simp [World.cell?, hg2, this], by have := hlt 4 (by omega); simp [World.cell?, hg2, this], by have := hlt 5 (by omega); simp [World.cell?, hg2, this], by have := hlt 6 (by omega); simp [World.cell?, hg2, this], by have := hlt 7 (by omega); simp [World.cell?, hg2, this], by simp [World.frozen?, hg2], by simp [World.frozen?, hg2], by simp [World.frozen?, hg2], by simp [World.frozen?, hg2], by simp [World.frozen?, hg2], by simp [World.frozen?, hg2], by simp [World.frozen?, hg2], by simp [World.frozen?, hg2], fun t h ht hn => ⟨_, ty, (pairs.block_set _ (pairs.block_set _ (pairs.block_set _ (pairs.block_set _ (pairs.block_set _ (pairs.block_set _ (pairs.block_set _ (pairs.block_set _ hg2)))))))), by simpa using hs, fun i hi => ?_⟩⟩
  by_cases e : i = k
  · subst e ht
    refine ⟨h, (node_set (node_set (node_set (node_set (node_set (node_set (node_set (node_set hn)))))))), fun j hj' => ?_⟩
    have := hlt 7 (by omega)
    rcases (show j = 0 ∨ j = 1 ∨ j = 2 ∨ j = 3 ∨ j = 4 ∨ j = 5 ∨ j = 6 ∨ j = 7 by omega) with rfl | rfl | rfl | rfl | rfl | rfl | rfl | rfl
    · rw [Array.getElem?_setIfInBounds_ne (by omega), Array.getElem?_setIfInBounds_ne (by omega), Array.getElem?_setIfInBounds_ne (by omega), Array.getElem?_setIfInBounds_ne (by omega), Array.getElem?_setIfInBounds_ne (by omega), Array.getElem?_setIfInBounds_ne (by omega), Array.getElem?_setIfInBounds_ne (by omega)]; exact Array.getElem?_setIfInBounds_self_of_lt (by omega)
    · rw [Array.getElem?_setIfInBounds_ne (by omega), Array.getElem?_setIfInBounds_ne (by omega), Array.getElem?_setIfInBounds_ne (by omega), Array.getElem?_setIfInBounds_ne (by omega), Array.getElem?_setIfInBounds_ne (by omega), Array.getElem?_setIfInBounds_ne (by omega), Array.getElem?_setIfInBounds_self_of_lt (by simp only [Array.size_setIfInBounds]; omega)]; rfl
    · rw [Array.getElem?_setIfInBounds_ne (by omega), Array.getElem?_setIfInBounds_ne (by omega), Array.getElem?_setIfInBounds_ne (by omega), Array.getElem?_setIfInBounds_ne (by omega), Array.getElem?_setIfInBounds_ne (by omega), Array.getElem?_setIfInBounds_self_of_lt (by simp only [Array.size_setIfInBounds]; omega)]; rfl
    · rw [Array.getElem?_setIfInBounds_ne (by omega), Array.getElem?_setIfInBounds_ne (by omega), Array.getElem?_setIfInBounds_ne (by omega), Array.getElem?_setIfInBounds_ne (by omega), Array.getElem?_setIfInBounds_self_of_lt (by simp only [Array.size_setIfInBounds]; omega)]; rfl
    · rw [Array.getElem?_setIfInBounds_ne (by omega), Array.getElem?_setIfInBounds_ne (by omega), Array.getElem?_setIfInBounds_ne (by omega), Array.getElem?_setIfInBounds_self_of_lt (by simp only [Array.size_setIfInBounds]; omega)]; rfl
    · rw [Array.getElem?_setIfInBounds_ne (by omega), Array.getElem?_setIfInBounds_ne (by omega), Array.getElem?_setIfInBounds_self_of_lt (by simp only [Array.size_setIfInBounds]; omega)]; rfl
    · rw [Array.getElem?_setIfInBounds_ne (by omega), Array.getElem?_setIfInBounds_self_of_lt (by simp only [Array.size_setIfInBounds]; omega)]; rfl
    · rw [Array.getElem?_setIfInBounds_self_of_lt (by simp only [Array.size_setIfInBounds]; omega)]; rfl
  · obtain ⟨h', h1, h2⟩ := hj i (by omega)
    refine ⟨h', (node_set (node_set (node_set (node_set (node_set (node_set (node_set (node_set (h1.below hb))))))))), fun j hj' => ?_⟩
    rw [← h2 j hj']
    repeat rw [Array.getElem?_setIfInBounds_ne (by omega)]
theorem info_node : (Try.prog.info? 28).map (fun i => (i.zero, i.size, i.bytes)) = some (some (.agg #[.int .i64 0, .string ⟨#[]⟩, .string ⟨#[]⟩, .string ⟨#[]⟩, .slice none 0 0, .slice none 0 0, .slice none 0 0, .string ⟨#[]⟩]), 8, 144) := by kernel_rfl
theorem madeN_new {w : World} {B g cap : Nat} {t : TypeId} {L : List Tree} {xs : List Value} (h : w.ownsRow B t 8 (.slice (some ⟨g, 0, none⟩) L.length cap) L.length xs) (hc : cap = L.length) : MadeN w g L 0 := by
  rcases h.2 with ⟨h', _⟩ | ⟨g', cap', cur, h', _, hg, _, _, hs, _⟩
  · cases h'
  · cases h'
    subst hc
    exact ⟨cur, t, hg, by omega, fun j hj => by omega⟩
theorem MadeN.nodes {w : World} {g : Nat} {L : List Tree} (h : MadeN w g L L.length) (hl : L.length ≤ maxLen) : NodesAt w g (some ⟨g, 0, none⟩) L := by
  obtain ⟨cur, t, hg, hs, hj⟩ := h.all
  refine ⟨fun _ => ⟨g, 0, rfl, pairs.lt_heap hg, fun i hi => ?_⟩, hl, fun ad e => by cases e; exact Nat.le_refl _⟩
  obtain ⟨h', h1, h2⟩ := hj i hi
  have e : ∀ j, j < 8 → w.cell? ⟨g, 0 + i * 8 + j, none⟩ = (vals (kid L i) h')[j]? := fun j hj => by
    rw [← h2 j hj, Nat.zero_add]
    simp [World.cell?, hg]
  exact ⟨h', NodeIn.mono (by omega) _ _ h1, e 0 (by omega), e 1 (by omega), e 2 (by omega), e 3 (by omega), e 4 (by omega), e 5 (by omega), e 6 (by omega), e 7 (by omega)⟩
theorem NodesAt.mono {w : World} {B B' : Nat} {a : Option Addr} {L : List Tree} (h : NodesAt w B a L) (hB : B' ≤ B) : NodesAt w B' a L :=
  ⟨fun h0 => by
    obtain ⟨b, off, ha, hlt, hc⟩ := h.row h0
    refine ⟨b, off, ha, hlt, fun i hi => ?_⟩
    obtain ⟨h', h1, h2⟩ := hc i hi
    exact ⟨h', NodeIn.mono hB _ _ h1, h2⟩, h.short, fun ad e => Nat.le_trans hB (h.ge ad e)⟩
/-- What toNode answers. -/
def ToOk (t : Tree) (h : Hdr) (w : World) : Prop :=
  Calls Try.prog 31 #[.agg (vals t h)] w fun e w' => (∃ h', e = .returned (.agg (vals t h')) ∧ NodeIn w' w.heap.size t h') ∧ Below w.heap.size w w'
set_option maxRecDepth 100000 in
set_option maxHeartbeats 4000000 in
theorem mk_nodes_of (n B : Nat) (ih : ∀ t h w, tsize t < n → nsz t ≤ 1048576 → NodeIn w B t h → ToOk t h w) (w : World) (a : Option Addr) (L : List Tree) (cap : Nat) (hn : ksize L < n) (hz : nszs L ≤ 1048576) (hL : Hid (NodesAt w B a L)) :
    Calls Try.prog 39 #[.slice a L.length cap] w fun e w' => (∃ g, e = .returned (.slice (some ⟨g, 0, none⟩) L.length L.length) ∧ w.heap.size ≤ g ∧ MadeN w' g L L.length) ∧ Below w.heap.size w w' := by
  have HZ : Hid _ := hz
  have hlz : L.length ≤ 1048576 := by have := nszs_eq L; omega
  clear hz
  have HIH : Hid (∀ t h w, tsize t < n → nsz t ≤ 1048576 → NodeIn w B t h → ToOk t h w) := ih
  clear ih
  go_enter Try.func39, Try.ntmps39
  go_wp2
  obtain ⟨i0, hi, hz0, hz1, hz2⟩ := info_parts info_node
  obtain ⟨w1, hrun, hown, hgr⟩ := run_make_full (P := Try.prog) w w.heap.size 26 28 i0 (.agg #[.int .i64 0, .string ⟨#[]⟩, .string ⟨#[]⟩, .string ⟨#[]⟩, .slice none 0 0, .slice none 0 0, .slice none 0 0, .string ⟨#[]⟩]) 8 Try.underlying26 hi hz0 hz1 .i64 .i64 L.length (by rw [hz2]; omega) (by unfold maxLen; omega) (Nat.le_refl _)
  refine pairs.upon_of_run hrun ?_
  have hm : MadeN w1 w.heap.size L 0 := madeN_new hown rfl
  have HM : Hid _ := hm
  have HB : Hid (Below w.heap.size w w1) := (Below.refl _ _).grown hgr (Nat.le_refl _) (fun k hk => by cases hk)
  clear hm hrun hown hgr
  go_wp2
  go_loopw [4] (fun t wr => ∃ (k : Nat), k ≤ L.length ∧ t = .int .i64 k ∧ Hid (MadeN wr w.heap.size L k) ∧ Hid (Below w.heap.size w wr)) (fun t _ => L.length - (intOf t).toNat)
  case atStart => exact ⟨0, Nat.zero_le _, rfl, HM, HB⟩
  case round =>
    obtain ⟨k, hk, rfl, hmr, hbw⟩ := hrel
    by_cases hlt : k < L.length
    · obtain ⟨b, off, ha, hblt, hc⟩ := (hL.out.below hbw.out).row (by omega)
      obtain ⟨h, hnode, hc0, hc1, hc2, hc3, hc4, hc5, hc6, hc7⟩ := hc k hlt
      have hks := ksize_kid L k hlt
      have hkz := nsz_kid L k hlt
      have hT := HIH.out (kid L k) h wr (by omega) (by have := HZ.out; omega) hnode
      unfold ToOk at hT
      unfold vals at hT
      have hmn := fun w2 (h : Below wr.heap.size wr w2) => hmr.out.next hlt h
      obtain ⟨x, hx⟩ : ∃ x, x = kid L k := ⟨_, rfl⟩
      have HX : Hid _ := hx
      rw [← hx] at hc0 hc1 hc2 hc3 hc4 hc5 hc6 hc7 hT
      subst ha
      have HT : Hid _ := hT
      have HMN : Hid _ := hmn
      have HGR : Hid (w.heap.size + 1 ≤ wr.heap.size) := by
        obtain ⟨cur, ty, hg, _⟩ := hmr.out.all
        exact pairs.lt_heap hg
      clear hT hc hnode hks hkz hmn hx
      go_wp2_with fail
      refine Calls.mono HT.out ?_
      rintro e w2 ⟨⟨h', rfl, hn2⟩, hb2⟩
      obtain ⟨c0, c1, c2, c3, c4, c5, c6, c7, hd0, hd1, hd2, hd3, hd4, hd5, hd6, hd7, hf0, hf1, hf2, hf3, hf4, hf5, hf6, hf7, hnext⟩ := HMN.out w2 hb2
      have HB2 : Hid _ := hbw.out.trans (hb2.mono hbw.out.size)
      have HNX : Hid _ := hnext x h' HX.out (NodeIn.mono HGR.out _ _ hn2)
      clear hb2 hnext hn2 HT HMN
      go_wp2
      go_roundw
      case rel => exact ⟨k + 1, by omega, by go_num, HNX.out, pairs.below_set (pairs.below_set (pairs.below_set (pairs.below_set (pairs.below_set (pairs.below_set (pairs.below_set (pairs.below_set HB2.out (Nat.le_refl _)) (Nat.le_refl _)) (Nat.le_refl _)) (Nat.le_refl _)) (Nat.le_refl _)) (Nat.le_refl _)) (Nat.le_refl _)) (Nat.le_refl _)⟩
      case measure => simp [intOf]; omega
    · have HF : Hid (MadeN wr w.heap.size L L.length) := by
        have h1 := hmr.out
        rw [show k = L.length by omega] at h1
        exact h1
      go_wp2
      go_ret
      exact ⟨⟨_, rfl, Nat.le_refl _, HF.out⟩, hbw.out⟩
theorem froz8 {w : World} {b : Nat} {t : TypeId} {C : Array Value} (h : w.heap[b]? = some (.cells C t (0, 0))) :
    w.frozen? ⟨b, 0, none⟩ = false ∧ w.frozen? ⟨b, 1, none⟩ = false ∧ w.frozen? ⟨b, 2, none⟩ = false ∧ w.frozen? ⟨b, 3, none⟩ = false ∧ w.frozen? ⟨b, 4, none⟩ = false ∧ w.frozen? ⟨b, 5, none⟩ = false ∧ w.frozen? ⟨b, 6, none⟩ = false ∧ w.frozen? ⟨b, 7, none⟩ = false := by
  simp [World.frozen?, h]
theorem set_ne {W : World} {b o k : Nat} {u : Value} (h : k ≠ b) : (W.setCell ⟨b, o, none⟩ u).heap[k]? = W.heap[k]? := Below.heap_setCell W ⟨b, o, none⟩ u k h
theorem set10 {W : World} {b c k : Nat} {u0 : Value} {u1 : Value} {u2 : Value} {u3 : Value} {u4 : Value} {u5 : Value} {u6 : Value} {u7 : Value} {u8 : Value} {u9 : Value} (h1 : k ≠ b) (h2 : k ≠ c) : ((((((((((W.setCell ⟨b, 6, none⟩ u0).setCell ⟨b, 7, none⟩ u1).setCell ⟨c, 0, none⟩ u2).setCell ⟨c, 1, none⟩ u3).setCell ⟨c, 2, none⟩ u4).setCell ⟨c, 3, none⟩ u5).setCell ⟨c, 4, none⟩ u6).setCell ⟨c, 5, none⟩ u7).setCell ⟨c, 6, none⟩ u8).setCell ⟨c, 7, none⟩ u9).heap[k]? = W.heap[k]? := by
  rw [set_ne h2, set_ne h2, set_ne h2, set_ne h2, set_ne h2, set_ne h2, set_ne h2, set_ne h2, set_ne h1, set_ne h1]
/-- The three boxes of toNode. -/
structure Tb (w W : World) (P O : Array Value) : Prop where
  par : W.heap[w.heap.size]? = some (.cells P 52 (0, 0))
  res : W.heap[w.heap.size + 1]? = some (.cells #[.int .i64 0, .string ⟨#[]⟩, .string ⟨#[]⟩, .string ⟨#[]⟩, .slice none 0 0, .slice none 0 0, .slice none 0 0, .string ⟨#[]⟩] 28 (0, 0))
  out : W.heap[w.heap.size + 1 + 1]? = some (.cells O 28 (0, 0))
  bel : Below w.heap.size w W
theorem Tb.size {w W : World} {P O : Array Value} (h : Tb w W P O) : w.heap.size + 3 ≤ W.heap.size := pairs.lt_heap h.out
theorem Tb.new (w : World) (P O : Array Value) : Tb w (((w.alloc (.cells P 52)).alloc (.cells #[.int .i64 0, .string ⟨#[]⟩, .string ⟨#[]⟩, .string ⟨#[]⟩, .slice none 0 0, .slice none 0 0, .slice none 0 0, .string ⟨#[]⟩] 28)).alloc (.cells O 28)) P O := by
  refine ⟨?_, ?_, ?_, (((Below.refl _ w).alloc (Nat.le_refl _) _).alloc (by simp) _).alloc (by simp; omega) _⟩
  · exact (Below.heap_alloc _ _ _ (by simp; omega)).trans ((Below.heap_alloc _ _ _ (by simp)).trans (heap_alloc_new w _))
  · have := heap_alloc_new (w.alloc (.cells P 52)) (.cells #[.int .i64 0, .string ⟨#[]⟩, .string ⟨#[]⟩, .string ⟨#[]⟩, .slice none 0 0, .slice none 0 0, .slice none 0 0, .string ⟨#[]⟩] 28)
    rw [World.size_alloc] at this
    exact (Below.heap_alloc _ _ _ (by simp)).trans this
  · have := heap_alloc_new ((w.alloc (.cells P 52)).alloc (.cells #[.int .i64 0, .string ⟨#[]⟩, .string ⟨#[]⟩, .string ⟨#[]⟩, .slice none 0 0, .slice none 0 0, .slice none 0 0, .string ⟨#[]⟩] 28)) (.cells O 28)
    rw [World.size_alloc, World.size_alloc] at this
    exact this
theorem Tb.below {w W W' : World} {P O : Array Value} (h : Tb w W P O) (hb : Below W.heap.size W W') : Tb w W' P O :=
  ⟨(hb.block _ (pairs.lt_heap h.par)).trans h.par, (hb.block _ (pairs.lt_heap h.res)).trans h.res, (hb.block _ (pairs.lt_heap h.out)).trans h.out, h.bel.trans (hb.mono h.bel.size)⟩
theorem Tb.set {w W : World} {P O : Array Value} (h : Tb w W P O) (i : Nat) (u : Value) : Tb w (W.setCell ⟨w.heap.size + 1 + 1, i, none⟩ u) P (O.setIfInBounds i u) :=
  ⟨(Below.heap_setCell _ ⟨w.heap.size + 1 + 1, i, none⟩ _ _ (by show w.heap.size ≠ w.heap.size + 1 + 1; omega)).trans h.par, (Below.heap_setCell _ ⟨w.heap.size + 1 + 1, i, none⟩ _ _ (by show w.heap.size + 1 ≠ w.heap.size + 1 + 1; omega)).trans h.res, pairs.block_set _ h.out, h.bel.setCell (p := ⟨w.heap.size + 1 + 1, i, none⟩) (by show w.heap.size ≤ w.heap.size + 1 + 1; omega) _⟩
set_option maxRecDepth 100000 in
set_option maxHeartbeats 4000000 in
theorem to_node_of (n B : Nat) (ihS : ∀ (w : World) (a : Option Addr) (L : List Tree) (cap : Nat), ksize L < n → nszs L ≤ 1048576 → NodesAt w B a L → Calls Try.prog 39 #[.slice a L.length cap] w fun e w' => (∃ g, e = .returned (.slice (some ⟨g, 0, none⟩) L.length L.length) ∧ w.heap.size ≤ g ∧ MadeN w' g L L.length) ∧ Below w.heap.size w w')
    (t : Tree) (h : Hdr) (w : World) (ht : tsize t ≤ n) (hz : nsz t ≤ 1048576) (hn : NodeIn w B t h) : ToOk t h w := by
  obtain ⟨k, p, l, u, x, ds, ats, ks⟩ := t
  obtain ⟨da, dc, aa, ac, ka, kc⟩ := h
  have HD : Hid (PairsAt w da ds) := hn.decls
  have HA : Hid (AttsAt w aa ats) := hn.atts
  have HK : Hid (NodesAt w B ka ks) := kids_at hn
  have HFT : Hid (Tree.fits (.mk k p l u x ds ats ks)) := hn.fit
  have HKS : Hid (ksize ks < n) := by rw [tsize] at ht; show _ < _; omega
  rw [nsz] at hz
  have HZD : Hid (ds.length ≤ 1048576) := by show _ ≤ _; omega
  have HZA : Hid (ats.length ≤ 1048576) := by unfold smallA at hz; show _ ≤ _; omega
  have HZK : Hid (nszs ks ≤ 1048576) := by show _ ≤ _; omega
  have HIS : Hid _ := ihS
  unfold ToOk
  simp only [vals, Tree.kind, Tree.pre, Tree.loc, Tree.uri, Tree.text, Tree.ds, Tree.ats, Tree.kids]
  clear ihS hn ht hz
  go_enter Try.func31, Try.ntmps31
  have HT0 : Hid (Tb w (((w.alloc (.cells #[.int .i64 k, .string p, .string l, .string u, .slice da ds.length dc, .slice aa ats.length ac, .slice ka ks.length kc, .string x] 52)).alloc (.cells #[.int .i64 0, .string ⟨#[]⟩, .string ⟨#[]⟩, .string ⟨#[]⟩, .slice none 0 0, .slice none 0 0, .slice none 0 0, .string ⟨#[]⟩] 28)).alloc (.cells #[.int .i64 k, .string p, .string l, .string u, .slice none 0 0, .slice none 0 0, .slice none 0 0, .string ⟨#[]⟩] 28)) #[.int .i64 k, .string p, .string l, .string u, .slice da ds.length dc, .slice aa ats.length ac, .slice ka ks.length kc, .string x] #[.int .i64 k, .string p, .string l, .string u, .slice none 0 0, .slice none 0 0, .slice none 0 0, .string ⟨#[]⟩]) := Tb.new w _ _
  go_wp2_with fail
  refine (pairs.mk_DeclS _ da ds dc (HD.out.below (Nat.le_refl _) HT0.out.bel) HZD.out).mono ?_
  rintro e w1 ⟨⟨g1, rfl, hg1, hp1, -⟩, hb1⟩
  have HT1 : Hid _ := HT0.out.below hb1
  have HG1 : Hid (w.heap.size + 3 ≤ g1) := Nat.le_trans HT0.out.size hg1
  obtain ⟨b0, b1, b2, b3, b4, b5, b6, b7⟩ := box8 HT1.out.par
  obtain ⟨o0, o1, o2, o3, o4, o5, o6, o7⟩ := box8 HT1.out.out
  obtain ⟨f0, f1, f2, f3, f4, f5, f6, f7⟩ := froz8 HT1.out.out
  have HT2 : Hid _ := HT1.out.set 4 (.slice (some ⟨g1, 0, none⟩) ds.length ds.length)
  have HP1 : Hid _ := pairs_keep (w' := w1.setCell ⟨w.heap.size + 1 + 1, 4, none⟩ (.slice (some ⟨g1, 0, none⟩) ds.length ds.length)) hp1 (by rw [set_size]; exact Nat.le_refl _) (fun b off e _ => by cases e; exact set_keeps g1 HG1.out)
  clear hg1 hp1 hb1
  go_wp2_with fail
  refine (mk_atts _ aa ats ac (HA.out.below (Nat.le_refl _) HT2.out.bel) HZA.out).mono ?_
  rintro e w2 ⟨⟨g2, rfl, hg2, hp2, -⟩, hb2⟩
  have HT3 : Hid _ := HT2.out.below hb2
  have HG2 : Hid (w.heap.size + 3 ≤ g2) := Nat.le_trans HT2.out.size hg2
  have hp1 := HP1.out.below (Nat.le_refl _) hb2
  clear HP1 b0 b1 b2 b3 b4 b5 b6 b7 o0 o1 o2 o3 o4 o5 o6 o7 f0 f1 f2 f3 f4 f5 f6 f7
  obtain ⟨b0, b1, b2, b3, b4, b5, b6, b7⟩ := box8 HT3.out.par
  obtain ⟨o0, o1, o2, o3, o4, o5, o6, o7⟩ := box8 HT3.out.out
  obtain ⟨f0, f1, f2, f3, f4, f5, f6, f7⟩ := froz8 HT3.out.out
  have HT4 : Hid _ := HT3.out.set 5 (.slice (some ⟨g2, 0, none⟩) ats.length ats.length)
  have HP1 : Hid _ := pairs_keep (w' := w2.setCell ⟨w.heap.size + 1 + 1, 5, none⟩ (.slice (some ⟨g2, 0, none⟩) ats.length ats.length)) hp1 (by rw [set_size]; exact Nat.le_refl _) (fun b off e _ => by cases e; exact set_keeps g1 HG1.out)
  have HP2 : Hid _ := hp2.keep (w' := w2.setCell ⟨w.heap.size + 1 + 1, 5, none⟩ (.slice (some ⟨g2, 0, none⟩) ats.length ats.length)) (by rw [set_size]; exact Nat.le_refl _) (fun b off e _ => by cases e; exact set_keeps g2 HG2.out)
  clear hg2 hp1 hp2 hb2
  go_wp2_with fail
  refine (HIS.out _ ka ks kc HKS.out HZK.out (HK.out.below HT4.out.bel)).mono ?_
  rintro e w3 ⟨⟨g3, rfl, hg3, hm3⟩, hb3⟩
  have HT5 : Hid _ := HT4.out.below hb3
  have HG3 : Hid (w.heap.size + 3 ≤ g3) := Nat.le_trans HT4.out.size hg3
  have HP1n : Hid _ := HP1.out.below (Nat.le_refl _) hb3
  have HP2n : Hid _ := HP2.out.below (Nat.le_refl _) hb3
  have HP3 : Hid (NodesAt w3 g3 (some ⟨g3, 0, none⟩) ks) := hm3.nodes HK.out.short
  clear HP1 HP2 b0 b1 b2 b3 b4 b5 b6 b7 o0 o1 o2 o3 o4 o5 o6 o7 f0 f1 f2 f3 f4 f5 f6 f7 hb3 hg3 hm3
  obtain ⟨b0, b1, b2, b3, b4, b5, b6, b7⟩ := box8 HT5.out.par
  obtain ⟨o0, o1, o2, o3, o4, o5, o6, o7⟩ := box8 HT5.out.out
  obtain ⟨f0, f1, f2, f3, f4, f5, f6, f7⟩ := froz8 HT5.out.out
  obtain ⟨r0, r1, r2, r3, r4, r5, r6, r7⟩ := box8 HT5.out.res
  obtain ⟨s0, s1, s2, s3, s4, s5, s6, s7⟩ := froz8 HT5.out.res
  go_wp2
  refine bodyPost_ret (by simp [results, Try.results31, go_sem, r0, r1, r2, r3, r4, r5, r6, r7]; try rfl) rfl ?_
  refine ⟨⟨⟨some ⟨g1, 0, none⟩, ds.length, some ⟨g2, 0, none⟩, ats.length, some ⟨g3, 0, none⟩, ks.length⟩, rfl, ?_⟩, pairs.below_set (pairs.below_set (pairs.below_set (pairs.below_set (pairs.below_set (pairs.below_set (pairs.below_set (pairs.below_set (pairs.below_set (pairs.below_set HT5.out.bel (by omega)) (by omega)) (by omega)) (by omega)) (by omega)) (by omega)) (by omega)) (by omega)) (by omega)) (by omega)⟩
  refine node_of ⟨HFT.out, Nat.le_refl _⟩ (pairs_keep HP1n.out (by simp only [set_size]; exact Nat.le_refl _) (fun b off e _ => by cases e; exact set10 (by have := HG1.out; omega) (by have := HG1.out; omega))) (HP2n.out.keep (by simp only [set_size]; exact Nat.le_refl _) (fun b off e _ => by cases e; exact set10 (by have := HG2.out; omega) (by have := HG2.out; omega)))
    ((HP3.out.keep (by simp only [set_size]; exact Nat.le_refl _) (fun k hk _ => set10 (by have := HG3.out; omega) (by have := HG3.out; omega))).mono (by have := HG3.out; omega)) (fun ad e => by cases e; have := HG1.out; show w.heap.size ≤ g1; omega) (fun ad e => by cases e; have := HG2.out; show w.heap.size ≤ g2; omega)
theorem to_node (B : Nat) : ∀ n, ∀ (t : Tree) (h : Hdr) (w : World), tsize t < n → nsz t ≤ 1048576 → NodeIn w B t h → ToOk t h w
  | 0, t, h, w, ht, _, _ => by omega
  | n + 1, t, h, w, ht, hz, hn =>
    to_node_of n B (fun w a L cap hk hz hL => mk_nodes_of n B (fun t h w ht hz hn => to_node B n t h w ht hz hn) w a L cap hk hz hL) t h w (by omega) hz hn
theorem mk_nodes (B : Nat) (w : World) (a : Option Addr) (L : List Tree) (cap : Nat) (hz : nszs L ≤ 1048576) (hL : NodesAt w B a L) :
    Calls Try.prog 39 #[.slice a L.length cap] w fun e w' => (∃ g, e = .returned (.slice (some ⟨g, 0, none⟩) L.length L.length) ∧ w.heap.size ≤ g ∧ MadeN w' g L L.length) ∧ Below w.heap.size w w' :=
  mk_nodes_of (ksize L + 1) B (fun t h w ht hz hn => to_node B _ t h w ht hz hn) w a L cap (by omega) hz hL
end Go.Proofs.Ytpejcblmglbjfaa.trees
