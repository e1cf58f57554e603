/-
  The laws' own comparison of two nodes.
-/
import Derived.Test.YtpejcblmglbjfaaNodeFns
namespace Go.Proofs.Ytpejcblmglbjfaa.trees
open Go.ChangeShapes Go.WideShapes Go.ChangeAt Go.RowKit
open pairs (Pair at0 PairsAt)
set_option linter.unusedVariables false
/-- Two structs' boxes, one behind the other. -/
structure Two (w W : World) (t : TypeId) (P Q : Array Value) : Prop where
  fst : W.heap[w.heap.size]? = some (.cells P t (0, 0))
  snd : W.heap[w.heap.size + 1]? = some (.cells Q t (0, 0))
  bel : Below w.heap.size w W
theorem Two.new (w : World) (t : TypeId) (P Q : Array Value) : Two w ((w.alloc (.cells P t)).alloc (.cells Q t)) t P Q := by
  refine ⟨?_, ?_, ((Below.refl _ w).alloc (Nat.le_refl _) _).alloc (by simp) _⟩
  · exact (Below.heap_alloc _ _ _ (by simp)).trans (heap_alloc_new w _)
  · have := heap_alloc_new (w.alloc (.cells P t)) (.cells Q t)
    rw [World.size_alloc] at this
    exact this
theorem Two.below {w W W' : World} {t : TypeId} {P Q : Array Value} (h : Two w W t P Q) (hb : Below W.heap.size W W') : Two w W' t P Q :=
  ⟨(hb.block _ (pairs.lt_heap h.fst)).trans h.fst, (hb.block _ (pairs.lt_heap h.snd)).trans h.snd, h.bel.trans (hb.mono h.bel.size)⟩
def EqOk (t : Tree) (h h' : Hdr) (w : World) : Prop :=
  Calls Try.prog 33 #[.agg (vals t h), .agg (vals t h')] w fun e w' => e = .returned (.bool true) ∧ Below w.heap.size w w'
set_option maxRecDepth 100000 in
set_option maxHeartbeats 4000000 in
theorem eq_nodes_of (n B B' : Nat) (ih : ∀ t h h' w, tsize t < n → NodeIn w B t h → NodeIn w B' t h' → EqOk t h h' w) (w : World) (a a' : Option Addr) (L : List Tree) (cap cap' : Nat) (hn : ksize L < n) (hL : Hid (NodesAt w B a L)) (hL' : Hid (NodesAt w B' a' L)) :
    Calls Try.prog 40 #[.slice a L.length cap, .slice a' L.length cap'] w fun e w' => e = .returned (.bool true) ∧ Below w.heap.size w w' := by
  have hlen := hL.out.short
  unfold maxLen at hlen
  have HIH : Hid (∀ t h h' w, tsize t < n → NodeIn w B t h → NodeIn w B' t h' → EqOk t h h' w) := ih
  clear ih
  go_enter Try.func40, Try.ntmps40
  go_wp2
  go_loopw [5] (fun t wr => ∃ (k : Nat), k ≤ L.length ∧ t = .int .i64 k ∧ Hid (Below w.heap.size w wr)) (fun t _ => L.length - (intOf t).toNat)
  case atStart => exact ⟨0, Nat.zero_le _, rfl, Below.refl _ _⟩
  case round =>
    obtain ⟨k, hk, rfl, hbw⟩ := hrel
    by_cases hlt : k < L.length
    · obtain ⟨b, off, ha, hblt, hc⟩ := (hL.out.below hbw.out).row (by omega)
      obtain ⟨b', off', ha', hblt', hc'⟩ := (hL'.out.below hbw.out).row (by omega)
      obtain ⟨h1, hn1, hcs⟩ := hc k hlt
      obtain ⟨h2, hn2, hcs'⟩ := hc' k hlt
      have hks := ksize_kid L k hlt
      have hE := fun W (h : Below wr.heap.size wr W) => HIH.out (kid L k) h1 h2 W (by omega) (hn1.below h) (hn2.below h)
      unfold EqOk at hE
      unfold vals at hE
      have hl : ∀ W, Below wr.heap.size wr W → W.cell? ⟨b, off + k * 8, none⟩ = some (.int .i64 (kid L k).kind) ∧ W.cell? ⟨b, off + k * 8 + 1, none⟩ = some (.string (kid L k).pre) ∧ W.cell? ⟨b, off + k * 8 + 2, none⟩ = some (.string (kid L k).loc) ∧ W.cell? ⟨b, off + k * 8 + 3, none⟩ = some (.string (kid L k).uri) ∧ W.cell? ⟨b, off + k * 8 + 4, none⟩ = some (.slice h1.da (kid L k).ds.length h1.dc) ∧ W.cell? ⟨b, off + k * 8 + 5, none⟩ = some (.slice h1.aa (kid L k).ats.length h1.ac) ∧ W.cell? ⟨b, off + k * 8 + 6, none⟩ = some (.slice h1.ka (kid L k).kids.length h1.kc) ∧ W.cell? ⟨b, off + k * 8 + 7, none⟩ = some (.string (kid L k).text) := fun W h => by
        rw [h.cell (p := ⟨b, off + k * 8, none⟩) hblt, h.cell (p := ⟨b, off + k * 8 + 1, none⟩) hblt, h.cell (p := ⟨b, off + k * 8 + 2, none⟩) hblt, h.cell (p := ⟨b, off + k * 8 + 3, none⟩) hblt, h.cell (p := ⟨b, off + k * 8 + 4, none⟩) hblt, h.cell (p := ⟨b, off + k * 8 + 5, none⟩) hblt, h.cell (p := ⟨b, off + k * 8 + 6, none⟩) hblt, h.cell (p := ⟨b, off + k * 8 + 7, none⟩) hblt]
        exact hcs
      have hl' : ∀ W, Below wr.heap.size wr W → W.cell? ⟨b', off' + k * 8, none⟩ = some (.int .i64 (kid L k).kind) ∧ W.cell? ⟨b', off' + k * 8 + 1, none⟩ = some (.string (kid L k).pre) ∧ W.cell? ⟨b', off' + k * 8 + 2, none⟩ = some (.string (kid L k).loc) ∧ W.cell? ⟨b', off' + k * 8 + 3, none⟩ = some (.string (kid L k).uri) ∧ W.cell? ⟨b', off' + k * 8 + 4, none⟩ = some (.slice h2.da (kid L k).ds.length h2.dc) ∧ W.cell? ⟨b', off' + k * 8 + 5, none⟩ = some (.slice h2.aa (kid L k).ats.length h2.ac) ∧ W.cell? ⟨b', off' + k * 8 + 6, none⟩ = some (.slice h2.ka (kid L k).kids.length h2.kc) ∧ W.cell? ⟨b', off' + k * 8 + 7, none⟩ = some (.string (kid L k).text) := fun W h => by
        rw [h.cell (p := ⟨b', off' + k * 8, none⟩) hblt', h.cell (p := ⟨b', off' + k * 8 + 1, none⟩) hblt', h.cell (p := ⟨b', off' + k * 8 + 2, none⟩) hblt', h.cell (p := ⟨b', off' + k * 8 + 3, none⟩) hblt', h.cell (p := ⟨b', off' + k * 8 + 4, none⟩) hblt', h.cell (p := ⟨b', off' + k * 8 + 5, none⟩) hblt', h.cell (p := ⟨b', off' + k * 8 + 6, none⟩) hblt', h.cell (p := ⟨b', off' + k * 8 + 7, none⟩) hblt']
        exact hcs'
      subst ha ha'
      clear hc hc' hcs hcs' hn1 hn2 hks
      generalize kid L k = x at hl hl' hE
      go_wp2_with fail
      refine quiets.wp_region_below (by kernel_rfl) (by kernel_rfl) ?_
      repeat (go_big_quiet_step ((first | (intro hq; rfl) | (intro hq; simp [go_sem, (hl _ hq).1, (hl _ hq).2.1, (hl _ hq).2.2.1, (hl _ hq).2.2.2.1, (hl _ hq).2.2.2.2.1, (hl _ hq).2.2.2.2.2.1, (hl _ hq).2.2.2.2.2.2.1, (hl _ hq).2.2.2.2.2.2.2]; rfl) | (intro hq; simp [go_sem, (hl' _ hq).1, (hl' _ hq).2.1, (hl' _ hq).2.2.1, (hl' _ hq).2.2.2.1, (hl' _ hq).2.2.2.2.1, (hl' _ hq).2.2.2.2.2.1, (hl' _ hq).2.2.2.2.2.2.1, (hl' _ hq).2.2.2.2.2.2.2]; rfl) | (intro hq; exact quiets.below_call (hE _ hq) hq))))
      refine wpQuiet_nil ?_
      intro w6 hb6
      have HB6 : Hid _ := hbw.out.trans (hb6.mono hbw.out.size)
      clear hb6 hl hl' hE
      go_wp2
      go_roundw
      case rel => exact ⟨k + 1, by omega, by go_num, HB6.out⟩
      case measure => simp [intOf]; omega
    · go_wp2
      go_ret
      exact ⟨rfl, hbw.out⟩
set_option maxRecDepth 100000 in
set_option maxHeartbeats 4000000 in
theorem eq_node_of (n B B' : Nat) (ihS : ∀ (w : World) (a a' : Option Addr) (L : List Tree) (cap cap' : Nat), ksize L < n → NodesAt w B a L → NodesAt w B' a' L → Calls Try.prog 40 #[.slice a L.length cap, .slice a' L.length cap'] w fun e w' => e = .returned (.bool true) ∧ Below w.heap.size w w')
    (t : Tree) (h h' : Hdr) (w : World) (ht : tsize t ≤ n) (hn : NodeIn w B t h) (hn' : NodeIn w B' t h') : EqOk t h h' w := by
  obtain ⟨k, p, l, u, x, ds, ats, ks⟩ := t
  obtain ⟨da, dc, aa, ac, ka, kc⟩ := h
  obtain ⟨da', dc', aa', ac', ka', kc'⟩ := h'
  have HD : Hid (PairsAt w da ds) := hn.decls
  have HA : Hid (AttsAt w aa ats) := hn.atts
  have HK : Hid (NodesAt w B ka ks) := kids_at hn
  have HD' : Hid (PairsAt w da' ds) := hn'.decls
  have HA' : Hid (AttsAt w aa' ats) := hn'.atts
  have HK' : Hid (NodesAt w B' ka' ks) := kids_at hn'
  have HKS : Hid (ksize ks < n) := by rw [tsize] at ht; show _ < _; omega
  have HIS : Hid _ := ihS
  unfold EqOk
  simp only [vals, Tree.kind, Tree.pre, Tree.loc, Tree.uri, Tree.text, Tree.ds, Tree.ats, Tree.kids]
  clear ihS hn hn' ht
  go_enter Try.func33, Try.ntmps33
  have HT0 : Hid (Two w ((w.alloc (.cells #[.int .i64 k, .string p, .string l, .string u, .slice da ds.length dc, .slice aa ats.length ac, .slice ka ks.length kc, .string x] 28)).alloc (.cells #[.int .i64 k, .string p, .string l, .string u, .slice da' ds.length dc', .slice aa' ats.length ac', .slice ka' ks.length kc', .string x] 28)) 28 #[.int .i64 k, .string p, .string l, .string u, .slice da ds.length dc, .slice aa ats.length ac, .slice ka ks.length kc, .string x] #[.int .i64 k, .string p, .string l, .string u, .slice da' ds.length dc', .slice aa' ats.length ac', .slice ka' ks.length kc', .string x]) := Two.new w _ _ _
  go_wp2_with fail
  refine (pairs.eq_DeclS _ _ _ ds _ _ (HD.out.below (Nat.le_refl _) HT0.out.bel) (HD'.out.below (Nat.le_refl _) HT0.out.bel)).mono ?_
  rintro e w1 ⟨rfl, hb1⟩
  have HT1 : Hid _ := HT0.out.below hb1
  obtain ⟨b0, b1, b2, b3, b4, b5, b6, b7⟩ := box8 HT1.out.fst
  obtain ⟨c0, c1, c2, c3, c4, c5, c6, c7⟩ := box8 HT1.out.snd
  clear hb1
  go_wp2_with fail
  refine (eq_atts _ _ _ ats _ _ (HA.out.below (Nat.le_refl _) HT1.out.bel) (HA'.out.below (Nat.le_refl _) HT1.out.bel)).mono ?_
  rintro e w2 ⟨rfl, hb2⟩
  have HT2 : Hid _ := HT1.out.below hb2
  clear b0 b1 b2 b3 b4 b5 b6 b7 c0 c1 c2 c3 c4 c5 c6 c7
  obtain ⟨b0, b1, b2, b3, b4, b5, b6, b7⟩ := box8 HT2.out.fst
  obtain ⟨c0, c1, c2, c3, c4, c5, c6, c7⟩ := box8 HT2.out.snd
  clear hb2
  go_wp2_with fail
  refine (HIS.out _ _ _ ks _ _ HKS.out (HK.out.below HT2.out.bel) (HK'.out.below HT2.out.bel)).mono ?_
  rintro e w3 ⟨rfl, hb3⟩
  have HT3 : Hid _ := HT2.out.below hb3
  clear b0 b1 b2 b3 b4 b5 b6 b7 c0 c1 c2 c3 c4 c5 c6 c7
  obtain ⟨b0, b1, b2, b3, b4, b5, b6, b7⟩ := box8 HT3.out.fst
  obtain ⟨c0, c1, c2, c3, c4, c5, c6, c7⟩ := box8 HT3.out.snd
  clear hb3
  go_wp2
  go_ret
  exact ⟨rfl, HT3.out.bel⟩
theorem eq_node (B B' : Nat) : ∀ n, ∀ (t : Tree) (h h' : Hdr) (w : World), tsize t < n → NodeIn w B t h → NodeIn w B' t h' → EqOk t h h' w
  | 0, t, h, h', w, ht, _, _ => by omega
  | n + 1, t, h, h', w, ht, hn, hn' =>
    eq_node_of n B B' (fun w a a' L cap cap' hk hL hL' => eq_nodes_of n B B' (fun t h h' w ht hn hn' => eq_node B B' n t h h' w ht hn hn') w a a' L cap cap' hk hL hL') t h h' w (by omega) hn hn'
theorem eq_nodes (B B' : Nat) (w : World) (a a' : Option Addr) (L : List Tree) (cap cap' : Nat) (hL : NodesAt w B a L) (hL' : NodesAt w B' a' L) :
    Calls Try.prog 40 #[.slice a L.length cap, .slice a' L.length cap'] w fun e w' => e = .returned (.bool true) ∧ Below w.heap.size w w' :=
  eq_nodes_of (ksize L + 1) B B' (fun t h h' w ht hn hn' => eq_node B B' _ t h h' w ht hn hn') w a a' L cap cap' (by omega) hL hL'
end Go.Proofs.Ytpejcblmglbjfaa.trees
