/-
  At every argument the law FnExactWriteAll returns true: WriteAll answers as its specification at every argument, and writes nothing into it. No condition but the tables that the program lays.
  The frame is after the kit's guide (MapyProofs, UptoLaidToy); the walk is ours.
  (Texts of ours laid as one: NodeTabs, NodeEq, OpenRows, NodeOpen, CardWriteAll.)
-/
import Derived.Test.YtmiiilamjbhheaaGreatDoorImplNodeOk
import Derived.Test.YtmiiilamjbhheaaGreatDoorNodeFns
import Derived.Test.YtmiiilamjbhheaaGreatDoorRows
import Derived.Lib.SmallJoins
import Derived.Deep.SlicePairs
import Derived.OpenShut
import Derived.Test.YtmiiilamjbhheaaGreatDoorTreeP
import Derived.Test.YtmiiilamjbhheaaGreatDoorPairDecl
import Derived.Test.YtmiiilamjbhheaaGreatDoorCards
import Derived.Test.YtmiiilamjbhheaaGreatDoorTie
import Derived.Test.YtmiiilamjbhheaaGreatDoorWriteAPart
import Derived.Test.YtmiiilamjbhheaaGreatDoorNodeTo
import Derived.Lay
import Derived.WalkKit
import Derived.ProofKit
import Derived.ShutString
import Derived.ChangeOld
import Derived.Below
import Derived.LaidMore
import Derived.OpenVars
import Derived.Stop.Joined
namespace Go.Proofs.YtmiiilamjbhheaaGreatDoor.trees
open Go.ChangeShapes Go.WideShapes Go.ChangeAt Go.RowKit
set_option linter.unusedVariables false
theorem spans_read {w : World} {name : String} {g : Nat} {D : DataW Unit} {L : List (Int × Int)} (hg : Tryz.prog.globalNamed name = some g) (ht : (Tryz.prog.globals[g]?).map (·.type) = some 142) (eD : D = spans.spanData L) (hL : L ≠ []) (hlen : L.length ≤ maxLen) (h : Lib.VarReads Tryz.prog w name D) : ∃ b off cap, spans.SpansAt w g L b off cap := by
  subst eD
  obtain ⟨g', t, cs, fuel, p, hg', ht', hv, hd⟩ := h
  obtain rfl := Option.some.inj (hg.symm.trans hg')
  obtain rfl := Option.some.inj (ht.symm.trans ht')
  exact spans.spans_of hg hv hL hlen hd
theorem ntabs_of {w : World} {D1 D2 D3 D4 D5 D6 : DataW Unit} (e1 : D1 = Lib.acceptData) (e2 : D2 = Lib.firstData) (e3 : D3 = spans.spanData spans.signL) (e4 : D4 = spans.spanData spans.startL) (e5 : D5 = spans.spanData spans.partL) (e6 : D6 = Lib.tabData .u16 foldTab) (hsh : w.ShapedOpen Tryz.prog)
    (h1 : Lib.VarReads Tryz.prog w "unicode/utf8.acceptRanges" D1) (h2 : Lib.VarReads Tryz.prog w "unicode/utf8.first" D2) (h3 : Lib.VarReads Tryz.prog w "loop.example/g00484/impl.signSpans" D3) (h4 : Lib.VarReads Tryz.prog w "loop.example/g00484/impl.startSpans" D4) (h5 : Lib.VarReads Tryz.prog w "loop.example/g00484/impl.partSpans" D5) (h6 : Lib.VarReads Tryz.prog w "unicode.asciiFold" D6) : NTabs w :=
  ⟨⟨scans.tabs_of e1 e2 h2 h1, scans.signs_of e3 h3, ⟨spans_read (g := 0) (by kernel_rfl) (by kernel_rfl) e4 (by decide) (by decide) h4, spans_read (g := 1) (by kernel_rfl) (by kernel_rfl) e5 (by decide) (by decide) h5⟩⟩, frames.maxAt_of hsh, fold_of e6 h6⟩
end Go.Proofs.YtmiiilamjbhheaaGreatDoor.trees
namespace Go.Proofs.YtmiiilamjbhheaaGreatDoor.trees
open Go.ChangeShapes Go.WideShapes Go.ChangeAt Go.RowKit
open pairs (Pair at0 PairsAt)
set_option linter.unusedVariables false
/-- Two structs' boxes, one behind the other. -/
structure Two (w W : World) (t : TypeId) (P Q : Array Value) : Prop where
  fst : W.heap[w.heap.size]? = some (.cells P t (0, 0))
  snd : W.heap[w.heap.size + 1]? = some (.cells Q t (0, 0))
  bel : Below w.heap.size w W
theorem Two.new (w : World) (t : TypeId) (P Q : Array Value) : Two w ((w.alloc (.cells P t)).alloc (.cells Q t)) t P Q := by
  refine ⟨?_, ?_, ((Below.refl _ w).alloc (Nat.le_refl _) _).alloc (by simp) _⟩
  · exact (Below.heap_alloc _ _ _ (by simp)).trans (heap_alloc_new w _)
  · have := heap_alloc_new (w.alloc (.cells P t)) (.cells Q t)
    rw [World.size_alloc] at this
    exact this
theorem Two.below {w W W' : World} {t : TypeId} {P Q : Array Value} (h : Two w W t P Q) (hb : Below W.heap.size W W') : Two w W' t P Q :=
  ⟨(hb.block _ (pairs.lt_heap h.fst)).trans h.fst, (hb.block _ (pairs.lt_heap h.snd)).trans h.snd, h.bel.trans (hb.mono h.bel.size)⟩
def EqOk (t : Tree) (h h' : Hdr) (w : World) : Prop :=
  Calls Tryz.prog 15 #[.agg (vals t h), .agg (vals t h')] w fun e w' => e = .returned (.bool true) ∧ Below w.heap.size w w'
set_option maxRecDepth 100000 in
set_option maxHeartbeats 4000000 in
theorem eq_nodes_of (n B B' : Nat) (ih : ∀ t h h' w, tsize t < n → NodeIn w B t h → NodeIn w B' t h' → EqOk t h h' w) (w : World) (a a' : Option Addr) (L : List Tree) (cap cap' : Nat) (hn : ksize L < n) (hL : Hid (NodesAt w B a L)) (hL' : Hid (NodesAt w B' a' L)) :
    Calls Tryz.prog 10 #[.slice a L.length cap, .slice a' L.length cap'] w fun e w' => e = .returned (.bool true) ∧ Below w.heap.size w w' := by
  have hlen := hL.out.short
  unfold maxLen at hlen
  have HIH : Hid (∀ t h h' w, tsize t < n → NodeIn w B t h → NodeIn w B' t h' → EqOk t h h' w) := ih
  clear ih
  go_enter Tryz.func10, Tryz.ntmps10
  go_wp2
  go_loopw [5] (fun t wr => ∃ (k : Nat), k ≤ L.length ∧ t = .int .i64 k ∧ Hid (Below w.heap.size w wr)) (fun t _ => L.length - (intOf t).toNat)
  case atStart => exact ⟨0, Nat.zero_le _, rfl, Below.refl _ _⟩
  case round =>
    obtain ⟨k, hk, rfl, hbw⟩ := hrel
    by_cases hlt : k < L.length
    · obtain ⟨b, off, ha, hblt, hc⟩ := (hL.out.below hbw.out).row (by omega)
      obtain ⟨b', off', ha', hblt', hc'⟩ := (hL'.out.below hbw.out).row (by omega)
      obtain ⟨h1, hn1, hcs⟩ := hc k hlt
      obtain ⟨h2, hn2, hcs'⟩ := hc' k hlt
      have hks := ksize_kid L k hlt
      have hE := fun W (h : Below wr.heap.size wr W) => HIH.out (kid L k) h1 h2 W (by omega) (hn1.below h) (hn2.below h)
      unfold EqOk at hE
      unfold vals at hE
      have hl : ∀ W, Below wr.heap.size wr W → W.cell? ⟨b, off + k * 8, none⟩ = some (.int .i64 (kid L k).kind) ∧ W.cell? ⟨b, off + k * 8 + 1, none⟩ = some (.string (kid L k).pre) ∧ W.cell? ⟨b, off + k * 8 + 2, none⟩ = some (.string (kid L k).loc) ∧ W.cell? ⟨b, off + k * 8 + 3, none⟩ = some (.string (kid L k).uri) ∧ W.cell? ⟨b, off + k * 8 + 4, none⟩ = some (.slice h1.da (kid L k).ds.length h1.dc) ∧ W.cell? ⟨b, off + k * 8 + 5, none⟩ = some (.slice h1.aa (kid L k).ats.length h1.ac) ∧ W.cell? ⟨b, off + k * 8 + 6, none⟩ = some (.slice h1.ka (kid L k).kids.length h1.kc) ∧ W.cell? ⟨b, off + k * 8 + 7, none⟩ = some (.string (kid L k).text) := fun W h => by
        rw [h.cell (p := ⟨b, off + k * 8, none⟩) hblt, h.cell (p := ⟨b, off + k * 8 + 1, none⟩) hblt, h.cell (p := ⟨b, off + k * 8 + 2, none⟩) hblt, h.cell (p := ⟨b, off + k * 8 + 3, none⟩) hblt, h.cell (p := ⟨b, off + k * 8 + 4, none⟩) hblt, h.cell (p := ⟨b, off + k * 8 + 5, none⟩) hblt, h.cell (p := ⟨b, off + k * 8 + 6, none⟩) hblt, h.cell (p := ⟨b, off + k * 8 + 7, none⟩) hblt]
        exact hcs
      have hl' : ∀ W, Below wr.heap.size wr W → W.cell? ⟨b', off' + k * 8, none⟩ = some (.int .i64 (kid L k).kind) ∧ W.cell? ⟨b', off' + k * 8 + 1, none⟩ = some (.string (kid L k).pre) ∧ W.cell? ⟨b', off' + k * 8 + 2, none⟩ = some (.string (kid L k).loc) ∧ W.cell? ⟨b', off' + k * 8 + 3, none⟩ = some (.string (kid L k).uri) ∧ W.cell? ⟨b', off' + k * 8 + 4, none⟩ = some (.slice h2.da (kid L k).ds.length h2.dc) ∧ W.cell? ⟨b', off' + k * 8 + 5, none⟩ = some (.slice h2.aa (kid L k).ats.length h2.ac) ∧ W.cell? ⟨b', off' + k * 8 + 6, none⟩ = some (.slice h2.ka (kid L k).kids.length h2.kc) ∧ W.cell? ⟨b', off' + k * 8 + 7, none⟩ = some (.string (kid L k).text) := fun W h => by
        rw [h.cell (p := ⟨b', off' + k * 8, none⟩) hblt', h.cell (p := ⟨b', off' + k * 8 + 1, none⟩) hblt', h.cell (p := ⟨b', off' + k * 8 + 2, none⟩) hblt', h.cell (p := ⟨b', off' + k * 8 + 3, none⟩) hblt', h.cell (p := ⟨b', off' + k * 8 + 4, none⟩) hblt', h.cell (p := ⟨b', off' + k * 8 + 5, none⟩) hblt', h.cell (p := ⟨b', off' + k * 8 + 6, none⟩) hblt', h.cell (p := ⟨b', off' + k * 8 + 7, none⟩) hblt']
        exact hcs'
      subst ha ha'
      clear hc hc' hcs hcs' hn1 hn2 hks
      generalize kid L k = x at hl hl' hE
      go_wp2_with fail
      refine quiets.wp_region_below (by kernel_rfl) (by kernel_rfl) ?_
      repeat (go_big_quiet_step ((first | (intro hq; rfl) | (intro hq; simp [go_sem, (hl _ hq).1, (hl _ hq).2.1, (hl _ hq).2.2.1, (hl _ hq).2.2.2.1, (hl _ hq).2.2.2.2.1, (hl _ hq).2.2.2.2.2.1, (hl _ hq).2.2.2.2.2.2.1, (hl _ hq).2.2.2.2.2.2.2]; rfl) | (intro hq; simp [go_sem, (hl' _ hq).1, (hl' _ hq).2.1, (hl' _ hq).2.2.1, (hl' _ hq).2.2.2.1, (hl' _ hq).2.2.2.2.1, (hl' _ hq).2.2.2.2.2.1, (hl' _ hq).2.2.2.2.2.2.1, (hl' _ hq).2.2.2.2.2.2.2]; rfl) | (intro hq; exact quiets.below_call (hE _ hq) hq))))
      refine wpQuiet_nil ?_
      intro w6 hb6
      have HB6 : Hid _ := hbw.out.trans (hb6.mono hbw.out.size)
      clear hb6 hl hl' hE
      go_wp2
      go_roundw
      case rel => exact ⟨k + 1, by omega, by go_num, HB6.out⟩
      case measure => simp [intOf]; omega
    · go_wp2
      go_ret
      exact ⟨rfl, hbw.out⟩
set_option maxRecDepth 100000 in
set_option maxHeartbeats 4000000 in
theorem eq_node_of (n B B' : Nat) (ihS : ∀ (w : World) (a a' : Option Addr) (L : List Tree) (cap cap' : Nat), ksize L < n → NodesAt w B a L → NodesAt w B' a' L → Calls Tryz.prog 10 #[.slice a L.length cap, .slice a' L.length cap'] w fun e w' => e = .returned (.bool true) ∧ Below w.heap.size w w')
    (t : Tree) (h h' : Hdr) (w : World) (ht : tsize t ≤ n) (hn : NodeIn w B t h) (hn' : NodeIn w B' t h') : EqOk t h h' w := by
  obtain ⟨k, p, l, u, x, ds, ats, ks⟩ := t
  obtain ⟨da, dc, aa, ac, ka, kc⟩ := h
  obtain ⟨da', dc', aa', ac', ka', kc'⟩ := h'
  have HD : Hid (PairsAt w da ds) := hn.decls
  have HA : Hid (AttsAt w aa ats) := hn.atts
  have HK : Hid (NodesAt w B ka ks) := kids_at hn
  have HD' : Hid (PairsAt w da' ds) := hn'.decls
  have HA' : Hid (AttsAt w aa' ats) := hn'.atts
  have HK' : Hid (NodesAt w B' ka' ks) := kids_at hn'
  have HKS : Hid (ksize ks < n) := by rw [tsize] at ht; show _ < _; omega
  have HIS : Hid _ := ihS
  unfold EqOk
  simp only [vals, Tree.kind, Tree.pre, Tree.loc, Tree.uri, Tree.text, Tree.ds, Tree.ats, Tree.kids]
  clear ihS hn hn' ht
  go_enter Tryz.func15, Tryz.ntmps15
  have HT0 : Hid (Two w ((w.alloc (.cells #[.int .i64 k, .string p, .string l, .string u, .slice da ds.length dc, .slice aa ats.length ac, .slice ka ks.length kc, .string x] 38)).alloc (.cells #[.int .i64 k, .string p, .string l, .string u, .slice da' ds.length dc', .slice aa' ats.length ac', .slice ka' ks.length kc', .string x] 38)) 38 #[.int .i64 k, .string p, .string l, .string u, .slice da ds.length dc, .slice aa ats.length ac, .slice ka ks.length kc, .string x] #[.int .i64 k, .string p, .string l, .string u, .slice da' ds.length dc', .slice aa' ats.length ac', .slice ka' ks.length kc', .string x]) := Two.new w _ _ _
  go_wp2_with fail
  refine (pairs.eq_DeclS _ _ _ ds _ _ (HD.out.below (Nat.le_refl _) HT0.out.bel) (HD'.out.below (Nat.le_refl _) HT0.out.bel)).mono ?_
  rintro e w1 ⟨rfl, hb1⟩
  have HT1 : Hid _ := HT0.out.below hb1
  obtain ⟨b0, b1, b2, b3, b4, b5, b6, b7⟩ := box8 HT1.out.fst
  obtain ⟨c0, c1, c2, c3, c4, c5, c6, c7⟩ := box8 HT1.out.snd
  clear hb1
  go_wp2_with fail
  refine (eq_atts _ _ _ ats _ _ (HA.out.below (Nat.le_refl _) HT1.out.bel) (HA'.out.below (Nat.le_refl _) HT1.out.bel)).mono ?_
  rintro e w2 ⟨rfl, hb2⟩
  have HT2 : Hid _ := HT1.out.below hb2
  clear b0 b1 b2 b3 b4 b5 b6 b7 c0 c1 c2 c3 c4 c5 c6 c7
  obtain ⟨b0, b1, b2, b3, b4, b5, b6, b7⟩ := box8 HT2.out.fst
  obtain ⟨c0, c1, c2, c3, c4, c5, c6, c7⟩ := box8 HT2.out.snd
  clear hb2
  go_wp2_with fail
  refine (HIS.out _ _ _ ks _ _ HKS.out (HK.out.below HT2.out.bel) (HK'.out.below HT2.out.bel)).mono ?_
  rintro e w3 ⟨rfl, hb3⟩
  have HT3 : Hid _ := HT2.out.below hb3
  clear b0 b1 b2 b3 b4 b5 b6 b7 c0 c1 c2 c3 c4 c5 c6 c7
  obtain ⟨b0, b1, b2, b3, b4, b5, b6, b7⟩ := box8 HT3.out.fst
  obtain ⟨c0, c1, c2, c3, c4, c5, c6, c7⟩ := box8 HT3.out.snd
  clear hb3
  go_wp2
  go_ret
  exact ⟨rfl, HT3.out.bel⟩
theorem eq_node (B B' : Nat) : ∀ n, ∀ (t : Tree) (h h' : Hdr) (w : World), tsize t < n → NodeIn w B t h → NodeIn w B' t h' → EqOk t h h' w
  | 0, t, h, h', w, ht, _, _ => by omega
  | n + 1, t, h, h', w, ht, hn, hn' =>
    eq_node_of n B B' (fun w a a' L cap cap' hk hL hL' => eq_nodes_of n B B' (fun t h h' w ht hn hn' => eq_node B B' n t h h' w ht hn hn') w a a' L cap cap' hk hL hL') t h h' w (by omega) hn hn'
theorem eq_nodes (B B' : Nat) (w : World) (a a' : Option Addr) (L : List Tree) (cap cap' : Nat) (hL : NodesAt w B a L) (hL' : NodesAt w B' a' L) :
    Calls Tryz.prog 10 #[.slice a L.length cap, .slice a' L.length cap'] w fun e w' => e = .returned (.bool true) ∧ Below w.heap.size w w' :=
  eq_nodes_of (ksize L + 1) B B' (fun t h h' w ht hn hn' => eq_node B B' _ t h h' w ht hn hn') w a a' L cap cap' (by omega) hL hL'
end Go.Proofs.YtmiiilamjbhheaaGreatDoor.trees
namespace Go.Proofs.YtmiiilamjbhheaaGreatDoor.trees
open Go.ChangeShapes Go.WideShapes Go.ChangeAt Go.RowKit
set_option linter.unusedVariables false
section
variable {H : Type} {enc : TypeId × Value → H} {W : World} {base : Nat} {spare : Nat → Bool} {held : Bool}
/-- A slice of structs of s cells, opened. -/
theorem open_rows {P : Program} {t e : TypeId} {s fuel : Nat} {cs : List Value} {x : DataW H × List MemPlace} (hs : 0 < s) (ht : P.underlying t = some (.slice e)) (ce : P.cellsOf e = s) (h : DataW.trod enc P W base spare held fuel t cs = some x) :
    ∃ (a : Option Addr) (len cap : Nat), cs = [.slice a len cap] ∧ len ≤ maxLen ∧ (0 < len → ∃ b off, a = some ⟨b, off, none⟩ ∧ b < W.heap.size ∧ ∀ i, i < len → ∃ cs' n y, cs'.length = s ∧ (∀ j, j < s → W.cell? ⟨b, off + i * s + j, none⟩ = cs'[j]?) ∧ n < fuel ∧ DataW.trod enc P W base spare held n e cs' = some y) := by
  rcases DataW.trod_slice ht h with ⟨rfl, _⟩ | ⟨a, len, cap, elems, rest, n, hfu, rfl, _, _, hl, hm, hlen, hel, _, _⟩
  · exact ⟨none, 0, 0, rfl, Nat.zero_le _, fun h => by omega⟩
  · have each : ∀ i, i < len → ∃ cs' y, cs'.length = s ∧ (∀ j, j < s → W.cell? ((a.add (i * s)).add j) = cs'[j]?) ∧ DataW.trod enc P W base spare held n e cs' = some y := fun i hi => by
      have := hel i hi
      rw [List.getElem?_eq_getElem (by omega), ce] at this
      obtain ⟨cs', h1, h2⟩ := Option.bind_eq_some_iff.1 this
      obtain ⟨_, g1, g2⟩ := World.cells?_some h1
      exact ⟨cs', _, g1, g2, h2⟩
    refine ⟨some a, len, cap, rfl, Nat.le_trans hl hm, fun h0 => ?_⟩
    obtain ⟨b, off, spot⟩ := a
    obtain ⟨c0, y0, g1, g2, _⟩ := each 0 h0
    have hc := g2 0 hs
    rw [List.getElem?_eq_getElem (by omega)] at hc
    have hspot : spot = none := by simpa [Addr.add] using World.cell?_spot hc
    subst hspot
    refine ⟨b, off, rfl, ?_, fun i hi => ?_⟩
    · have := World.block_lt_of_cell? W _ hc
      rwa [Addr.add_lit, Addr.add_lit] at this
    · obtain ⟨cs', y, e1, e2, e3⟩ := each i hi
      refine ⟨cs', n, y, e1, fun j hj => ?_, by omega, e3⟩
      have := e2 j hj
      rwa [Addr.add_lit, Addr.add_lit] at this
end
end Go.Proofs.YtmiiilamjbhheaaGreatDoor.trees
namespace Go.Proofs.YtmiiilamjbhheaaGreatDoor.trees
open Go.ChangeShapes Go.WideShapes Go.ChangeAt Go.RowKit
open pairs (Pair at0 PairsAt)
set_option linter.unusedVariables false
instance : Inhabited Att := ⟨noAtt⟩
instance : Inhabited Tree := ⟨noTree⟩
instance : Inhabited Hdr := ⟨⟨none, 0, none, 0, none, 0⟩⟩
section
variable {H : Type} {enc : TypeId × Value → H} {W : World} {base : Nat} {spare : Nat → Bool} {held : Bool}
set_option maxRecDepth 100000 in
theorem under_att : ∃ f0 f1 f2 f3 : Field, Tryz.prog.underlying 77 = some (.struct #[f0, f1, f2, f3]) ∧ (f0.offset = 0 ∧ f1.offset = 1 ∧ f2.offset = 2 ∧ f3.offset = 3) ∧ f0.type = 9 ∧ f1.type = 9 ∧ f2.type = 9 ∧ f3.type = 9 := by
  refine ⟨_, _, _, _, Tryz.underlying77, ⟨rfl, rfl, rfl, rfl⟩, rfl, rfl, rfl, rfl⟩
theorem cells_att : Tryz.prog.cellsOf 77 = 4 := by kernel_rfl
set_option maxRecDepth 100000 in
theorem open_att {fuel : Nat} {cs : List Value} {y : DataW H × List MemPlace} (h : DataW.trod enc Tryz.prog W base spare held fuel 77 cs = some y) : ∃ x : Att, cs = [.string x.pre, .string x.loc, .string x.uri, .string x.val] ∧ x.fits := by
  obtain ⟨f0, f1, f2, f3, hu, ⟨o0, o1, o2, o3⟩, t0, t1, t2, t3⟩ := under_att
  have c9 : Tryz.prog.cellsOf 9 = 1 := by kernel_rfl
  obtain ⟨y0, y1, y2, y3, n, _, hl, h0, h1, h2, h3⟩ := Joins.trod_struct4 hu h
  rw [cells_att] at hl
  match cs, hl with
  | [v0, v1, v2, v3], _ =>
    rw [t0, o0, c9] at h0
    rw [t1, o1, c9] at h1
    rw [t2, o2, c9] at h2
    rw [t3, o3, c9] at h3
    obtain ⟨s0, e0, _, z0⟩ := DataW.trod_string Tryz.underlying9 h0
    obtain ⟨s1, e1, _, z1⟩ := DataW.trod_string Tryz.underlying9 h1
    obtain ⟨s2, e2, _, z2⟩ := DataW.trod_string Tryz.underlying9 h2
    obtain ⟨s3, e3, _, z3⟩ := DataW.trod_string Tryz.underlying9 h3
    simp at e0 e1 e2 e3
    exact ⟨⟨s0, s1, s2, s3⟩, by rw [e0, e1, e2, e3], z0, z1, z2, z3⟩
theorem range_get {α : Type} (f : Nat → α) (n i : Nat) (d : α) (h : i < n) : ((List.range n).map f).getD i d = f i := by simp [List.getD, h]
theorem open_atts {fuel : Nat} {cs : List Value} {y : DataW H × List MemPlace} (h : DataW.trod enc Tryz.prog W base spare held fuel 30 cs = some y) : ∃ (a : Option Addr) (cap : Nat) (L : List Att), cs = [.slice a L.length cap] ∧ AttsAt W a L := by
  obtain ⟨a, len, cap, rfl, hm, hrow⟩ := open_rows (by decide) Tryz.underlying30 cells_att h
  by_cases h0 : 0 < len
  · obtain ⟨b, off, ha, hlt, hel⟩ := hrow h0
    have each : ∀ i, i < len → ∃ x : Att, x.fits ∧ W.cell? ⟨b, off + i * 4, none⟩ = some (.string x.pre) ∧ W.cell? ⟨b, off + i * 4 + 1, none⟩ = some (.string x.loc) ∧ W.cell? ⟨b, off + i * 4 + 2, none⟩ = some (.string x.uri) ∧ W.cell? ⟨b, off + i * 4 + 3, none⟩ = some (.string x.val) := fun i hi => by
      obtain ⟨cs', n, y, _, hc, _, hr⟩ := hel i hi
      obtain ⟨x, rfl, hx⟩ := open_att hr
      exact ⟨x, hx, hc 0 (by omega), hc 1 (by omega), hc 2 (by omega), hc 3 (by omega)⟩
    obtain ⟨f, hf⟩ := Deep.choose_lt each
    have hg : ∀ i, i < len → att0 ((List.range len).map f) i = f i := fun i hi => range_get f len i _ hi
    refine ⟨a, cap, (List.range len).map f, by simp, ⟨fun _ => ⟨b, off, ha, hlt, fun i hi => ?_⟩, by simpa using hm, fun i hi => ?_⟩⟩
    · rw [List.length_map, List.length_range] at hi
      rw [hg i hi]
      exact (hf i hi).2
    · rw [List.length_map, List.length_range] at hi
      rw [hg i hi]
      exact (hf i hi).1
  · obtain rfl : len = 0 := by omega
    exact ⟨a, cap, [], rfl, ⟨fun h => absurd h (by simp), by simp, fun i hi => by cases hi⟩⟩
set_option maxRecDepth 100000 in
theorem under_node : ∃ f0 f1 f2 f3 f4 f5 f6 f7 : Field, Tryz.prog.underlying 32 = some (.struct #[f0, f1, f2, f3, f4, f5, f6, f7]) ∧ (f0.offset = 0 ∧ f1.offset = 1 ∧ f2.offset = 2 ∧ f3.offset = 3 ∧ f4.offset = 4 ∧ f5.offset = 5 ∧ f6.offset = 6 ∧ f7.offset = 7) ∧ f0.type = 3 ∧ f1.type = 9 ∧ f2.type = 9 ∧ f3.type = 9 ∧ f4.type = 29 ∧ f5.type = 30 ∧ f6.type = 22 ∧ f7.type = 9 := by
  refine ⟨_, _, _, _, _, _, _, _, Tryz.underlying32, ⟨rfl, rfl, rfl, rfl, rfl, rfl, rfl, rfl⟩, rfl, rfl, rfl, rfl, rfl, rfl, rfl, rfl⟩
theorem cells_node : Tryz.prog.cellsOf 32 = 8 := by kernel_rfl
set_option maxRecDepth 100000 in
theorem open_node : ∀ (fuel : Nat) {cs : List Value} {y : DataW H × List MemPlace}, DataW.trod enc Tryz.prog W base spare held fuel 32 cs = some y → ∃ (t : Tree) (h : Hdr), cs = (vals t h).toList ∧ NodeIn W 0 t h := by
  intro fuel
  induction fuel using Nat.strongRecOn with
  | ind fuel ih =>
  intro cs y h
  obtain ⟨f0, f1, f2, f3, f4, f5, f6, f7, hu, ⟨o0, o1, o2, o3, o4, o5, o6, o7⟩, t0, t1, t2, t3, t4, t5, t6, t7⟩ := under_node
  have c3 : Tryz.prog.cellsOf 3 = 1 := by kernel_rfl
  have c9 : Tryz.prog.cellsOf 9 = 1 := by kernel_rfl
  have cd : Tryz.prog.cellsOf 29 = 1 := by kernel_rfl
  have ca : Tryz.prog.cellsOf 30 = 1 := by kernel_rfl
  have cn : Tryz.prog.cellsOf 22 = 1 := by kernel_rfl
  obtain ⟨xs, n, hfu, _, hl, hxl, hf⟩ := DataW.trod_struct hu h
  rw [cells_node] at hl
  match cs, hl, xs, hxl with
  | [v0, v1, v2, v3, v4, v5, v6, v7], _, [y0, y1, y2, y3, y4, y5, y6, y7], _ =>
    have h0 := hf 0 f0 rfl
    have h1 := hf 1 f1 rfl
    have h2 := hf 2 f2 rfl
    have h3 := hf 3 f3 rfl
    have h4 := hf 4 f4 rfl
    have h5 := hf 5 f5 rfl
    have h6 := hf 6 f6 rfl
    have h7 := hf 7 f7 rfl
    rw [t0, o0, c3] at h0
    rw [t1, o1, c9] at h1
    rw [t2, o2, c9] at h2
    rw [t3, o3, c9] at h3
    rw [t4, o4, cd] at h4
    rw [t5, o5, ca] at h5
    rw [t6, o6, cn] at h6
    rw [t7, o7, c9] at h7
    obtain ⟨k, e0, _, z0⟩ := DataW.trod_int Tryz.underlying3 h0
    obtain ⟨s1, e1, _, z1⟩ := DataW.trod_string Tryz.underlying9 h1
    obtain ⟨s2, e2, _, z2⟩ := DataW.trod_string Tryz.underlying9 h2
    obtain ⟨s3, e3, _, z3⟩ := DataW.trod_string Tryz.underlying9 h3
    obtain ⟨s7, e7, _, z7⟩ := DataW.trod_string Tryz.underlying9 h7
    obtain ⟨da, dc, ds, e4, hd⟩ := pairs.open_Decl h4
    obtain ⟨aa, ac, ats, e5, hat⟩ := open_atts h5
    obtain ⟨ka, len, kc, e6, hm, hrow⟩ := open_rows (by decide) Tryz.underlying22 cells_node h6
    simp at e0 e1 e2 e3 e4 e5 e6 e7
    have each : ∀ i, i < len → ∃ q : Tree × Hdr, ∀ b off, ka = some ⟨b, off, none⟩ → NodeIn W 0 q.1 q.2 ∧ ∀ j, j < 8 → W.cell? ⟨b, off + i * 8 + j, none⟩ = (vals q.1 q.2)[j]? := fun i hi => by
      obtain ⟨b, off, ha, hlt, hel⟩ := hrow (by omega)
      obtain ⟨cs', m, y', _, hc, hmf, hr⟩ := hel i hi
      obtain ⟨t, h', rfl, hn⟩ := ih m (by omega) hr
      refine ⟨(t, h'), fun b' off' ha' => ⟨hn, fun j hj => ?_⟩⟩
      rw [ha] at ha'
      cases ha'
      rw [hc j hj]
      simp
    obtain ⟨q, hq⟩ := Deep.choose_lt each
    have hg : ∀ i, i < len → kid ((List.range len).map fun i => (q i).1) i = (q i).1 := fun i hi => range_get _ len i _ hi
    have hlen : ((List.range len).map fun i => (q i).1).length = len := by simp
    have hw : -9223372036854775808 ≤ k ∧ k ≤ 9223372036854775807 := bounds_i64 z0
    refine ⟨.mk k s1 s2 s3 s7 ds ats ((List.range len).map fun i => (q i).1), ⟨da, dc, aa, ac, ka, kc⟩, ?_, ?_⟩
    · rw [e0, e1, e2, e3, e4, e5, e6, e7]
      simp [vals, Tree.kind, Tree.pre, Tree.loc, Tree.uri, Tree.text, Tree.ds, Tree.ats, Tree.kids]
    · rw [NodeIn]
      refine ⟨⟨hw, z1, z2, z3, z7, by simpa [Tree.kids] using hm⟩, ⟨fun _ _ => Nat.zero_le _, fun _ _ => Nat.zero_le _, fun _ _ => Nat.zero_le _⟩, hd, hat, fun h0 => ?_⟩
      rw [hlen] at h0
      obtain ⟨b, off, ha, hlt, hel⟩ := hrow h0
      refine ⟨b, off, ha, hlt, kids_of _ _ fun i hi => ?_⟩
      rw [hlen] at hi
      rw [hg i hi]
      obtain ⟨g1, g2⟩ := hq i hi b off ha
      exact ⟨_, g1, g2⟩
set_option maxRecDepth 100000 in
theorem open_val_node {r : Reach} {b0 : Nat} {v : Value} {d : DataW H} {p : List MemPlace} (hv : Value.okWide Tryz.prog W r b0 32 v) (h : DataW.Trod enc Tryz.prog W base spare held 32 v d p) : ∃ (t : Tree) (hd : Hdr), v = .agg (vals t hd) ∧ NodeIn W 0 t hd := by
  obtain ⟨f0, f1, f2, f3, f4, f5, f6, f7, hu, _⟩ := under_node
  obtain ⟨cs, rfl, hsz⟩ := okWide_struct hu hv
  obtain ⟨fuel, hf⟩ := h
  obtain ⟨t, hd, hcs, hn⟩ := open_node fuel hf
  exact ⟨t, hd, by congr 1; exact Array.toList_inj.1 (by simpa [Value.cells] using hcs), hn⟩
theorem open_nodes {fuel : Nat} {cs : List Value} {y : DataW H × List MemPlace} (h : DataW.trod enc Tryz.prog W base spare held fuel 22 cs = some y) : ∃ (a : Option Addr) (cap : Nat) (L : List Tree), cs = [.slice a L.length cap] ∧ NodesAt W 0 a L := by
  obtain ⟨a, len, cap, rfl, hm, hrow⟩ := open_rows (by decide) Tryz.underlying22 cells_node h
  have each : ∀ i, i < len → ∃ q : Tree × Hdr, ∀ b off, a = some ⟨b, off, none⟩ → NodeIn W 0 q.1 q.2 ∧ ∀ j, j < 8 → W.cell? ⟨b, off + i * 8 + j, none⟩ = (vals q.1 q.2)[j]? := fun i hi => by
    obtain ⟨b, off, ha, hlt, hel⟩ := hrow (by omega)
    obtain ⟨cs', m, y', _, hc, hmf, hr⟩ := hel i hi
    obtain ⟨t, h', rfl, hn⟩ := open_node m hr
    refine ⟨(t, h'), fun b' off' ha' => ⟨hn, fun j hj => ?_⟩⟩
    rw [ha] at ha'
    cases ha'
    rw [hc j hj]
    simp
  obtain ⟨q, hq⟩ := Deep.choose_lt each
  have hg : ∀ i, i < len → kid ((List.range len).map fun i => (q i).1) i = (q i).1 := fun i hi => range_get _ len i _ hi
  have hlen : ((List.range len).map fun i => (q i).1).length = len := by simp
  refine ⟨a, cap, (List.range len).map fun i => (q i).1, by simp, ⟨fun h0 => ?_, by simpa using hm, fun _ _ => Nat.zero_le _⟩⟩
  rw [hlen] at h0
  obtain ⟨b, off, ha, hlt, hel⟩ := hrow h0
  refine ⟨b, off, ha, hlt, fun i hi => ?_⟩
  rw [hlen] at hi
  rw [hg i hi]
  obtain ⟨g1, g2⟩ := hq i hi b off ha
  exact ⟨_, g1, g2 0 (by omega), g2 1 (by omega), g2 2 (by omega), g2 3 (by omega), g2 4 (by omega), g2 5 (by omega), g2 6 (by omega), g2 7 (by omega)⟩
end
end Go.Proofs.YtmiiilamjbhheaaGreatDoor.trees
namespace Go.Proofs.YtmiiilamjbhheaaGreatDoor.fnExactWriteAll
open Go.ChangeShapes Go.WideShapes Go.ChangeAt Go.RowKit Go.WideMaps Go.WideElems
open Go.ChangeMaps (open_string shut_string)
set_option linter.unusedVariables false

theorem own : ownKnob Tryz.prog.godebug = none := by kernel_rfl
theorem laidOut : laidOutB Tryz.prog = true := by kernel_rfl

theorem spec_flat {cap : Nat} {L : List trees.Tree} {a : Option Addr} {w : World} {c : ByteArray} (hz : trees.nszs L ≤ 1048576) (hc : trees.wrTo L L.length = c) (hn : trees.NodesAt w 0 a L) : Calls Tryz.prog 7 #[.slice a L.length cap] w fun e w' => e = .returned (.string c) ∧ Below w.heap.size w w' := by
  have := trees.spec_write_all L a cap 0 w hz hn
  rw [hc] at this
  exact this
theorem impl_flat {cap : Nat} {L : List trees.Tree} {a : Option Addr} {w : World} {c : ByteArray} (hz : trees.nszs L ≤ 1048576) (hc : trees.wrTo L L.length = c) (hn : trees.NodesAt w 0 a L) (hT : trees.NTabs w) : Calls Tryz.prog 9 #[.slice a L.length cap] w fun e w' => e = .returned (.string c) ∧ Below w.heap.size w w' := by
  have := sinks.impl_write_all L a cap 0 w (fun i hi => Nat.le_trans (trees.nsz_kid L i hi) hz) (by omega) hn hT
  rw [hc] at this
  exact this
theorem to_flat {cap : Nat} {L : List trees.Tree} {a : Option Addr} {w : World} (hz : trees.nszs L ≤ 1048576) (hn : trees.NodesAt w 0 a L) : Calls Tryz.prog 8 #[.slice a L.length cap] w fun e w' => (∃ g, e = .returned (.slice (some ⟨g, 0, none⟩) L.length L.length) ∧ trees.NodesAt w' 0 (some ⟨g, 0, none⟩) L) ∧ Below w.heap.size w w' := by
  refine (trees.mk_nodes 0 w a L cap hz hn).mono ?_
  rintro e w' ⟨⟨g, he, _, hm⟩, hb⟩
  have hl := trees.nszs_eq L
  exact ⟨⟨g, he, (trees.MadeN.nodes hm (by unfold maxLen; omega)).mono (Nat.zero_le _)⟩, hb⟩
theorem tables {W : World} (h : laidMetH Tryz.prog Rows.fnExactWriteAllRow.laid W) (hsh : W.ShapedOpen Tryz.prog) : trees.NTabs W := by
  rw [MakeChecks.laidMetH_plain _ _ _ (by kernel_rfl)] at h
  refine trees.ntabs_of (D1 := Rows.laid_unicode_utf8_acceptRanges) (D2 := Rows.laid_unicode_utf8_first) (D3 := Rows.laid_loop_example_g00484_impl_signSpans) (D4 := Rows.laid_loop_example_g00484_impl_startSpans) (D5 := Rows.laid_loop_example_g00484_impl_partSpans) (D6 := Rows.laid_unicode_asciiFold) (by kernel_rfl) (by kernel_rfl) rfl rfl rfl (by kernel_rfl) hsh ?_ ?_ ?_ ?_ ?_ ?_
  all_goals exact Lib.laidMet.reads h (by repeat (first | exact List.Mem.head _ | apply List.Mem.tail))


/-! ### The walk: the law returns true, and nothing that was there has turned -/
set_option maxRecDepth 100000 in
set_option maxHeartbeats 4000000 in
theorem walk (a0 : Option Addr) (cap0 : Nat) (L0 : List trees.Tree) (w : World) (w0 : trees.NodesAt w 0 a0 L0) (hL : laidMetH Tryz.prog Rows.fnExactWriteAllRow.laid w) (hsh : w.ShapedOpen Tryz.prog) :
    Calls Tryz.prog 3 #[.slice a0 L0.length cap0] w fun e w' => e = .returned (.bool true) ∧ Below w.heap.size w w' := by
  have HN : Hid (trees.NodesAt w 0 a0 L0) := w0
  have HT0 : Hid (trees.NTabs w) := tables hL hsh
  clear w0 hL hsh
  obtain ⟨c, hc⟩ : ∃ c, trees.wrTo L0 L0.length = c := ⟨_, rfl⟩
  have HC : Hid _ := hc
  clear hc
  go_enter Tryz.func3, Tryz.ntmps3
  go_wp2_with fail
  refine (trees.sz_nodes 0 _ _ _ _ 1048576 (Nat.le_refl _) HN.out).mono ?_
  rintro e w1 ⟨⟨r, rfl, hr⟩, hb⟩
  have HB1 : Hid (Below w.heap.size w w1) := hb
  clear hb
  by_cases hneg : r < 0
  · go_wp2
    go_ret
    exact ⟨rfl, HB1.out⟩
  · obtain ⟨q0, rfl⟩ : ∃ q : Nat, r = q := ⟨r.toNat, by omega⟩
    have hq0 : q0 ≤ 1048576 := by have := hr (by omega); omega
    have HZ : Hid (trees.nszs L0 ≤ 1048576) := by have := hr (by omega); show _ ≤ _; omega
    clear hr
    go_wp2_with fail
    refine Calls.mono (to_flat HZ.out (HN.out.below HB1.out)) ?_
    rintro e w2 ⟨⟨g1, rfl, hn⟩, hb⟩
    have HB2 : Hid (Below w.heap.size w w2) := HB1.out.trans (hb.mono HB1.out.size)
    have HM2 : Hid _ := hn
    clear hb hn
    go_wp2_with fail
    refine Calls.mono (spec_flat HZ.out HC.out HM2.out) ?_
    rintro e w3 ⟨rfl, hb⟩
    have HB3 : Hid (Below w.heap.size w w3) := HB2.out.trans (hb.mono HB2.out.size)
    clear hb HM2
    go_wp2_with fail
    refine Calls.mono (to_flat HZ.out (HN.out.below HB3.out)) ?_
    rintro e w4 ⟨⟨g2, rfl, hn⟩, hb⟩
    have HB4 : Hid (Below w.heap.size w w4) := HB3.out.trans (hb.mono HB3.out.size)
    have HM4 : Hid _ := hn
    clear hb hn
    go_wp2_with fail
    refine Calls.mono (impl_flat HZ.out HC.out HM4.out (HT0.out.below HB4.out)) ?_
    rintro e w5 ⟨rfl, hb⟩
    have HB5 : Hid (Below w.heap.size w w5) := HB4.out.trans (hb.mono HB4.out.size)
    have HM5 : Hid _ := HM4.out.below hb
    clear hb HM4
    go_wp2_with fail
    refine Calls.mono (to_flat HZ.out (HN.out.below HB5.out)) ?_
    rintro e w6 ⟨⟨g3, rfl, hn⟩, hb⟩
    have HB6 : Hid (Below w.heap.size w w6) := HB5.out.trans (hb.mono HB5.out.size)
    have HM6 : Hid _ := HM5.out.below hb
    have HN6 : Hid _ := hn
    clear hb hn HM5
    go_wp2_with fail
    refine Calls.mono (trees.eq_nodes 0 0 _ _ _ _ _ _ HM6.out HN6.out) ?_
    rintro e w7 ⟨rfl, hb⟩
    have HB7 : Hid (Below w.heap.size w w7) := HB6.out.trans (hb.mono HB6.out.size)
    clear hb
    go_wp2
    go_ret
    exact ⟨rfl, HB7.out⟩

/-! ### The row -/
theorem vars_len {H : Type} {enc : TypeId × Value → H} {P : Program} {w : World} {sp : Nat → Bool} : ∀ {ns : List String} {gs : List (DataW H)} {ps : List MemPlace}, DataW.TrodVars enc P w sp ns gs ps → gs.length = ns.length
  | [], [], _, _ => rfl
  | [], _ :: _, _, h => h.elim
  | _ :: _, [], _, h => h.elim
  | _ :: ns, _ :: gs, _, h => by
    obtain ⟨_, _, _, _, _, _, _, _, _, _, h, _⟩ := h
    simp [vars_len h]
theorem list_len {α : Type} {l : List α} (h : l.length = 3) : ∃ g1 g2 g3, l = [g1, g2, g3] := by
  match l, h with
  | [g1, g2, g3], _ => exact ⟨g1, g2, g3, rfl⟩
set_option maxRecDepth 100000 in
theorem door_met (os : Os) (args : Array Value) : laidMetH Tryz.prog Rows.fnExactWriteAllRow.laid ((World.laidAll Tryz.prog os Rows.fnExactWriteAllRow.laid).forCall (fun _ _ => 0) ⟨#[], args, []⟩).memory :=
  by rw [MakeChecks.laidMetH_plain _ _ _ (by kernel_rfl)]; exact laidMet_laidAll _ (by kernel_rfl) (by kernel_rfl)
set_option maxRecDepth 100000 in
theorem lifted (os : Os) (started : os.Started) (H : Type) (enc : TypeId × Value → H) :
    ReturnsInHanded {} Tryz.checked os 3 .any (fun w args => (Rows.fnExactWriteAllSpec.pre enc Tryz.prog Tryz.f3 [] false w args ∧ laidMetH Tryz.prog Rows.fnExactWriteAllRow.laid w) ∧ sizedMet enc Tryz.prog Tryz.f3 (OpenSpec.ofChange Rows.fnExactWriteAllSpec) false w args)
      (Rows.fnExactWriteAllSpec.post enc Tryz.prog Tryz.f3 false true false false) := by
  refine frames.change_and_shaped (C := Tryz.checked) (X := fun w _ => laidMetH Tryz.prog Rows.fnExactWriteAllRow.laid w) (fun _ _ _ hh h => h.of_heap hh) own started (by kernel_rfl) Tryz.func3
    (ChangeSpec.witness_shaped (enc := enc) (C := Tryz.checked) (os := os) (X := fun w _ => laidMetH Tryz.prog Rows.fnExactWriteAllRow.laid w) false (World.laidAll Tryz.prog os Rows.fnExactWriteAllRow.laid) #[.slice none 0 0] 8 (World.laidAll_os _ _ _) (World.shaped_of_ZipB (by kernel_rfl) (by kernel_rfl)) (by kernel_rfl) (by kernel_rfl) (by kernel_rfl) (door_met os _)) ?_
  intro W base args ds gs before hval0 hW hL hsh
  have hval : ∀ (j : Nat) t v, Tryz.f3.params[j]? = some t → args[j]? = some v → Value.okWide Tryz.prog W .any base t v := hval0
  have hW' := hW
  obtain ⟨p, q, hA0, hV, rfl, hfz, hnd⟩ := hW
  have hA : DataW.TrodAll enc Tryz.prog W 0 (fun _ => true) true Tryz.f3.params.toList args.toList ds p := hA0
  rw [Tryz.params3] at hA hval
  obtain ⟨v0, vs0, d0, ds0, p0, q0, hargs, rfl, rfl, h0, r0⟩ := trodAll_cons hA
  obtain ⟨rfl, rfl, rfl⟩ := trodAll_nil r0
  obtain rfl : args = #[v0] := by cases args; simp_all
  obtain ⟨g1, g2, g3, rfl⟩ := list_len (vars_len hV)
  obtain ⟨a0, len0, cap0, rfl⟩ := okWide_slice Tryz.underlying22 (hval 0 22 v0 rfl rfl)
  have k0 := h0
  have lt0 : ∀ x ∈ p0, x.block < W.heap.size := by obtain ⟨m, hm⟩ := k0; exact DataW.trod_lt m _ _ _ hm
  obtain ⟨L0, hl0, w0⟩ : ∃ L : List trees.Tree, len0 = L.length ∧ trees.NodesAt W 0 a0 L := by
    obtain ⟨fuel, hf⟩ := h0
    obtain ⟨a', c', L, hcs, hp⟩ := trees.open_nodes hf
    simp [Value.cells] at hcs
    obtain ⟨rfl, rfl, rfl⟩ := hcs
    exact ⟨L, rfl, hp⟩
  subst hl0
  clear hA0 hval0
  refine (walk a0 cap0 L0 W w0 hL hsh).mono fun e W' ⟨he, bel⟩ => ?_
  subst he
  exact ⟨_, rfl, _, _, _, [], _, _, hW', trodAll_mk1 (shut_bool Tryz.underlying4 _), (trodAll_cons_mk (Below.trod laidOut (by kernel_rfl) (of_decide_eq_true (by kernel_rfl)) k0 bel lt0) trodAll_mk0), Below.trodVars laidOut bel (by kernel_rfl) hV, bel.frame _, fun h => by cases h⟩

theorem said : Rows.FnExactWriteAllSaid :=
  OpenClaim.holds_of_wide 3 Tryz.f3 rfl rfl rfl rfl rfl rfl rfl ⟨rfl, rfl, rfl, rfl, rfl⟩ rfl rfl rfl rfl rfl (by kernel_rfl) Tryz.func3 (by kernel_rfl)
    (of_decide_eq_true (by kernel_rfl)) (by unfold Func.isWrapper; first | (rw [if_pos (by decide +kernel)]; kernel_rfl) | (rw [if_neg (by decide +kernel)]; exact ⟨rfl, rfl⟩))
    (fun os started H enc _ => lifted os started H enc)

/-! ### The card -/
theorem plain (f : FuncId) (fn : Func) (hf : Tryz.pinned.checked.prog.funcNamed "loop.example/g00484/laws.FnExactWriteAll" = some f) (hfn : Tryz.pinned.checked.prog.funcs[f]? = some fn) :
    true = Tryz.pinned.checked.prog.looks [] ∧ ∀ (j : Nat) t, fn.params[j]? = some t → Tryz.pinned.checked.prog.wantsStandIn t = false := by
  obtain rfl : f = 3 := Option.some.inj ((show Tryz.prog.funcNamed "loop.example/g00484/laws.FnExactWriteAll" = some 3 by kernel_rfl).symm.trans hf) |>.symm
  obtain rfl : fn = Tryz.f3 := (Option.some.inj (Tryz.func3.symm.trans hfn)).symm
  refine ⟨by kernel_rfl, fun j t ht => ?_⟩
  rw [Tryz.params3] at ht
  have hm : t ∈ [22] := by simpa using Array.mem_of_getElem? ht
  have hall : ([22].all fun u => !Tryz.prog.wantsStandIn u) = true := by kernel_rfl
  exact (show Tryz.prog.wantsStandIn t = false by simpa using List.all_eq_true.1 hall t hm)

/-- The statement. -/
theorem card : Rows.FnExactWriteAllCardSaid :=
  Claim7.holds_tied_plain_at .later [] _ _ _ _ said (fun _ h => by cases h) (by kernel_rfl) (fun _ h => by cases h) fnExactWriteAll_row_tie rfl ⟨rfl, rfl⟩ (by kernel_rfl) rfl plain (by kernel_rfl)
#print axioms card
end Go.Proofs.YtmiiilamjbhheaaGreatDoor.fnExactWriteAll
