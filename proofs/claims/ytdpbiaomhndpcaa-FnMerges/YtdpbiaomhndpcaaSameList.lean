/-
  The law's sameList: of one list twice it is true.
-/
import Derived.Test.YtdpbiaomhndpcaaImplSame
namespace Go.Proofs.Ytdpbiaomhndpcaa.trees
open Go.ChangeShapes Go.WideShapes Go.ChangeAt Go.RowKit
open pairs (Pair at0 PairsAt)
set_option linter.unusedVariables false
def SlOk (t : Tree) (h h' : Hdr) (w : World) : Prop :=
  Calls Try.prog 14 #[.agg (vals t h), .agg (vals t h')] w fun e w' => e = .returned (.bool true) ∧ Below w.heap.size w w'
set_option maxRecDepth 100000 in
set_option maxHeartbeats 4000000 in
theorem same_list_of (n B B' : Nat) (ih : ∀ t h h' w, tsize t < n → NodeIn w B t h → NodeIn w B' t h' → SlOk t h h' w) (w : World) (a a' : Option Addr) (L : List Tree) (cap cap' : Nat) (hn : ksize L < n) (hL : Hid (NodesAt w B a L)) (hL' : Hid (NodesAt w B' a' L)) :
    Calls Try.prog 7 #[.slice a L.length cap, .slice a' L.length cap'] w fun e w' => e = .returned (.bool true) ∧ Below w.heap.size w w' := by
  have hlen := hL.out.short
  unfold maxLen at hlen
  have HIH : Hid (∀ t h h' w, tsize t < n → NodeIn w B t h → NodeIn w B' t h' → SlOk t h h' w) := ih
  clear ih
  go_enter Try.func7, Try.ntmps7
  go_wp2
  go_loopw [5] (fun t wr => ∃ (k : Nat), k ≤ L.length ∧ t = .int .i64 k ∧ Hid (Below w.heap.size w wr)) (fun t _ => L.length - (intOf t).toNat)
  case atStart => exact ⟨0, Nat.zero_le _, rfl, Below.refl _ _⟩
  case round =>
    obtain ⟨k, hk, rfl, hbw⟩ := hrel
    by_cases hlt : k < L.length
    · obtain ⟨b, off, ha, hblt, hc⟩ := (hL.out.below hbw.out).row (by omega)
      obtain ⟨b', off', ha', hblt', hc'⟩ := (hL'.out.below hbw.out).row (by omega)
      obtain ⟨h1, hn1, hcs⟩ := hc k hlt
      obtain ⟨h2, hn2, hcs'⟩ := hc' k hlt
      have hks := ksize_kid L k hlt
      have hE := fun W (h : Below wr.heap.size wr W) => HIH.out (kid L k) h1 h2 W (by omega) (hn1.below h) (hn2.below h)
      unfold SlOk at hE
      unfold vals at hE
      have hl : ∀ W, Below wr.heap.size wr W → W.cell? ⟨b, off + k * 8, none⟩ = some (.int .i64 (kid L k).kind) ∧ W.cell? ⟨b, off + k * 8 + 1, none⟩ = some (.string (kid L k).pre) ∧ W.cell? ⟨b, off + k * 8 + 2, none⟩ = some (.string (kid L k).loc) ∧ W.cell? ⟨b, off + k * 8 + 3, none⟩ = some (.string (kid L k).uri) ∧ W.cell? ⟨b, off + k * 8 + 4, none⟩ = some (.slice h1.da (kid L k).ds.length h1.dc) ∧ W.cell? ⟨b, off + k * 8 + 5, none⟩ = some (.slice h1.aa (kid L k).ats.length h1.ac) ∧ W.cell? ⟨b, off + k * 8 + 6, none⟩ = some (.slice h1.ka (kid L k).kids.length h1.kc) ∧ W.cell? ⟨b, off + k * 8 + 7, none⟩ = some (.string (kid L k).text) := fun W h => by
        rw [h.cell (p := ⟨b, off + k * 8, none⟩) hblt, h.cell (p := ⟨b, off + k * 8 + 1, none⟩) hblt, h.cell (p := ⟨b, off + k * 8 + 2, none⟩) hblt, h.cell (p := ⟨b, off + k * 8 + 3, none⟩) hblt, h.cell (p := ⟨b, off + k * 8 + 4, none⟩) hblt, h.cell (p := ⟨b, off + k * 8 + 5, none⟩) hblt, h.cell (p := ⟨b, off + k * 8 + 6, none⟩) hblt, h.cell (p := ⟨b, off + k * 8 + 7, none⟩) hblt]
        exact hcs
      have hl' : ∀ W, Below wr.heap.size wr W → W.cell? ⟨b', off' + k * 8, none⟩ = some (.int .i64 (kid L k).kind) ∧ W.cell? ⟨b', off' + k * 8 + 1, none⟩ = some (.string (kid L k).pre) ∧ W.cell? ⟨b', off' + k * 8 + 2, none⟩ = some (.string (kid L k).loc) ∧ W.cell? ⟨b', off' + k * 8 + 3, none⟩ = some (.string (kid L k).uri) ∧ W.cell? ⟨b', off' + k * 8 + 4, none⟩ = some (.slice h2.da (kid L k).ds.length h2.dc) ∧ W.cell? ⟨b', off' + k * 8 + 5, none⟩ = some (.slice h2.aa (kid L k).ats.length h2.ac) ∧ W.cell? ⟨b', off' + k * 8 + 6, none⟩ = some (.slice h2.ka (kid L k).kids.length h2.kc) ∧ W.cell? ⟨b', off' + k * 8 + 7, none⟩ = some (.string (kid L k).text) := fun W h => by
        rw [h.cell (p := ⟨b', off' + k * 8, none⟩) hblt', h.cell (p := ⟨b', off' + k * 8 + 1, none⟩) hblt', h.cell (p := ⟨b', off' + k * 8 + 2, none⟩) hblt', h.cell (p := ⟨b', off' + k * 8 + 3, none⟩) hblt', h.cell (p := ⟨b', off' + k * 8 + 4, none⟩) hblt', h.cell (p := ⟨b', off' + k * 8 + 5, none⟩) hblt', h.cell (p := ⟨b', off' + k * 8 + 6, none⟩) hblt', h.cell (p := ⟨b', off' + k * 8 + 7, none⟩) hblt']
        exact hcs'
      subst ha ha'
      clear hc hc' hcs hcs' hn1 hn2 hks
      generalize kid L k = x at hl hl' hE
      go_wp2_with fail
      refine quiets.wp_region_below (by kernel_rfl) (by kernel_rfl) ?_
      repeat (go_big_quiet_step ((first | (intro hq; rfl) | (intro hq; simp [go_sem, (hl _ hq).1, (hl _ hq).2.1, (hl _ hq).2.2.1, (hl _ hq).2.2.2.1, (hl _ hq).2.2.2.2.1, (hl _ hq).2.2.2.2.2.1, (hl _ hq).2.2.2.2.2.2.1, (hl _ hq).2.2.2.2.2.2.2]; rfl) | (intro hq; simp [go_sem, (hl' _ hq).1, (hl' _ hq).2.1, (hl' _ hq).2.2.1, (hl' _ hq).2.2.2.1, (hl' _ hq).2.2.2.2.1, (hl' _ hq).2.2.2.2.2.1, (hl' _ hq).2.2.2.2.2.2.1, (hl' _ hq).2.2.2.2.2.2.2]; rfl) | (intro hq; exact quiets.below_call (hE _ hq) hq))))
      refine wpQuiet_nil ?_
      intro w6 hb6
      have HB6 : Hid _ := hbw.out.trans (hb6.mono hbw.out.size)
      clear hb6 hl hl' hE
      go_wp2
      go_roundw
      case rel => exact ⟨k + 1, by omega, by go_num, HB6.out⟩
      case measure => simp [intOf]; omega
    · go_wp2
      go_ret
      exact ⟨rfl, hbw.out⟩
theorem sameB_self (t : Tree) : sameB t t = true := @decide_eq_true _ (Classical.propDecidable _) rfl
theorem sl_any (B B' : Nat) (t : Tree) (h h' : Hdr) (w : World) (hn : NodeIn w B t h) (hn' : NodeIn w B' t h') : SlOk t h h' w := by
  have := impl_same_node B B' (tsize t + 1) t t h h' w (Nat.lt_succ_self _) hn hn'
  unfold ImplSameOk at this
  rw [sameB_self] at this
  exact this
theorem same_list (B B' : Nat) (w : World) (a a' : Option Addr) (L : List Tree) (cap cap' : Nat) (hL : NodesAt w B a L) (hL' : NodesAt w B' a' L) :
    Calls Try.prog 7 #[.slice a L.length cap, .slice a' L.length cap'] w fun e w' => e = .returned (.bool true) ∧ Below w.heap.size w w' :=
  same_list_of (ksize L + 1) B B' (fun t h h' w ht hn hn' => sl_any B B' t h h' w hn hn') w a a' L cap cap' (Nat.lt_succ_self _) hL hL'
end Go.Proofs.Ytdpbiaomhndpcaa.trees
