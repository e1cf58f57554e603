/-
  The laws' own comparison of two nodes.
-/
import Derived.Test.YtdpbiaomhndpcaaNodeFns
namespace Go.Proofs.Ytdpbiaomhndpcaa.trees
open Go.ChangeShapes Go.WideShapes Go.ChangeAt Go.RowKit
open pairs (Pair at0 PairsAt)
set_option linter.unusedVariables false
/-- Two structs' boxes, one behind the other. -/
structure Two (w W : World) (t : TypeId) (P Q : Array Value) : Prop where
  fst : W.heap[w.heap.size]? = some (.cells P t (0, 0))
  snd : W.heap[w.heap.size + 1]? = some (.cells Q t (0, 0))
  bel : Below w.heap.size w W
theorem Two.new (w : World) (t : TypeId) (P Q : Array Value) : Two w ((w.alloc (.cells P t)).alloc (.cells Q t)) t P Q := by
  refine ⟨?_, ?_, ((Below.refl _ w).alloc (Nat.le_refl _) _).alloc (by simp) _⟩
  · exact (Below.heap_alloc _ _ _ (by simp)).trans (heap_alloc_new w _)
  · have := heap_alloc_new (w.alloc (.cells P t)) (.cells Q t)
    rw [World.size_alloc] at this
    exact this
theorem Two.below {w W W' : World} {t : TypeId} {P Q : Array Value} (h : Two w W t P Q) (hb : Below W.heap.size W W') : Two w W' t P Q :=
  ⟨(hb.block _ (pairs.lt_heap h.fst)).trans h.fst, (hb.block _ (pairs.lt_heap h.snd)).trans h.snd, h.bel.trans (hb.mono h.bel.size)⟩
end Go.Proofs.Ytdpbiaomhndpcaa.trees
