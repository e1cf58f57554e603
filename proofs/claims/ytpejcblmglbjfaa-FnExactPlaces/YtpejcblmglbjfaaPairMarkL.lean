/-
  The laws' marks as pairs: what they are, and a row in which some are laid.
-/
import Derived.Test.YtpejcblmglbjfaaPairs
import Derived.Test.YtpejcblmglbjfaaMarkText
namespace Go.Proofs.Ytpejcblmglbjfaa.pairs
open Go.ChangeShapes Go.WideShapes Go.ChangeAt Go.RowKit
open marks (markT)
set_option linter.unusedVariables false
def marksL (k n : Nat) : List Pair := (List.range n).map fun i => (markT (k + 2 * i), markT (k + 2 * i + 1))
theorem marks_len (k n : Nat) : (marksL k n).length = n := by simp [marksL]
theorem marks_at (k n i : Nat) (hi : i < n) : at0 (marksL k n) i = (markT (k + 2 * i), markT (k + 2 * i + 1)) := by simp [marksL, at0, List.getD, hi]
theorem mark_next (k i : Nat) (h : k + 2 * i + 1 ≤ 1000000000) (w : World) : Calls Try.prog 77 #[.int .i64 ((k : Int) + 2 * (i : Int) + 1)] w fun e w' => e = .returned (.string (markT (k + 2 * i + 1))) ∧ Below w.heap.size w w' := by
  have := marks.mark_text (k + 2 * i + 1) w h
  rw [show ((k + 2 * i + 1 : Nat) : Int) = (k : Int) + 2 * (i : Int) + 1 by omega] at this
  exact this
theorem mark_first (k i : Nat) (h : k + 2 * i ≤ 1000000000) (w : World) : Calls Try.prog 77 #[.int .i64 ((k : Int) + 2 * (i : Int))] w fun e w' => e = .returned (.string (markT (k + 2 * i))) ∧ Below w.heap.size w w' := by
  have := marks.mark_text (k + 2 * i) w h
  rw [show ((k + 2 * i : Nat) : Int) = (k : Int) + 2 * (i : Int) by omega] at this
  exact this
theorem made_marks {w : World} {g n k i : Nat} {cur : Array Value} {t : TypeId} (hg : w.heap[g]? = some (.cells cur t (0, 0))) (hs : n * 2 ≤ cur.size) (hi : i < n) (hj : ∀ j, j < i → cur[j * 2]? = some (.string (at0 (marksL k n) j).1) ∧ cur[j * 2 + 1]? = some (.string (at0 (marksL k n) j).2))
    (h1 : cur[i * 2]? = some (.string (markT (k + 2 * i)))) : Made (w.setCell ⟨g, i * 2 + 1, none⟩ (.string (markT (k + 2 * i + 1)))) g (marksL k n) (i + 1) := by
  refine ⟨_, t, block_set _ hg, by rw [marks_len]; simpa using hs, fun j hj' => ?_⟩
  by_cases e : j = i
  · subst e
    rw [marks_at k n j hi]
    exact ⟨by rw [Array.getElem?_setIfInBounds_ne (by omega)]; exact h1, by rw [Array.getElem?_setIfInBounds_self_of_lt (by omega)]⟩
  · obtain ⟨a1, a2⟩ := hj j (by omega)
    exact ⟨by rw [Array.getElem?_setIfInBounds_ne (by omega)]; exact a1, by rw [Array.getElem?_setIfInBounds_ne (by omega)]; exact a2⟩
theorem set_keeps {cur : Array Value} {n k i : Nat} {u : Value} (hj : ∀ j, j < i → cur[j * 2]? = some (.string (at0 (marksL k n) j).1) ∧ cur[j * 2 + 1]? = some (.string (at0 (marksL k n) j).2)) : ∀ j, j < i → (cur.setIfInBounds (i * 2) u)[j * 2]? = some (.string (at0 (marksL k n) j).1) ∧ (cur.setIfInBounds (i * 2) u)[j * 2 + 1]? = some (.string (at0 (marksL k n) j).2) := fun j hj' => by
  obtain ⟨a1, a2⟩ := hj j hj'
  exact ⟨by rw [Array.getElem?_setIfInBounds_ne (by omega)]; exact a1, by rw [Array.getElem?_setIfInBounds_ne (by omega)]; exact a2⟩
end Go.Proofs.Ytpejcblmglbjfaa.pairs
