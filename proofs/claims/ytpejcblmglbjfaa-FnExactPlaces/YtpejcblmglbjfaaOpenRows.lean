/-
  A slice of structs that came in, opened.
-/
import Derived.Test.YtpejcblmglbjfaaRows
import Derived.Lib.SmallJoins
import Derived.Deep.SlicePairs
import Derived.OpenShut
namespace Go.Proofs.Ytpejcblmglbjfaa.trees
open Go.ChangeShapes Go.WideShapes Go.ChangeAt Go.RowKit
set_option linter.unusedVariables false
section
variable {H : Type} {enc : TypeId × Value → H} {W : World} {base : Nat} {spare : Nat → Bool} {held : Bool}
/-- A slice of structs of s cells, opened. -/
theorem open_rows {P : Program} {t e : TypeId} {s fuel : Nat} {cs : List Value} {x : DataW H × List MemPlace} (hs : 0 < s) (ht : P.underlying t = some (.slice e)) (ce : P.cellsOf e = s) (h : DataW.trod enc P W base spare held fuel t cs = some x) :
    ∃ (a : Option Addr) (len cap : Nat), cs = [.slice a len cap] ∧ len ≤ maxLen ∧ (0 < len → ∃ b off, a = some ⟨b, off, none⟩ ∧ b < W.heap.size ∧ ∀ i, i < len → ∃ cs' n y, cs'.length = s ∧ (∀ j, j < s → W.cell? ⟨b, off + i * s + j, none⟩ = cs'[j]?) ∧ n < fuel ∧ DataW.trod enc P W base spare held n e cs' = some y) := by
  rcases DataW.trod_slice ht h with ⟨rfl, _⟩ | ⟨a, len, cap, elems, rest, n, hfu, rfl, _, _, hl, hm, hlen, hel, _, _⟩
  · exact ⟨none, 0, 0, rfl, Nat.zero_le _, fun h => by omega⟩
  · have each : ∀ i, i < len → ∃ cs' y, cs'.length = s ∧ (∀ j, j < s → W.cell? ((a.add (i * s)).add j) = cs'[j]?) ∧ DataW.trod enc P W base spare held n e cs' = some y := fun i hi => by
      have := hel i hi
      rw [List.getElem?_eq_getElem (by omega), ce] at this
      obtain ⟨cs', h1, h2⟩ := Option.bind_eq_some_iff.1 this
      obtain ⟨_, g1, g2⟩ := World.cells?_some h1
      exact ⟨cs', _, g1, g2, h2⟩
    refine ⟨some a, len, cap, rfl, Nat.le_trans hl hm, fun h0 => ?_⟩
    obtain ⟨b, off, spot⟩ := a
    obtain ⟨c0, y0, g1, g2, _⟩ := each 0 h0
    have hc := g2 0 hs
    rw [List.getElem?_eq_getElem (by omega)] at hc
    have hspot : spot = none := by simpa [Addr.add] using World.cell?_spot hc
    subst hspot
    refine ⟨b, off, rfl, ?_, fun i hi => ?_⟩
    · have := World.block_lt_of_cell? W _ hc
      rwa [Addr.add_lit, Addr.add_lit] at this
    · obtain ⟨cs', y, e1, e2, e3⟩ := each i hi
      refine ⟨cs', n, y, e1, fun j hj => ?_, by omega, e3⟩
      have := e2 j hj
      rwa [Addr.add_lit, Addr.add_lit] at this
end
end Go.Proofs.Ytpejcblmglbjfaa.trees
