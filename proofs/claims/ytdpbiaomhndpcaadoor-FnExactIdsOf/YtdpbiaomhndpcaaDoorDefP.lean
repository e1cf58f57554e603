/-
  Rows of Defs: structs of five cells.
-/
import Derived.Test.YtdpbiaomhndpcaaDoorPairs
namespace Go.Proofs.YtdpbiaomhndpcaaDoor.heads
open Go.RowKit
set_option linter.unusedVariables false
structure Df where
  el : ByteArray
  at_ : ByteArray
  id : Bool
  has : Bool
  val : ByteArray
def noDf : Df := ⟨⟨#[]⟩, ⟨#[]⟩, false, false, ⟨#[]⟩⟩
def df0 (L : List Df) (i : Nat) : Df := L.getD i noDf
def Df.fits (x : Df) : Prop := x.el.size ≤ maxLen ∧ x.at_.size ≤ maxLen ∧ x.val.size ≤ maxLen
/-- A slice at a of just these Defs. -/
structure DfsAt (w : World) (a : Option Addr) (L : List Df) : Prop where
  row : 0 < L.length → ∃ b off, a = some ⟨b, off, none⟩ ∧ b < w.heap.size ∧ ∀ i, i < L.length → w.cell? ⟨b, off + i * 5, none⟩ = some (.string (df0 L i).el) ∧ w.cell? ⟨b, off + i * 5 + 1, none⟩ = some (.string (df0 L i).at_) ∧ w.cell? ⟨b, off + i * 5 + 2, none⟩ = some (.bool (df0 L i).id) ∧ w.cell? ⟨b, off + i * 5 + 3, none⟩ = some (.bool (df0 L i).has) ∧ w.cell? ⟨b, off + i * 5 + 4, none⟩ = some (.string (df0 L i).val)
  short : L.length ≤ maxLen
  texts : ∀ i, i < L.length → (df0 L i).fits
theorem cell_keep {w w' : World} {b o : Nat} (h : w'.heap[b]? = w.heap[b]?) : w'.cell? ⟨b, o, none⟩ = w.cell? ⟨b, o, none⟩ := World.cell?_of_block (w := w) h
theorem DfsAt.below {w w' : World} {a : Option Addr} {L : List Df} (h : DfsAt w a L) {B : Nat} (hB : w.heap.size ≤ B) (hb : Below B w w') : DfsAt w' a L :=
  ⟨fun h0 => by
    obtain ⟨b, off, ha, hlt, hc⟩ := h.row h0
    have hk := hb.block b (Nat.lt_of_lt_of_le hlt hB)
    refine ⟨b, off, ha, Nat.lt_of_lt_of_le hlt hb.size, fun i hi => ?_⟩
    rw [cell_keep hk, cell_keep hk, cell_keep hk, cell_keep hk, cell_keep hk]
    exact hc i hi, h.short, h.texts⟩
def Df.size (x : Df) : Nat := x.el.size + x.at_.size + x.val.size
def dsizeTo (L : List Df) : Nat → Nat
  | 0 => 0
  | k + 1 => dsizeTo L k + (df0 L k).size
def smallF (L : List Df) : Nat := L.length + dsizeTo L L.length
/-- The first of both. -/
def dfE (L : List Df) (e a : ByteArray) : Nat → Nat → Option Df
  | 0, _ => none
  | f + 1, k => if k < L.length then (if (df0 L k).el.toList == e.toList && (df0 L k).at_.toList == a.toList then some (df0 L k) else dfE L e a f (k + 1)) else none
def dfR (L : List Df) (e a : ByteArray) : Df × Bool := match dfE L e a (L.length + 1) 0 with | none => (noDf, false) | some x => (x, true)
theorem dfE_hit {L : List Df} {e a : ByteArray} {f k : Nat} (hf : L.length < k + f) (hk : k < L.length) (h : ((df0 L k).el.toList == e.toList && (df0 L k).at_.toList == a.toList) = true) : dfE L e a f k = some (df0 L k) := by
  cases f with
  | zero => omega
  | succ f => rw [dfE, if_pos hk, if_pos h]
theorem dfE_go {L : List Df} {e a : ByteArray} {f k : Nat} (hf : L.length < k + f) (hk : k < L.length) (h : ((df0 L k).el.toList == e.toList && (df0 L k).at_.toList == a.toList) = false) : ∃ g, dfE L e a f k = dfE L e a g (k + 1) ∧ L.length < k + 1 + g := by
  cases f with
  | zero => omega
  | succ f => exact ⟨f, by rw [dfE, if_pos hk, if_neg (by rw [h]; decide)], by omega⟩
theorem dfE_end {L : List Df} {e a : ByteArray} {f k : Nat} (hk : ¬ k < L.length) : dfE L e a f k = none := by
  cases f with
  | zero => rfl
  | succ f => rw [dfE, if_neg hk]
theorem dfR_no {L : List Df} {e a : ByteArray} (h : dfE L e a (L.length + 1) 0 = none) : dfR L e a = (noDf, false) := by unfold dfR; rw [h]
theorem dfR_yes {L : List Df} {e a : ByteArray} {x : Df} (h : dfE L e a (L.length + 1) 0 = some x) : dfR L e a = (x, true) := by unfold dfR; rw [h]
end Go.Proofs.YtdpbiaomhndpcaaDoor.heads
