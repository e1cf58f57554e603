/-
  What the specification's l6Open, l6Mark and MarkAt answer, plain; and what the program's way round says of the same.
-/
import Derived.Test.YtehdpkigfjjbaaaGreatDoorSpecRaw
namespace Go.Proofs.YtehdpkigfjjbaaaGreatDoor.cuts
open Go.RowKit
open names (splitT nameE)
open marks (blanksE)
open pairs (Pair at0 PairsAt)
set_option linter.unusedVariables false
/-- What an element has, from k on: its Raws, whether it is closed at once, and the place behind. -/
def openF (s : ByteArray) (L : List Pair) : Nat → Nat → List Pair → Option (List Pair × Bool × Nat)
  | 0, _, _ => none
  | f + 1, k, R =>
    if isAt s ⟨#[47, 62]⟩ (blanksE s k) = true then some (R, true, blanksE s k + 2)
    else if isAt s ⟨#[62]⟩ (blanksE s k) = true then some (R, false, blanksE s k + 1)
    else if blanksE s k = k then none
    else match rawE s (blanksE s k) L with
      | none => none
      | some (n, x, j) => openF s L f j (R ++ [(n, x)])
structure MarkV where
  kind : Int
  name : ByteArray
  raws : List Pair
  empty : Bool
  text : ByteArray
def openE (s : ByteArray) (a : Nat) (L : List Pair) : Option (MarkV × Nat) :=
  if (splitT (s.extract (a + 1) (nameE s (a + 1)))).2.2 = true then
    match openF s L (s.size + 2) (nameE s (a + 1)) [] with
    | none => none
    | some (R, b, j) => some (⟨1, s.extract (a + 1) (nameE s (a + 1)), R, b, ⟨#[]⟩⟩, j)
  else none
def upE (s t : ByteArray) (a : Nat) (k : Int) : Option (MarkV × Nat) :=
  match toI s t a with
  | none => none
  | some j => some (⟨k, ⟨#[]⟩, [], false, s.extract a j⟩, j + t.size)
def tldE (s : ByteArray) (a : Nat) : Option (MarkV × Nat) :=
  match toldE s a with
  | none => none
  | some (n, x, j) => some (⟨5, n, [], false, x⟩, j)
def closeE (s : ByteArray) (a : Nat) : Option (MarkV × Nat) :=
  if (splitT (s.extract (a + 2) (nameE s (a + 2)))).2.2 = true then
    if isAt s ⟨#[62]⟩ (blanksE s (nameE s (a + 2))) = true then some (⟨2, s.extract (a + 2) (nameE s (a + 2)), [], false, ⟨#[]⟩⟩, blanksE s (nameE s (a + 2)) + 1)
    else none
  else none
/-- The place of the next '<', or the end. -/
def tillE (s : ByteArray) (a : Nat) : Nat := match toI s ⟨#[60]⟩ a with | none => s.size | some j => j
def betweenE (s : ByteArray) (a : Nat) (L : List Pair) : Option (MarkV × Nat) :=
  if trees.hasB (s.extract a (tillE s a)) ⟨#[93, 93, 62]⟩ = false ∧ (refs.expandR (s.extract a (tillE s a)) L).2 = true then some (⟨3, ⟨#[]⟩, [], false, (refs.expandR (s.extract a (tillE s a)) L).1⟩, tillE s a)
  else none
def mNote : ByteArray := ⟨#[60, 33, 45, 45]⟩
def mCdata : ByteArray := ⟨#[60, 33, 91, 67, 68, 65, 84, 65, 91]⟩
/-- What stands there. -/
def markE (s : ByteArray) (a : Nat) (L : List Pair) : Option (MarkV × Nat) :=
  if isAt s ⟨#[60, 33, 45, 45]⟩ a = true then upE s ⟨#[45, 45, 62]⟩ (a + 4) 4
  else if isAt s ⟨#[60, 63]⟩ a = true then tldE s a
  else if isAt s ⟨#[60, 47]⟩ a = true then closeE s a
  else if isAt s ⟨#[60, 33, 91, 67, 68, 65, 84, 65, 91]⟩ a = true then upE s ⟨#[93, 93, 62]⟩ (a + 9) 3
  else if isAt s ⟨#[60]⟩ a = true then openE s a L
  else betweenE s a L
def markT (s : ByteArray) (a : Nat) (L : List Pair) : Option (MarkV × Nat) :=
  match markE s a L with
  | none => none
  | some (m, j) => if refs.textB m.text = true then some (m, j) else none
/-- What MarkAt answers: nothing, or a mark and the place behind. -/
def markR (s : ByteArray) (a : Int) (L : List Pair) : Option (MarkV × Nat) :=
  if 0 ≤ a ∧ a < s.size ∧ refs.entsB L = true then markT s a.toNat L else none
def noMark : MarkV := ⟨0, ⟨#[]⟩, [], false, ⟨#[]⟩⟩
end Go.Proofs.YtehdpkigfjjbaaaGreatDoor.cuts
