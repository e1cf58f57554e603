/-
  Paths, plain: what stands at one.
-/
import Derived.Test.YtpejcblmglbjfaaPathQ
import Derived.Test.YtpejcblmglbjfaaNodeFns
namespace Go.Proofs.Ytpejcblmglbjfaa.paths
open Go.ChangeShapes Go.WideShapes Go.ChangeAt Go.RowKit
open trees (Tree Hdr noTree kid nsz nszs tsize ksize)
open ints (IntsAt int0 okI)
set_option linter.unusedVariables false
/-- The Kid of a number. -/
def stepT (t : Tree) (i : Int) : Option Tree := if 0 ≤ i ∧ i < t.kids.length then some (kid t.kids i.toNat) else none
def atT : Tree → List Int → Option Tree
  | t, [] => some t
  | t, i :: p => (stepT t i).bind fun x => atT x p
/-- What NodeAt answers. -/
def atR (t : Tree) (p : List Int) : Tree × Bool := match atT t p with | some x => (x, true) | none => (noTree, false)
theorem at_append : ∀ (p q : List Int) (t : Tree), atT t (p ++ q) = (atT t p).bind fun x => atT x q
  | [], q, t => rfl
  | i :: p, q, t => by
    show (stepT t i).bind (fun x => atT x (p ++ q)) = ((stepT t i).bind fun x => atT x p).bind fun x => atT x q
    cases stepT t i with
    | none => rfl
    | some y => exact at_append p q y
theorem at_one (t : Tree) (i : Int) : atT t [i] = stepT t i := by
  show (stepT t i).bind (fun x => some x) = stepT t i
  cases stepT t i <;> rfl
theorem at_next {t x : Tree} {P : List Int} {k : Nat} (hk : k < P.length) (h : atT t (P.take k) = some x) : atT t (P.take (k + 1)) = stepT x (int0 P k) := by
  rw [take_next hk, at_append, h]
  exact at_one x _
theorem at_stop {t x : Tree} {P : List Int} {k : Nat} (hk : k < P.length) (h : atT t (P.take k) = some x) (hs : stepT x (int0 P k) = none) : atT t P = none := by
  have h1 := at_next hk h
  rw [hs] at h1
  have h2 := at_append (P.take (k + 1)) (P.drop (k + 1)) t
  rw [List.take_append_drop, h1] at h2
  exact h2
theorem step_some {t x : Tree} {i : Int} (h : stepT t i = some x) : (0 ≤ i ∧ i < t.kids.length) ∧ x = kid t.kids i.toNat := by
  unfold stepT at h
  split at h
  · rename_i hc
    exact ⟨hc, (Option.some.inj h).symm⟩
  · cases h
theorem step_no {t : Tree} {i : Int} (h : ¬ (0 ≤ i ∧ i < t.kids.length)) : stepT t i = none := if_neg h
theorem step_yes {t : Tree} {i : Int} (h : 0 ≤ i ∧ i < t.kids.length) : stepT t i = some (kid t.kids i.toNat) := if_pos h
theorem at_nsz : ∀ (p : List Int) (t x : Tree), atT t p = some x → nsz x ≤ nsz t
  | [], t, x, h => by
    obtain rfl : t = x := Option.some.inj h
    exact Nat.le_refl _
  | i :: p, t, x, h => by
    unfold atT at h
    cases hs : stepT t i with
    | none => rw [hs] at h; cases h
    | some y =>
      rw [hs] at h
      have h1 := at_nsz p y x h
      obtain ⟨hi, rfl⟩ := step_some hs
      have h2 := trees.nsz_kid t.kids i.toNat (by omega)
      have h3 : nszs t.kids ≤ nsz t := by cases t; rw [nsz]; simp only [trees.Tree.kids]; omega
      omega
theorem atR_nsz {t x : Tree} {P : List Int} {ok : Bool} (h : atR t P = (x, ok)) : nsz x ≤ nsz t := by
  unfold atR at h
  cases hs : atT t P with
  | some y =>
    rw [hs] at h
    obtain ⟨rfl, rfl⟩ := Prod.mk.inj h
    exact at_nsz P t y hs
  | none =>
    rw [hs] at h
    obtain ⟨rfl, rfl⟩ := Prod.mk.inj h
    have : nsz noTree = 0 := by decide
    omega
end Go.Proofs.Ytpejcblmglbjfaa.paths
