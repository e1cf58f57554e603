/-
  Trees that are turned at a place, plain.
-/
import Derived.Test.YtpejcblmglbjfaaPathP
import Derived.Test.YtpejcblmglbjfaaMergeP
namespace Go.Proofs.Ytpejcblmglbjfaa.paths
open Go.ChangeShapes Go.WideShapes Go.ChangeAt Go.RowKit
open trees (Tree Hdr noTree kid nsz nszs tsize ksize mergeL addM lastM nszs_append nszs_one)
open ints (IntsAt int0 okI)
set_option linter.unusedVariables false
def withKids (t : Tree) (L : List Tree) : Tree := .mk t.kind t.pre t.loc t.uri t.text t.ds t.ats L
def cutIn (K : List Tree) (f g : Nat) (L : List Tree) : List Tree := K.take f ++ L ++ K.drop g
/-- t, with L in the place of the Kids f .. g of what stands at a path, merged there. -/
def putT : Tree → List Int → Nat → Nat → List Tree → Tree
  | t, [], f, g, L => withKids t (mergeL (cutIn t.kids f g L))
  | t, i :: p, f, g, L => withKids t (t.kids.set i.toNat (putT (kid t.kids i.toNat) p f g L))
/-- What PutAt answers. -/
def putR (t : Tree) (P : List Int) (L : List Tree) : Tree × Bool :=
  if P.length = 0 then (t, false) else match atT t P with
    | none => (t, false)
    | some _ => (putT t (P.take (P.length - 1)) (int0 P (P.length - 1)).toNat ((int0 P (P.length - 1)).toNat + 1) L, true)
/-- What InsertAt answers. -/
def insR (t : Tree) (P : List Int) (i : Int) (L : List Tree) : Tree × Bool :=
  match atT t P with
    | none => (t, false)
    | some x => if (x.kind = 1 ∨ x.kind = 0) ∧ 0 ≤ i ∧ i ≤ x.kids.length then (putT t P i.toNat i.toNat L, true) else (t, false)
theorem nsz_kids (t : Tree) (M : List Tree) : nsz (withKids t M) + nszs t.kids = nsz t + nszs M := by
  cases t
  show nsz (.mk _ _ _ _ _ _ _ M) + _ = _
  rw [nsz, nsz]
  simp only [Tree.kids, Tree.pre, Tree.loc, Tree.uri, Tree.text, Tree.ds, Tree.ats]
  omega
theorem kids_nsz (t : Tree) : nszs t.kids ≤ nsz t := by cases t; rw [nsz]; simp only [Tree.kids]; omega
theorem nszs_takes (L : List Tree) (k : Nat) : nszs (L.take k) + nszs (L.drop k) = nszs L := by
  rw [← nszs_append, List.take_append_drop]
theorem nszs_drops (L : List Tree) {f g : Nat} (h : f ≤ g) : nszs (L.drop g) ≤ nszs (L.drop f) := by
  have := nszs_takes (L.drop f) (g - f)
  rw [List.drop_drop, show f + (g - f) = g by omega] at this
  omega
theorem nszs_cut (K : List Tree) {f g : Nat} (h : f ≤ g) (L : List Tree) : nszs (cutIn K f g L) ≤ nszs K + nszs L := by
  unfold cutIn
  rw [nszs_append, nszs_append]
  have := nszs_takes K f
  have := nszs_drops K h
  omega
theorem nszs_last {out : List Tree} (h : 0 < out.length) : nszs out = nszs (out.take (out.length - 1)) + (1 + nsz (lastM out)) := by
  have e : out.take (out.length - 1) ++ [lastM out] = out := by
    have := trees.kid_take (L := out) (i := out.length - 1) (by omega)
    rw [show out.length - 1 + 1 = out.length by omega, List.take_length] at this
    exact this.symm
  conv => lhs; rw [← e]
  rw [nszs_append, nszs_one]
theorem nszs_add (out : List Tree) (t : Tree) : nszs (addM out t) ≤ nszs out + (1 + nsz t) := by
  unfold addM
  split
  · omega
  · split
    · rename_i h
      rw [nszs_append, nszs_one, trees.nsz_with, nszs_last h.2.1]
      have := trees.text_nsz t
      omega
    · rw [nszs_append, nszs_one]
      exact Nat.le_refl _
theorem nszs_fold : ∀ (L out : List Tree), nszs (L.foldl addM out) ≤ nszs out + nszs L
  | [], out => by show nszs out ≤ _; omega
  | t :: L, out => by
    have h1 := nszs_fold L (addM out t)
    have h2 := nszs_add out t
    rw [List.foldl_cons, show nszs (t :: L) = 1 + nsz t + nszs L by rw [nszs]]
    omega
theorem nszs_merge (L : List Tree) : nszs (mergeL L) ≤ nszs L := by
  have := nszs_fold L []
  rw [show nszs [] = 0 by rw [nszs]] at this
  unfold mergeL
  omega
theorem nszs_set : ∀ (L : List Tree) (i : Nat) (y : Tree), i < L.length → nszs (L.set i y) + nsz (kid L i) = nszs L + nsz y
  | [], i, y, h => by simp at h
  | t :: L, 0, y, h => by
    show nszs (y :: L) + nsz t = _
    rw [nszs, nszs]
    omega
  | t :: L, i + 1, y, h => by
    show nszs (t :: L.set i y) + nsz (kid L i) = _
    have := nszs_set L i y (by simpa using h)
    rw [nszs, nszs]
    omega
theorem nsz_put : ∀ (P : List Int) (t x : Tree) (f g : Nat) (L : List Tree), atT t P = some x → f ≤ g → nsz (putT t P f g L) ≤ nsz t + nszs L
  | [], t, x, f, g, L, h, hfg => by
    show nsz (withKids t _) ≤ _
    have h1 := nsz_kids t (mergeL (cutIn t.kids f g L))
    have h2 := nszs_merge (cutIn t.kids f g L)
    have h3 := nszs_cut t.kids hfg L
    omega
  | i :: p, t, x, f, g, L, h, hfg => by
    unfold atT at h
    cases hs : stepT t i with
    | none => rw [hs] at h; cases h
    | some y =>
      rw [hs] at h
      obtain ⟨hi, rfl⟩ := step_some hs
      have ih := nsz_put p _ x f g L h hfg
      show nsz (withKids t _) ≤ _
      have h1 := nsz_kids t (t.kids.set i.toNat (putT (kid t.kids i.toNat) p f g L))
      have h2 := nszs_set t.kids i.toNat (putT (kid t.kids i.toNat) p f g L) (by omega)
      omega
theorem at_some_take {t x : Tree} {P : List Int} (k : Nat) (h : atT t P = some x) : ∃ y, atT t (P.take k) = some y ∧ atT y (P.drop k) = some x := by
  have := at_append (P.take k) (P.drop k) t
  rw [List.take_append_drop, h] at this
  cases hy : atT t (P.take k) with
  | none => rw [hy] at this; cases this
  | some y => rw [hy] at this; exact ⟨y, rfl, this.symm⟩
/-- The last number of a path that leads to something. -/
theorem at_last {t x : Tree} {P : List Int} (h0 : 0 < P.length) (h : atT t P = some x) : ∃ y, atT t (P.take (P.length - 1)) = some y ∧ 0 ≤ int0 P (P.length - 1) ∧ int0 P (P.length - 1) < y.kids.length := by
  obtain ⟨y, hy, hx⟩ := at_some_take (P.length - 1) h
  have hn := at_next (k := P.length - 1) (by omega) hy
  rw [show P.length - 1 + 1 = P.length by omega, List.take_length, h] at hn
  exact ⟨y, hy, (step_some hn.symm).1⟩
theorem put_nsz {t r : Tree} {P : List Int} {L : List Tree} {ok : Bool} (hz : nsz t + nszs L ≤ 1048576) (h : putR t P L = (r, ok)) : nsz r ≤ 1048576 := by
  unfold putR at h
  split at h
  · obtain ⟨rfl, rfl⟩ := Prod.mk.inj h; omega
  · rename_i h0
    split at h
    · obtain ⟨rfl, rfl⟩ := Prod.mk.inj h; omega
    · rename_i x hx
      obtain ⟨rfl, rfl⟩ := Prod.mk.inj h
      obtain ⟨y, hy, _⟩ := at_last (by omega) hx
      have := nsz_put _ t y (int0 P (P.length - 1)).toNat ((int0 P (P.length - 1)).toNat + 1) L hy (by omega)
      omega
theorem ins_nsz {t r : Tree} {P : List Int} {i : Int} {L : List Tree} {ok : Bool} (hz : nsz t + nszs L ≤ 1048576) (h : insR t P i L = (r, ok)) : nsz r ≤ 1048576 := by
  unfold insR at h
  split at h
  · obtain ⟨rfl, rfl⟩ := Prod.mk.inj h; omega
  · rename_i x hx
    split at h
    · obtain ⟨rfl, rfl⟩ := Prod.mk.inj h
      have := nsz_put _ t x i.toNat i.toNat L hx (by omega)
      omega
    · obtain ⟨rfl, rfl⟩ := Prod.mk.inj h; omega
end Go.Proofs.Ytpejcblmglbjfaa.paths
