/-
  A tree whose every field is a mark: plain.
-/
import Derived.Test.YtpejcblmglbjfaaOwn
import Derived.Test.YtpejcblmglbjfaaNodeFns
import Derived.Test.YtpejcblmglbjfaaPairMarksDecl
namespace Go.Proofs.Ytpejcblmglbjfaa.trees
open Go.RowKit
open pairs (Pair at0 PairsAt marksL)
open marks (markT)
set_option linter.unusedVariables false
def marksA (k n : Nat) : List Att := (List.range n).map fun i => ⟨markT (k + 4 * i), markT (k + 4 * i + 1), markT (k + 4 * i + 2), markT (k + 4 * i + 3)⟩
theorem marksA_len (k n : Nat) : (marksA k n).length = n := by simp [marksA]
theorem marksA_at (k n i : Nat) (hi : i < n) : att0 (marksA k n) i = ⟨markT (k + 4 * i), markT (k + 4 * i + 1), markT (k + 4 * i + 2), markT (k + 4 * i + 3)⟩ := by simp [marksA, att0, List.getD, hi]
mutual
/-- How many marks a node takes. -/
def cntM : Tree → Nat
  | .mk _ _ _ _ _ ds ats ks => 5 + 2 * ds.length + 4 * ats.length + cntMs ks
def cntMs : List Tree → Nat
  | [] => 0
  | t :: ts => cntM t + cntMs ts
end
mutual
def mkT : Tree → Nat → Tree
  | .mk _ _ _ _ _ ds ats ks, m => .mk m (markT (m + 1)) (markT (m + 2)) (markT (m + 3)) (markT (m + 4 + 2 * ds.length + 4 * ats.length + cntMs ks)) (marksL (m + 4) ds.length) (marksA (m + 4 + 2 * ds.length) ats.length) (mkTs ks (m + 4 + 2 * ds.length + 4 * ats.length))
def mkTs : List Tree → Nat → List Tree
  | [], _ => []
  | t :: ts, m => mkT t m :: mkTs ts (m + cntM t)
end
def cntMTo (L : List Tree) : Nat → Nat
  | 0 => 0
  | i + 1 => cntMTo L i + cntM (kid L i)
theorem cntMTo_cons (t : Tree) (ts : List Tree) : ∀ k, cntMTo (t :: ts) (k + 1) = cntM t + cntMTo ts k
  | 0 => by show 0 + cntM t = cntM t + 0; omega
  | k + 1 => by
    rw [cntMTo, cntMTo_cons t ts k, cntMTo]
    show _ + cntM (kid ts k) = _
    omega
theorem cntMs_eq : ∀ L : List Tree, cntMs L = cntMTo L L.length
  | [] => by rw [cntMs]; rfl
  | t :: ts => by rw [cntMs, cntMs_eq ts, List.length_cons, cntMTo_cons]
theorem cntMTo_mono (L : List Tree) {i : Nat} : ∀ {j : Nat}, i ≤ j → cntMTo L i ≤ cntMTo L j
  | 0, h => by rw [show i = 0 by omega]; exact Nat.le_refl _
  | j + 1, h => by
    by_cases e : i = j + 1
    · rw [e]; exact Nat.le_refl _
    · have := cntMTo_mono L (i := i) (j := j) (by omega)
      rw [cntMTo]; omega
theorem mkTs_len : ∀ (L : List Tree) (m : Nat), (mkTs L m).length = L.length
  | [], m => by rw [mkTs]
  | t :: ts, m => by rw [mkTs, List.length_cons, List.length_cons, mkTs_len ts]
theorem mkTs_at : ∀ (L : List Tree) (m i : Nat), i < L.length → kid (mkTs L m) i = mkT (kid L i) (m + cntMTo L i)
  | [], m, i, h => by cases h
  | t :: ts, m, 0, h => by rw [mkTs]; show mkT t m = mkT t (m + 0); rfl
  | t :: ts, m, i + 1, h => by
    rw [mkTs]
    show kid (mkTs ts (m + cntM t)) i = mkT (kid ts i) _
    rw [mkTs_at ts _ i (by simpa using h), cntMTo_cons, Nat.add_assoc]
mutual
theorem cntM_le : ∀ t : Tree, cntM t ≤ 5 + 9 * nsz t
  | .mk k p l u x ds ats ks => by
    have h := cntMs_le ks
    rw [cntM, nsz]
    unfold smallA
    omega
theorem cntMs_le : ∀ L : List Tree, cntMs L ≤ 9 * nszs L
  | [] => by rw [cntMs, nszs]; omega
  | t :: ts => by
    have h1 := cntM_le t
    have h2 := cntMs_le ts
    rw [cntMs, nszs]
    omega
end
end Go.Proofs.Ytpejcblmglbjfaa.trees
