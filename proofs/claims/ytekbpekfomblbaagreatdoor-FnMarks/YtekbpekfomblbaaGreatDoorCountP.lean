/-
  How many nodes there are: plain, and the specification's CountOf.
-/
import Derived.Test.YtekbpekfomblbaaGreatDoorNodeFns
namespace Go.Proofs.YtekbpekfomblbaaGreatDoor.trees
open Go.ChangeShapes Go.WideShapes Go.ChangeAt Go.RowKit
open pairs (Pair at0 PairsAt)
set_option linter.unusedVariables false
mutual
def cnt : Tree → Nat
  | .mk _ _ _ _ _ _ ats ks => 1 + ats.length + cnts ks
def cnts : List Tree → Nat
  | [] => 0
  | t :: ts => cnt t + cnts ts
end
def cntTo (L : List Tree) : Nat → Nat
  | 0 => 0
  | k + 1 => cntTo L k + cnt (kid L k)
theorem cntTo_cons (t : Tree) (ts : List Tree) : ∀ k, cntTo (t :: ts) (k + 1) = cnt t + cntTo ts k
  | 0 => by simp [cntTo, kid]
  | k + 1 => by
    rw [cntTo, cntTo_cons t ts k, cntTo]
    show _ + cnt (kid ts k) = _
    omega
theorem cnts_eq : ∀ L : List Tree, cnts L = cntTo L L.length
  | [] => by simp [cnts, cntTo]
  | t :: ts => by rw [cnts, cnts_eq ts, List.length_cons, cntTo_cons]
mutual
theorem cnt_le : ∀ t : Tree, cnt t ≤ 1 + nsz t
  | .mk _ p l u x ds ats ks => by
    rw [cnt, nsz]
    have := cnts_le ks
    unfold smallA
    omega
theorem cnts_le : ∀ L : List Tree, cnts L ≤ nszs L
  | [] => by rw [cnts, nszs]; exact Nat.le_refl _
  | t :: ts => by
    rw [cnts, nszs]
    have h1 := cnt_le t
    have h2 := cnts_le ts
    omega
end
theorem cntTo_mono (L : List Tree) : ∀ {i k : Nat}, i ≤ k → cntTo L i ≤ cntTo L k
  | i, 0, h => by rw [show i = 0 by omega]; exact Nat.le_refl _
  | i, k + 1, h => by
    by_cases e : i = k + 1
    · rw [e]; exact Nat.le_refl _
    · have := cntTo_mono L (i := i) (k := k) (by omega)
      rw [cntTo]
      omega
theorem ret_int {a b : Int} (h : a = b) : Ending.returned (.int .i64 a) = .returned (.int .i64 b) := by rw [h]
end Go.Proofs.YtekbpekfomblbaaGreatDoor.trees
