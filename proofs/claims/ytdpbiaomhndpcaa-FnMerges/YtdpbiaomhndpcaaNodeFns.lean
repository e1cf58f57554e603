/-
  The laws' own helpers on nodes: how great they are.
-/
import Derived.Test.YtdpbiaomhndpcaaAttFns
import Derived.Test.YtdpbiaomhndpcaaPairDecl
namespace Go.Proofs.Ytdpbiaomhndpcaa.trees
open Go.ChangeShapes Go.WideShapes Go.ChangeAt Go.RowKit
open pairs (Pair at0 PairsAt)
set_option linter.unusedVariables false
/-! ### How great -/
mutual
def nsz : Tree → Nat
  | .mk _ p l u x ds ats ks => p.size + l.size + u.size + (ds.length + pairs.sizeTo ds ds.length) + smallA ats + nszs ks + x.size
def nszs : List Tree → Nat
  | [] => 0
  | t :: ts => 1 + nsz t + nszs ts
end
def nszTo (L : List Tree) : Nat → Nat
  | 0 => 0
  | k + 1 => nszTo L k + nsz (kid L k)
theorem nszTo_cons (t : Tree) (ts : List Tree) : ∀ k, nszTo (t :: ts) (k + 1) = nsz t + nszTo ts k
  | 0 => by simp [nszTo, kid]
  | k + 1 => by
    rw [nszTo, nszTo_cons t ts k, nszTo]
    show _ + nsz (kid ts k) = _
    omega
theorem nszs_eq : ∀ L : List Tree, nszs L = L.length + nszTo L L.length
  | [] => by simp [nszs, nszTo]
  | t :: ts => by
    rw [nszs, nszs_eq ts, List.length_cons, nszTo_cons]
    omega
theorem nszTo_kid (L : List Tree) : ∀ {k i : Nat}, i < k → nsz (kid L i) ≤ nszTo L k
  | 0, i, h => by omega
  | k + 1, i, h => by
    rw [nszTo]
    by_cases e : i = k
    · rw [e]; omega
    · have := nszTo_kid L (k := k) (i := i) (by omega)
      omega
theorem nsz_kid (L : List Tree) (k : Nat) (h : k < L.length) : nsz (kid L k) ≤ nszs L := by
  have := nszTo_kid L h
  rw [nszs_eq]
  omega
/-! ### A struct's box -/
theorem box8 {w : World} {b : Nat} {t : TypeId} {c0 c1 c2 c3 c4 c5 c6 c7 : Value} (h : w.heap[b]? = some (.cells #[c0, c1, c2, c3, c4, c5, c6, c7] t (0, 0))) :
    w.cell? ⟨b, 0, none⟩ = some c0 ∧ w.cell? ⟨b, 1, none⟩ = some c1 ∧ w.cell? ⟨b, 2, none⟩ = some c2 ∧ w.cell? ⟨b, 3, none⟩ = some c3 ∧ w.cell? ⟨b, 4, none⟩ = some c4 ∧ w.cell? ⟨b, 5, none⟩ = some c5 ∧ w.cell? ⟨b, 6, none⟩ = some c6 ∧ w.cell? ⟨b, 7, none⟩ = some c7 := by
  simp [World.cell?, h]
theorem box_kept {w w' : World} {o : Obj} (hb : Below (w.alloc o).heap.size (w.alloc o) w') : w'.heap[w.heap.size]? = some o := (hb.block w.heap.size (by simp)).trans (heap_alloc_new w _)
theorem box_under {w w' : World} {o : Obj} (hb : Below (w.alloc o).heap.size (w.alloc o) w') : Below w.heap.size w w' := ((Below.refl _ _).alloc (Nat.le_refl _) o).trans (hb.mono (by simp))
end Go.Proofs.Ytdpbiaomhndpcaa.trees
