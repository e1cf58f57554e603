/-
  All paths of a tree, plain.
-/
import Derived.Test.YtpejcblmglbjfaaPathP
namespace Go.Proofs.Ytpejcblmglbjfaa.places
open trees (Tree Hdr noTree kid nsz nszs tsize ksize)
open ints (int0 okI IFit)
set_option linter.unusedVariables false
mutual
/-- The paths of a tree that stands at one: its own, then those of its Kids. -/
def pathsT (at' : List Int) : Tree → List (List Int)
  | .mk _ _ _ _ _ _ _ ks => at' :: pathsTs at' 0 ks
def pathsTs (at' : List Int) (i : Nat) : List Tree → List (List Int)
  | [] => []
  | x :: r => pathsT (at' ++ [(i : Int)]) x ++ pathsTs at' (i + 1) r
end
mutual
/-- How many numbers these paths have. -/
def numsT (d : Nat) : Tree → Nat
  | .mk _ _ _ _ _ _ _ ks => d + numsTs (d + 1) ks
def numsTs (d : Nat) : List Tree → Nat
  | [] => 0
  | x :: r => numsT d x + numsTs d r
end
theorem paths_eq (p : List Int) (t : Tree) : pathsT p t = p :: pathsTs p 0 t.kids := by cases t; rw [pathsT]; rfl
theorem nums_eq (d : Nat) (t : Tree) : numsT d t = d + numsTs (d + 1) t.kids := by cases t; rw [numsT]; rfl
theorem nsz_eq (t : Tree) : nszs t.kids ≤ nsz t := by cases t; rw [nsz]; simp only [Tree.kids]; omega
theorem paths_snoc (p : List Int) (y : Tree) : ∀ (L : List Tree) (i : Nat), pathsTs p i (L ++ [y]) = pathsTs p i L ++ pathsT (p ++ [((i + L.length : Nat) : Int)]) y
  | [], i => by rw [List.nil_append, pathsTs, pathsTs, pathsTs, List.append_nil, List.nil_append]; rfl
  | x :: L, i => by
    rw [List.cons_append, pathsTs, paths_snoc p y L (i + 1), pathsTs, List.append_assoc, List.length_cons, show i + 1 + L.length = i + (L.length + 1) by omega]
theorem nsz_kid1 : ∀ (L : List Tree) (i : Nat), i < L.length → 1 + nsz (kid L i) ≤ nszs L
  | [], i, h => by simp at h
  | t :: ts, 0, _ => by rw [nszs]; show 1 + nsz t ≤ _; omega
  | t :: ts, i + 1, h => by
    have := nsz_kid1 ts i (by simpa using h)
    rw [nszs]
    show 1 + nsz (kid ts i) ≤ _
    omega
theorem pathss_append (p : List Int) : ∀ (L M : List Tree) (i : Nat), pathsTs p i (L ++ M) = pathsTs p i L ++ pathsTs p (i + L.length) M
  | [], M, i => by rw [List.nil_append, pathsTs, List.nil_append]; rfl
  | x :: L, M, i => by rw [List.cons_append, pathsTs, pathss_append p L M (i + 1), pathsTs, List.append_assoc, List.length_cons, show i + 1 + L.length = i + (L.length + 1) by omega]
theorem pathss_mono (p : List Int) (L : List Tree) (n : Nat) : (pathsTs p 0 (L.take n)).length ≤ (pathsTs p 0 L).length := by
  have h := pathss_append p (L.take n) (L.drop n) 0
  rw [List.take_append_drop] at h
  rw [h, List.length_append]
  omega
theorem kid_take {L : List Tree} {i : Nat} (h : i < L.length) : L.take (i + 1) = L.take i ++ [kid L i] := by
  rw [List.take_add_one, List.getElem?_eq_getElem h]
  unfold kid
  simp [List.getD, h]
theorem paths_next (p : List Int) {L : List Tree} {i : Nat} (h : i < L.length) : pathsTs p 0 (L.take (i + 1)) = pathsTs p 0 (L.take i) ++ pathsT (p ++ [(i : Int)]) (kid L i) := by
  rw [kid_take h, paths_snoc, List.length_take, Nat.min_eq_left (by omega), Nat.zero_add]
theorem nums_snoc (d : Nat) (y : Tree) : ∀ (L : List Tree), numsTs d (L ++ [y]) = numsTs d L + numsT d y
  | [] => by rw [List.nil_append, numsTs, numsTs, numsTs]; omega
  | x :: L => by rw [List.cons_append, numsTs, nums_snoc d y L, numsTs]; omega
theorem nums_next (d : Nat) {L : List Tree} {i : Nat} (h : i < L.length) : numsTs d (L.take (i + 1)) = numsTs d (L.take i) + numsT d (kid L i) := by
  rw [kid_take h, nums_snoc]
theorem nums_append (d : Nat) : ∀ (L M : List Tree), numsTs d (L ++ M) = numsTs d L + numsTs d M
  | [], M => by rw [List.nil_append, numsTs]; omega
  | x :: L, M => by rw [List.cons_append, numsTs, nums_append d L M, numsTs]; omega
theorem nums_take (d : Nat) (L : List Tree) (i : Nat) : numsTs d (L.take i) ≤ numsTs d L := by
  have h := nums_append d (L.take i) (L.drop i)
  rw [List.take_append_drop] at h
  omega
mutual
theorem paths_len : ∀ (p : List Int) (t : Tree), (pathsT p t).length ≤ 1 + nsz t
  | p, .mk a b c d e f g ks => by
    have h := pathss_len p 0 ks
    have h2 := nsz_eq (.mk a b c d e f g ks)
    rw [pathsT, List.length_cons]
    simp only [Tree.kids] at h2
    omega
theorem pathss_len : ∀ (p : List Int) (i : Nat) (L : List Tree), (pathsTs p i L).length ≤ nszs L
  | p, i, [] => by rw [pathsTs]; exact Nat.zero_le _
  | p, i, x :: L => by
    have h1 := paths_len (p ++ [(i : Int)]) x
    have h2 := pathss_len p (i + 1) L
    rw [pathsTs, List.length_append, nszs]
    omega
end
theorem nszs_take : ∀ (L : List Tree) (k : Nat), k < L.length → nszs (L.take k) + 1 + nsz (kid L k) ≤ nszs L
  | [], k, h => by simp at h
  | x :: L, 0, _ => by rw [List.take_zero, nszs, nszs]; show 0 + 1 + nsz x ≤ _; omega
  | x :: L, k + 1, h => by
    have := nszs_take L k (by simpa using h)
    rw [List.take_succ_cons, nszs, nszs]
    show _ + 1 + nsz (kid L k) ≤ _
    omega
theorem pathss_room (p : List Int) {L : List Tree} {k : Nat} (h : k < L.length) : (pathsTs p 0 (L.take k)).length + 1 + nsz (kid L k) ≤ nszs L := by
  have h1 := pathss_len p 0 (L.take k)
  have h2 := nszs_take L k h
  omega
mutual
theorem flat_len : ∀ (p : List Int) (t : Tree), (pathsT p t).flatten.length = numsT p.length t
  | p, .mk a b c d e f g ks => by
    rw [pathsT, List.flatten_cons, List.length_append, flats_len p 0 ks, numsT]
theorem flats_len : ∀ (p : List Int) (i : Nat) (L : List Tree), (pathsTs p i L).flatten.length = numsTs (p.length + 1) L
  | p, i, [] => by rw [pathsTs, numsTs]; rfl
  | p, i, x :: L => by
    rw [pathsTs, List.flatten_append, List.length_append, flat_len, flats_len p (i + 1) L, numsTs, List.length_append]
    rfl
end
mutual
theorem nums_le : ∀ (d : Nat) (t : Tree), numsT d t ≤ (1 + nsz t) * (d + nsz t)
  | d, .mk a b c e f g h ks => by
    have h1 := numss_le (d + 1) ks
    have h2 := nsz_eq (.mk a b c e f g h ks)
    simp only [Tree.kids] at h2
    rw [numsT]
    generalize nsz (.mk a b c e f g h ks) = n at h2 ⊢
    have h3 : nszs ks * (d + 1 + nszs ks) ≤ n * (d + 1 + n) := Nat.mul_le_mul h2 (by omega)
    have h4 : (1 + n) * (d + n) = d + n * (d + 1 + n) := by rw [Nat.add_mul, Nat.one_mul, show d + 1 + n = d + n + 1 by omega, Nat.mul_succ]; omega
    omega
theorem numss_le : ∀ (d : Nat) (L : List Tree), numsTs d L ≤ nszs L * (d + nszs L)
  | d, [] => by rw [numsTs]; exact Nat.zero_le _
  | d, x :: L => by
    have h1 := nums_le d x
    have h2 := numss_le d L
    rw [numsTs, nszs, Nat.add_mul]
    have h3 : (1 + nsz x) * (d + nsz x) ≤ (1 + nsz x) * (d + (1 + nsz x + nszs L)) := Nat.mul_le_mul_left _ (by omega)
    have h4 : nszs L * (d + nszs L) ≤ nszs L * (d + (1 + nsz x + nszs L)) := Nat.mul_le_mul_left _ (by omega)
    omega
end
/-- All these paths fit. -/
def PFit (p : List Int) : Prop := p.length ≤ 1048576 ∧ ∀ x, x ∈ p → okI x
mutual
theorem paths_fit : ∀ (m : Nat) (p : List Int) (t : Tree), p.length + nsz t ≤ 1048576 → 0 ≤ m → PFit p → ∀ q, q ∈ pathsT p t → PFit q
  | m, p, .mk a b c d e f g ks, h, hm, hp, q, hq => by
    have h2 := nsz_eq (.mk a b c d e f g ks)
    simp only [Tree.kids] at h2
    rw [pathsT, List.mem_cons] at hq
    rcases hq with rfl | hq
    · exact hp
    · exact pathss_fit m p 0 ks (by omega) (by omega) hm hp q hq
theorem pathss_fit : ∀ (m : Nat) (p : List Int) (i : Nat) (L : List Tree), p.length + nszs L ≤ 1048576 → i + nszs L ≤ 1048577 → 0 ≤ m → PFit p → ∀ q, q ∈ pathsTs p i L → PFit q
  | m, p, i, [], _, _, _, _, q, hq => by rw [pathsTs] at hq; cases hq
  | m, p, i, x :: L, h, hi, hm, hp, q, hq => by
    rw [nszs] at h hi
    rw [pathsTs, List.mem_append] at hq
    rcases hq with hq | hq
    · refine paths_fit m (p ++ [(i : Int)]) x (by rw [List.length_append]; simp only [List.length_cons, List.length_nil]; omega) hm ⟨by rw [List.length_append]; simp only [List.length_cons, List.length_nil]; omega, fun y hy => ?_⟩ q hq
      rw [List.mem_append] at hy
      rcases hy with hy | hy
      · exact hp.2 y hy
      · have : y = (i : Int) := by simpa using hy
        subst this
        exact ⟨by omega, by omega⟩
    · exact pathss_fit m p (i + 1) L (by omega) (by omega) hm hp q hq
end
end Go.Proofs.Ytpejcblmglbjfaa.places
