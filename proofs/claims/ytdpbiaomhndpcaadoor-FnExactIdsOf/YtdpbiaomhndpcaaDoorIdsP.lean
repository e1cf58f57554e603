/-
  The Ids of a tree, plain.
-/
import Derived.Test.YtdpbiaomhndpcaaDoorTreeP
import Derived.Test.YtdpbiaomhndpcaaDoorNodeFns
import Derived.Test.YtdpbiaomhndpcaaDoorOwn
import Derived.Test.YtdpbiaomhndpcaaDoorDefP
import Derived.Test.YtdpbiaomhndpcaaDoorNames
namespace Go.Proofs.YtdpbiaomhndpcaaDoor.ids
open Go.RowKit
open trees (Tree Att tsize ksize nsz nszs kid att0)
open heads (Df dfR)
set_option linter.unusedVariables false
/-- Whether an Attr of an element of this name is an Id. -/
def idB (D : List Df) (p l : ByteArray) (x : Att) : Bool := (dfR D (names.joinR p l) (names.joinR x.pre x.loc)).2 && (dfR D (names.joinR p l) (names.joinR x.pre x.loc)).1.id
/-- Those of a row of Attrs that are Ids. -/
def pick (D : List Df) (k : Int) (p l : ByteArray) : List Att → List Att
  | [] => []
  | x :: r => (bif k == 1 && idB D p l x then [x] else []) ++ pick D k p l r
theorem pick_append (D : List Df) (k : Int) (p l : ByteArray) : ∀ (L M : List Att), pick D k p l (L ++ M) = pick D k p l L ++ pick D k p l M
  | [], _ => rfl
  | x :: L, M => by rw [List.cons_append, pick, pick, pick_append D k p l L M, List.append_assoc]
theorem pick_len (D : List Df) (k : Int) (p l : ByteArray) : ∀ L : List Att, (pick D k p l L).length ≤ L.length
  | [] => Nat.le_refl _
  | x :: L => by
    have := pick_len D k p l L
    rw [pick, List.length_append]
    cases (k == 1 && idB D p l x)
    · show 0 + _ ≤ _; simp; omega
    · show 1 + _ ≤ _; simp; omega
theorem pick_mem (D : List Df) (k : Int) (p l : ByteArray) : ∀ (L : List Att) (y : Att), y ∈ pick D k p l L → y ∈ L
  | [], y, h => h
  | x :: L, y, h => by
    rw [pick, List.mem_append] at h
    rcases h with h | h
    · cases hb : (k == 1 && idB D p l x)
      · rw [hb] at h; cases h
      · rw [hb] at h
        have : y = x := by simpa using h
        rw [this]; exact List.mem_cons_self
    · exact List.mem_cons_of_mem _ (pick_mem D k p l L y h)
mutual
def idsT (D : List Df) : Tree → List Att
  | .mk k p l _ _ _ ats ks => pick D k p l ats ++ idsTs D ks
def idsTs (D : List Df) : List Tree → List Att
  | [] => []
  | t :: ts => idsT D t ++ idsTs D ts
end
theorem idsTs_append (D : List Df) : ∀ (L M : List Tree), idsTs D (L ++ M) = idsTs D L ++ idsTs D M
  | [], _ => by rw [idsTs]; rfl
  | t :: L, M => by rw [List.cons_append, idsTs, idsTs, idsTs_append D L M, List.append_assoc]
theorem att_take {L : List Att} {i : Nat} (hi : i < L.length) : L.take (i + 1) = L.take i ++ [att0 L i] := by
  rw [List.take_succ_eq_append_getElem hi]
  congr 2
  unfold att0
  rw [List.getD_eq_getElem?_getD, List.getElem?_eq_getElem hi]
  rfl
mutual
theorem ids_len (D : List Df) : ∀ t : Tree, (idsT D t).length ≤ nsz t
  | .mk k p l u x ds ats ks => by
    rw [idsT, nsz, List.length_append]
    have h1 := pick_len D k p l ats
    have h2 := idss_len D ks
    unfold trees.smallA
    omega
theorem idss_len (D : List Df) : ∀ L : List Tree, (idsTs D L).length ≤ nszs L
  | [] => by rw [idsTs]; exact Nat.zero_le _
  | t :: ts => by
    rw [idsTs, nszs, List.length_append]
    have := ids_len D t
    have := idss_len D ts
    omega
end
/-- All Attrs of a tree have texts that fit. -/
def AllFit (L : List Att) : Prop := ∀ x ∈ L, x.fits
theorem AllFit.row {L : List Att} (h : AllFit L) (hl : L.length ≤ maxLen) : trees.AFit L := ⟨hl, fun i hi => h _ (by unfold att0; rw [List.getD_eq_getElem?_getD, List.getElem?_eq_getElem hi]; exact List.getElem_mem hi)⟩
theorem asize_at (L : List Att) : ∀ (k i : Nat), i < k → (att0 L i).size ≤ trees.asizeTo L k
  | 0, i, h => by omega
  | k + 1, i, h => by
    rw [trees.asizeTo]
    by_cases e : i = k
    · subst e; omega
    · have := asize_at L k i (by omega)
      omega
theorem asize_mem {L : List Att} {x : Att} (h : x ∈ L) : x.size ≤ trees.smallA L := by
  obtain ⟨i, hi, rfl⟩ := List.getElem_of_mem h
  have := asize_at L L.length i hi
  unfold att0 at this
  rw [List.getD_eq_getElem?_getD, List.getElem?_eq_getElem hi] at this
  unfold trees.smallA
  simp only [Option.getD_some] at this
  omega
mutual
theorem ids_size (D : List Df) : ∀ (t : Tree) (x : Att), x ∈ idsT D t → x.size ≤ nsz t
  | .mk k p l u x ds ats ks, y, h => by
    rw [idsT, List.mem_append] at h
    rw [nsz]
    rcases h with h | h
    · have := asize_mem (pick_mem D k p l ats y h)
      omega
    · have := idss_size D ks y h
      omega
theorem idss_size (D : List Df) : ∀ (L : List Tree) (x : Att), x ∈ idsTs D L → x.size ≤ nszs L
  | [], x, h => by rw [idsTs] at h; cases h
  | t :: ts, x, h => by
    rw [idsTs, List.mem_append] at h
    rw [nszs]
    rcases h with h | h
    · have := ids_size D t x h
      omega
    · have := idss_size D ts x h
      omega
end
theorem fits_of {x : Att} (h : x.size ≤ 1048576) : x.fits := by
  unfold Att.size at h
  unfold Att.fits maxLen
  omega
theorem ids_fit {D : List Df} {t : Tree} (hz : nsz t ≤ 1048576) : trees.AFit (idsT D t) := AllFit.row (fun x h => fits_of (Nat.le_trans (ids_size D t x h) hz)) (by have := ids_len D t; unfold maxLen; omega)
end Go.Proofs.YtdpbiaomhndpcaaDoor.ids
