/-
  What merging keeps: the texts with a bar for each other node; none beside another; merged again it is the same.
-/
import Derived.Test.YtdpbiaomhndpcaaMergeP
namespace Go.Proofs.Ytdpbiaomhndpcaa.trees
open Go.RowKit
set_option linter.unusedVariables false
def barB : ByteArray := ⟨#[124]⟩
def addS (s : ByteArray) (t : Tree) : ByteArray := if t.kind = 2 then s ++ t.text else s ++ barB
def sepT (L : List Tree) : ByteArray := L.foldl addS ⟨#[]⟩
theorem sepT_snoc (L : List Tree) (t : Tree) : sepT (L ++ [t]) = addS (sepT L) t := by unfold sepT; rw [List.foldl_append]; rfl
theorem sepT_take {L : List Tree} {k : Nat} (h : k < L.length) : sepT (L.take (k + 1)) = addS (sepT (L.take k)) (kid L k) := by rw [kid_take h, sepT_snoc]
theorem mergeL_snoc (L : List Tree) (t : Tree) : mergeL (L ++ [t]) = addM (mergeL L) t := by unfold mergeL; rw [List.foldl_append]; rfl
theorem app_none (s : ByteArray) : s ++ (⟨#[]⟩ : ByteArray) = s := by
  apply ByteArray.ext
  simp
theorem text_with (t : Tree) (s : ByteArray) : (t.withText s).text = s := by cases t; rfl
theorem sep_add (out : List Tree) (t : Tree) : sepT (addM out t) = addS (sepT out) t := by
  by_cases h1 : t.kind = 2
  · by_cases h2 : t.text = ⟨#[]⟩
    · rw [addM_none h1 h2]
      unfold addS
      rw [if_pos h1, h2, app_none]
    · rcases List.eq_nil_or_concat out with rfl | ⟨R, y, rfl⟩
      · rw [addM_more (fun _ => ⟨h2, fun h => absurd h (by simp)⟩), sepT_snoc]
      · rw [List.concat_eq_append]
        by_cases h3 : y.kind = 2
        · rw [addM_join h1 h2 h3, sepT_snoc, sepT_snoc]
          unfold addS
          rw [if_pos h1, if_pos h3, if_pos (by rw [kind_with]; exact h3), text_with, ByteArray.append_assoc]
        · rw [addM_more (fun _ => ⟨h2, fun _ => by rw [lastM_snoc]; exact h3⟩), sepT_snoc]
  · rw [addM_more (fun h => absurd h h1), sepT_snoc]
theorem rev_ind {p : List Tree → Prop} (h0 : p []) (h1 : ∀ L t, p L → p (L ++ [t])) (L : List Tree) : p L := by
  have : ∀ n (L : List Tree), L.length = n → p L := by
    intro n
    induction n with
    | zero => intro L h; rw [List.length_eq_zero_iff.1 h]; exact h0
    | succ n ih =>
      intro L h
      rcases List.eq_nil_or_concat L with rfl | ⟨R, y, rfl⟩
      · exact h0
      · rw [List.concat_eq_append]
        exact h1 R y (ih R (by simpa using h))
  exact this _ L rfl
theorem sep_merge (L : List Tree) : sepT (mergeL L) = sepT L := by
  induction L using rev_ind with
  | h0 => rfl
  | h1 L t ih => rw [mergeL_snoc, sep_add, ih, sepT_snoc]
/-- None beside another, none empty. -/
def Alone2 (M : List Tree) : Prop := ∀ i, i < M.length → (kid M i).kind = 2 → (kid M i).text ≠ ⟨#[]⟩ ∧ (0 < i → (kid M (i - 1)).kind ≠ 2)
theorem kid_left {A : List Tree} {t : Tree} {i : Nat} (h : i < A.length) : kid (A ++ [t]) i = kid A i := by
  unfold kid
  rw [List.getD_eq_getElem?_getD, List.getD_eq_getElem?_getD, List.getElem?_append_left h]
theorem kid_last (A : List Tree) (t : Tree) : kid (A ++ [t]) A.length = t := by
  unfold kid
  rw [List.getD_eq_getElem?_getD, List.getElem?_append_right (Nat.le_refl _), Nat.sub_self]
  rfl
theorem alone_snoc {A : List Tree} {t : Tree} (h : Alone2 A) (ht : t.kind = 2 → t.text ≠ ⟨#[]⟩ ∧ (0 < A.length → (lastM A).kind ≠ 2)) : Alone2 (A ++ [t]) := by
  intro i hi hk
  rw [List.length_append, List.length_singleton] at hi
  by_cases e : i = A.length
  · subst e
    rw [kid_last] at hk ⊢
    refine ⟨(ht hk).1, fun h0 => ?_⟩
    rw [kid_left (by omega)]
    exact (ht hk).2 h0
  · have hi' : i < A.length := by omega
    rw [kid_left hi'] at hk ⊢
    refine ⟨(h i hi' hk).1, fun h0 => ?_⟩
    rw [kid_left (by omega)]
    exact (h i hi' hk).2 h0
theorem alone_init {A : List Tree} {t : Tree} (h : Alone2 (A ++ [t])) : Alone2 A := by
  intro i hi hk
  have h1 := h i (by simp; omega) (by rw [kid_left hi]; exact hk)
  rw [kid_left hi] at h1
  refine ⟨h1.1, fun h0 => ?_⟩
  have h2 := h1.2 h0
  rw [kid_left (by omega)] at h2
  exact h2
theorem app_ne {a b : ByteArray} (h : b ≠ ⟨#[]⟩) : a ++ b ≠ ⟨#[]⟩ := fun e => h (by
  have h1 : (a ++ b).size = 0 := by rw [e]; rfl
  rw [ByteArray.size_append] at h1
  obtain ⟨⟨l⟩⟩ := b
  have h2 : l.length = 0 := by
    have : (⟨⟨l⟩⟩ : ByteArray).size = l.length := rfl
    omega
  rw [List.length_eq_zero_iff.1 h2])
theorem alone_add {out : List Tree} {t : Tree} (h : Alone2 out) : Alone2 (addM out t) := by
  by_cases h1 : t.kind = 2
  · by_cases h2 : t.text = ⟨#[]⟩
    · rw [addM_none h1 h2]; exact h
    · rcases List.eq_nil_or_concat out with rfl | ⟨R, y, rfl⟩
      · rw [addM_more (fun _ => ⟨h2, fun h => absurd h (by simp)⟩)]
        exact alone_snoc h (fun _ => ⟨h2, fun h => absurd h (by simp)⟩)
      · rw [List.concat_eq_append] at h ⊢
        by_cases h3 : y.kind = 2
        · rw [addM_join h1 h2 h3]
          refine alone_snoc (alone_init h) (fun _ => ⟨by rw [text_with]; exact app_ne h2, fun h0 => ?_⟩)
          have h4 := (h R.length (by simp) (by rw [kid_last]; exact h3)).2 h0
          rw [kid_left (by omega)] at h4
          exact h4
        · rw [addM_more (fun _ => ⟨h2, fun _ => by rw [lastM_snoc]; exact h3⟩)]
          exact alone_snoc h (fun _ => ⟨h2, fun _ => by rw [lastM_snoc]; exact h3⟩)
  · rw [addM_more (fun e => absurd e h1)]
    exact alone_snoc h (fun e => absurd e h1)
theorem alone_merge (L : List Tree) : Alone2 (mergeL L) := by
  induction L using rev_ind with
  | h0 => exact fun i hi => absurd hi (by simp [mergeL])
  | h1 L t ih => rw [mergeL_snoc]; exact alone_add ih
theorem merge_alone (M : List Tree) : Alone2 M → mergeL M = M := by
  induction M using rev_ind with
  | h0 => exact fun _ => rfl
  | h1 L t ih =>
    intro h
    rw [mergeL_snoc, ih (alone_init h), addM_more]
    intro hk
    have h1 := h L.length (by simp) (by rw [kid_last]; exact hk)
    rw [kid_last] at h1
    refine ⟨h1.1, fun h0 => ?_⟩
    have h2 := h1.2 h0
    rw [kid_left (by omega)] at h2
    exact h2
theorem merge_merge (L : List Tree) : mergeL (mergeL L) = mergeL L := merge_alone _ (alone_merge L)
theorem sep_size (L : List Tree) : (sepT L).size ≤ nszs L := by
  induction L using rev_ind with
  | h0 => exact Nat.zero_le _
  | h1 L t ih =>
    rw [sepT_snoc, nszs_append, nszs_one]
    have h1 := text_nsz t
    unfold addS
    by_cases h : t.kind = 2
    · rw [if_pos h, ByteArray.size_append]; omega
    · rw [if_neg h, ByteArray.size_append]
      have : barB.size = 1 := rfl
      omega
theorem sep_take_size (L : List Tree) (k : Nat) : (sepT (L.take k)).size ≤ nszs L := by
  have h := sep_size (L.take k)
  have e := nszs_append (L.take k) (L.drop k)
  rw [List.take_append_drop] at e
  omega
end Go.Proofs.Ytdpbiaomhndpcaa.trees
