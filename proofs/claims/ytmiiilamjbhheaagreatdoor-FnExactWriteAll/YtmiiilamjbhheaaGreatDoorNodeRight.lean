/-
  Which nodes are right: plain, as the specification has it and as the program has it.
-/
import Derived.Test.YtmiiilamjbhheaaGreatDoorSpecNode5
namespace Go.Proofs.YtmiiilamjbhheaaGreatDoor.trees
open Go.RowKit
open pairs (Pair at0 PairsAt)
open scopes (xmlB textB declsB)
set_option linter.unusedVariables false
def oneB (t : Tree) : Bool := bif t.kind == 1 then elOneB t else bif t.kind == 2 then textOneB t else bif t.kind == 3 then noteOneB t else bif t.kind == 4 then toldOneB t else false
/-! ### Texts beside each other -/
def meetAt (L : List Tree) (i : Nat) : Bool := decide (0 < i) && (((kid L (i - 1)).kind == 2) && ((kid L i).kind == 2))
def meetB (L : List Tree) : Bool := (List.range L.length).any (meetAt L)
theorem meet_yes {L : List Tree} {i : Nat} (hi : i < L.length) (h : meetAt L i = true) : meetB L = true := by
  unfold meetB
  rw [List.any_eq_true]
  exact ⟨i, List.mem_range.2 hi, h⟩
theorem meet_no {L : List Tree} (h : ∀ i, i < L.length → meetAt L i = false) : meetB L = false := by
  unfold meetB
  rw [List.any_eq_false]
  intro i hi
  rw [h i (List.mem_range.1 hi)]
  decide
theorem meet_zero {L : List Tree} : meetAt L 0 = false := rfl
theorem meet_more {L : List Tree} {i : Nat} (h : 0 < i) : meetAt L i = (((kid L (i - 1)).kind == 2) && ((kid L i).kind == 2)) := by
  unfold meetAt
  rw [decide_eq_true h, Bool.true_and]
/-! ### The specification's way -/
mutual
def nodeB : Tree → Nat → Bool
  | .mk k p l u x ds ats ks, r => oneB (.mk k p l u x ds ats ks) && (!(k == 1) || (decide (r ≠ 0) && (nodesB ks (r - 1) && !meetB ks)))
def nodesB : List Tree → Nat → Bool
  | [], _ => true
  | t :: ts, r => nodeB t r && nodesB ts r
end
def kidsB (L : List Tree) (r : Nat) : Bool := nodesB L r && !meetB L
theorem nodesB_range : ∀ (L : List Tree) (r : Nat), nodesB L r = (List.range L.length).all fun i => nodeB (kid L i) r
  | [], r => by rw [nodesB]; rfl
  | t :: ts, r => by
    rw [nodesB, nodesB_range ts r, List.length_cons, List.range_succ_eq_map, List.all_cons, List.all_map]
    rfl
def stepB (L : List Tree) (r i : Nat) : Bool := nodeB (kid L i) r && !meetAt L i
theorem kids_no {L : List Tree} {r i : Nat} (hi : i < L.length) (h : stepB L r i = false) : kidsB L r = false := by
  unfold kidsB
  unfold stepB at h
  cases h1 : nodeB (kid L i) r
  · rw [nodesB_range, all_no (f := fun i => nodeB (kid L i) r) hi h1]; rfl
  · rw [h1, Bool.true_and] at h
    rw [meet_yes hi (by simpa using h)]; simp
theorem kids_yes {L : List Tree} {r : Nat} (h : ∀ i, i < L.length → stepB L r i = true) : kidsB L r = true := by
  unfold kidsB
  rw [nodesB_range, all_yes (f := fun i => nodeB (kid L i) r) (fun i hi => by have := h i hi; unfold stepB at this; simp at this; exact this.1), meet_no (fun i hi => by have := h i hi; unfold stepB at this; simp at this; exact this.2)]
  rfl
theorem nodeB_eq (k : Int) (p l u x : ByteArray) (ds : List Pair) (ats : List Att) (ks : List Tree) (r : Nat) : nodeB (.mk k p l u x ds ats ks) r = (oneB (.mk k p l u x ds ats ks) && (!(k == 1) || (decide (r ≠ 0) && kidsB ks (r - 1)))) := by rw [nodeB]; rfl
/-- How many are of a kind. -/
def kindTo (L : List Tree) (k : Int) : Nat → Nat
  | 0 => 0
  | i + 1 => kindTo L k i + (bif (kid L i).kind == k then 1 else 0)
theorem kindTo_le (L : List Tree) (k : Int) : ∀ i, kindTo L k i ≤ i
  | 0 => Nat.le_refl _
  | i + 1 => by have := kindTo_le L k i; rw [kindTo]; cases ((kid L i).kind == k) <;> simp only [cond_true, cond_false] <;> omega
theorem kindTo_mono (L : List Tree) (k : Int) : ∀ {i j : Nat}, i ≤ j → kindTo L k i ≤ kindTo L k j
  | i, 0, h => by rw [show i = 0 by omega]; exact Nat.le_refl _
  | i, j + 1, h => by
    by_cases e : i = j + 1
    · rw [e]; exact Nat.le_refl _
    · have := kindTo_mono L k (i := i) (j := j) (by omega)
      rw [kindTo]
      omega
theorem kindTo_none (L : List Tree) (k : Int) : ∀ {j : Nat}, (∀ i, i < j → ((kid L i).kind == k) = false) → kindTo L k j = 0
  | 0, _ => rfl
  | j + 1, h => by rw [kindTo, kindTo_none L k (fun i hi => h i (by omega)), h j (by omega)]; rfl
theorem kindTo_some (L : List Tree) (k : Int) {i j : Nat} (hi : i < j) (h : ((kid L i).kind == k) = true) : 1 ≤ kindTo L k j := by
  have := kindTo_mono L k (show i + 1 ≤ j by omega)
  rw [kindTo, h, cond_true] at this
  omega
def wholeB (t : Tree) : Bool := (((kindTo t.kids 1 t.kids.length : Nat) : Int) == 1) && ((((kindTo t.kids 2 t.kids.length : Nat) : Int) == 0) && (t.pre.toList.isEmpty && (t.loc.toList.isEmpty && (t.uri.toList.isEmpty && (t.text.toList.isEmpty && ((((t.ds.length : Nat) : Int) == 0) && (((t.ats.length : Nat) : Int) == 0)))))))
def nodeOkB (t : Tree) : Bool := decide ((cnt t : Int) ≤ 60) && (bif t.kind == 0 then wholeB t && kidsB t.kids 7 else nodeB t 7)
/-! ### The program's way -/
mutual
def deepT : Tree → Nat
  | .mk k _ _ _ _ _ _ ks => deepL ks + (bif k == 1 then 1 else 0)
def deepL : List Tree → Nat
  | [] => 0
  | t :: ts => max (deepT t) (deepL ts)
end
def deepTo (L : List Tree) : Nat → Nat
  | 0 => 0
  | i + 1 => max (deepTo L i) (deepT (kid L i))
theorem deepTo_cons (t : Tree) (ts : List Tree) : ∀ k, deepTo (t :: ts) (k + 1) = max (deepT t) (deepTo ts k)
  | 0 => by show max 0 (deepT t) = max (deepT t) 0; omega
  | k + 1 => by
    rw [deepTo, deepTo_cons t ts k, deepTo]
    show max _ (deepT (kid ts k)) = _
    omega
theorem deepL_eq : ∀ L : List Tree, deepL L = deepTo L L.length
  | [] => by rw [deepL]; rfl
  | t :: ts => by rw [deepL, deepL_eq ts, List.length_cons, deepTo_cons]
mutual
theorem deepT_le : ∀ t : Tree, deepT t ≤ cnt t
  | .mk k p l u x ds ats ks => by
    rw [deepT, cnt]
    have := deepL_le ks
    cases (k == 1) <;> simp only [cond_true, cond_false] <;> omega
theorem deepL_le : ∀ L : List Tree, deepL L ≤ cnts L
  | [] => by rw [deepL, cnts]; exact Nat.le_refl _
  | t :: ts => by
    rw [deepL, cnts]
    have h1 := deepT_le t
    have h2 := deepL_le ts
    omega
end
def aloneB (t : Tree) : Bool := bif t.kind == 0 then wholeB t else (oneB t && (!(t.kind == 1) || !meetB t.kids))
mutual
def rightT : Tree → Bool
  | .mk k p l u x ds ats ks => aloneB (.mk k p l u x ds ats ks) && rightL ks
def rightL : List Tree → Bool
  | [] => true
  | t :: ts => (!(t.kind == 0) && rightT t) && rightL ts
end
theorem rightL_range : ∀ (L : List Tree), rightL L = (List.range L.length).all fun i => !((kid L i).kind == 0) && rightT (kid L i)
  | [] => by rw [rightL]; rfl
  | t :: ts => by
    rw [rightL, rightL_range ts, List.length_cons, List.range_succ_eq_map, List.all_cons, List.all_map]
    rfl
theorem one_zero {t : Tree} (h : t.kind = 0) : oneB t = false := by unfold oneB; rw [h]; rfl
theorem bare_kids {t : Tree} (h : bareB t = true) : t.kids = [] := by
  unfold bareB at h
  simp only [Bool.and_eq_true, beq_iff_eq] at h
  have := h.2.2.2.2
  exact List.eq_nil_of_length_eq_zero (by omega)
theorem one_kids {t : Tree} (h : oneB t = true) (h1 : (t.kind == 1) = false) : t.kids = [] := by
  unfold oneB at h
  rw [h1, cond_false] at h
  cases h2 : (t.kind == 2)
  · rw [h2, cond_false] at h
    cases h3 : (t.kind == 3)
    · rw [h3, cond_false] at h
      cases h4 : (t.kind == 4)
      · rw [h4, cond_false] at h; cases h
      · rw [h4, cond_true] at h; unfold toldOneB at h; rw [Bool.and_eq_true] at h; exact bare_kids h.1
    · rw [h3, cond_true] at h; unfold noteOneB at h; rw [Bool.and_eq_true] at h; exact bare_kids h.1
  · rw [h2, cond_true] at h; unfold textOneB at h; rw [Bool.and_eq_true] at h; exact bare_kids h.1
mutual
theorem node_right : ∀ (t : Tree) (r : Nat), nodeB t r = (!(t.kind == 0) && (decide (deepT t ≤ r) && rightT t))
  | .mk k p l u x ds ats ks, r => by
    rw [nodeB, deepT, rightT, nodes_right ks (r - 1)]
    show _ = (!(k == 0) && _)
    unfold aloneB
    simp only [Tree.kind, Tree.kids]
    cases h0 : (k == 0)
    · cases ho : oneB (.mk k p l u x ds ats ks)
      · simp
      · cases h1 : (k == 1)
        · have hk : ks = [] := one_kids (t := .mk k p l u x ds ats ks) ho h1
          subst hk
          rw [deepL, rightL]
          simp
        · by_cases hr : r = 0
          · subst hr; simp
          · have e : decide (deepL ks + 1 ≤ r) = decide (deepL ks ≤ r - 1) := by rw [Bool.eq_iff_iff]; simp; omega
            simp only [Bool.not_false, Bool.true_and, Bool.not_true, Bool.false_or, cond_true, cond_false, e]
            rw [decide_eq_true hr]
            cases decide (deepL ks ≤ r - 1) <;> cases rightL ks <;> cases meetB ks <;> rfl
    · have : oneB (.mk k p l u x ds ats ks) = false := one_zero (by show k = 0; simpa using h0)
      rw [this]; simp
theorem nodes_right : ∀ (L : List Tree) (r : Nat), nodesB L r = (decide (deepL L ≤ r) && rightL L)
  | [], r => by rw [nodesB, deepL, rightL]; simp
  | t :: ts, r => by
    rw [nodesB, deepL, rightL, node_right t r, nodes_right ts r]
    have e : decide (max (deepT t) (deepL ts) ≤ r) = (decide (deepT t ≤ r) && decide (deepL ts ≤ r)) := by rw [Bool.eq_iff_iff]; simp; omega
    rw [e]
    cases (t.kind == 0) <;> cases decide (deepT t ≤ r) <;> cases decide (deepL ts ≤ r) <;> cases rightT t <;> cases rightL ts <;> rfl
end
theorem whole_meet {t : Tree} (h : wholeB t = true) : meetB t.kids = false := by
  refine meet_no fun i hi => ?_
  unfold meetAt
  cases h2 : ((kid t.kids i).kind == 2)
  · simp
  · have := kindTo_some t.kids 2 hi h2
    unfold wholeB at h
    simp only [Bool.and_eq_true, beq_iff_eq] at h
    have := h.2.1
    omega
theorem node_ok_right (t : Tree) : nodeOkB t = (decide ((cnt t : Int) ≤ 60) && (decide ((deepT t : Int) ≤ 7) && rightT t)) := by
  unfold nodeOkB
  congr 1
  have ed : decide ((deepT t : Int) ≤ 7) = decide (deepT t ≤ 7) := by rw [Bool.eq_iff_iff]; simp; omega
  rw [ed]
  cases h0 : (t.kind == 0)
  · rw [cond_false, node_right, h0]; rfl
  · rw [cond_true]
    obtain ⟨k, p, l, u, x, ds, ats, ks⟩ := t
    simp only [Tree.kind] at h0
    have hk1 : (k == 1) = false := by rw [beq_iff_eq] at h0; rw [h0]; rfl
    rw [deepT, rightT, hk1]
    unfold aloneB kidsB
    simp only [Tree.kind, Tree.kids, h0, cond_true]
    rw [nodes_right]
    cases hw : wholeB (.mk k p l u x ds ats ks)
    · simp
    · have := whole_meet hw
      simp only [Tree.kids] at this
      rw [this]
      simp
end Go.Proofs.YtmiiilamjbhheaaGreatDoor.trees
