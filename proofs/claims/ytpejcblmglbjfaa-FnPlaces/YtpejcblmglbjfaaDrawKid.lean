/-
  The nodes below a drawn element, so far: none, or a row of the call's own; one more.
-/
import Derived.Test.YtpejcblmglbjfaaDrawElS
import Derived.Maps.AppendAt
namespace Go.Proofs.Ytpejcblmglbjfaa.draws
open Go.ChangeShapes Go.WideShapes Go.ChangeAt Go.RowKit
open pairs (Pair at0 PairsAt)
open trees (Att Tree Hdr vals TH th0 cellsN Bset Out Inc Apart OwnN OwnP OwnA OwnL RowA RowV Rng nsz nszs trees1)
set_option linter.unusedVariables false
structure KidR (w : World) (B : Nat) (v : Value) (P : List TH) (G : Nat → Bset) : Prop where
  own : w.ownsRow B 28 8 v P.length (cellsN P)
  rng : ∀ i, Inc (G i) (fun b => B ≤ b ∧ b < w.heap.size)
  not : ∀ i g, v.ownBlock = some g → ¬ G i g
  apart : ∀ i j, i ≠ j → Apart (G i) (G j)
  kids : ∀ i, i < P.length → OwnN w (th0 P i).1 (th0 P i).2 (G i)
theorem KidR.nil (w : World) (B : Nat) : KidR w B (.slice none 0 0) [] (fun _ _ => False) :=
  ⟨⟨rfl, .inl ⟨rfl, rfl⟩⟩, fun i b h => False.elim h, fun i g h => (by cases h), fun i j h b hb => False.elim hb, fun i hi => absurd hi (by simp)⟩
theorem KidR.out {w w' : World} {B : Nat} {v : Value} {P : List TH} {G : Nat → Bset} {F : Bset} (h : KidR w B v P G) (ho : Out F w w') (hF : ∀ b, F b → b < B) : KidR w' B v P G :=
  ⟨own_same h.own (fun g e => ho.block g (World.ownsRow.lt h.own g e).2 (fun hf => by have := hF _ hf; have := (World.ownsRow.lt h.own g e).1; omega)), fun i b hb => ⟨(h.rng i b hb).1, Nat.lt_of_lt_of_le (h.rng i b hb).2 ho.size⟩, h.not, h.apart, fun i hi => (h.kids i hi).out ho (fun b hb hc => by have := hF _ hc; have := (h.rng i b hb).1; omega)⟩
theorem KidR.below {w w' : World} {B : Nat} {v : Value} {P : List TH} {G : Nat → Bset} (h : KidR w B v P G) (hb : Below w.heap.size w w') : KidR w' B v P G :=
  h.out (F := fun _ => False) (Out.of_below hb) (fun b hb => False.elim hb)
theorem KidR.set {w : World} {B : Nat} {v : Value} {P : List TH} {G : Nat → Bset} (h : KidR w B v P G) {q i : Nat} {u : Value} (hq : q < B) : KidR (w.setCell ⟨q, i, none⟩ u) B v P G :=
  h.out (F := fun b => b = q) ((Out.refl _ w).set (F := fun b => b = q) rfl _ _) (fun b e => by omega)
theorem KidR.shape {w : World} {B : Nat} {v : Value} {P : List TH} {G : Nat → Bset} (h : KidR w B v P G) : ∃ a c, v = .slice a P.length c := by
  rcases h.own.2 with ⟨e, h0⟩ | ⟨g, cap, cur, e, _⟩
  · exact ⟨none, 0, by rw [e, h0]⟩
  · exact ⟨some ⟨g, 0, none⟩, cap, e⟩
/-- The row, as it is owned. -/
theorem KidR.row {w : World} {B : Nat} {v : Value} {P : List TH} {G : Nat → Bset} (h : KidR w B v P G) : ∃ a c, v = .slice a P.length c ∧ OwnL w a (trees1 P) (fun b => B ≤ b ∧ b < w.heap.size) := by
  rcases h.own.2 with ⟨e, h0⟩ | ⟨g, cap, cur, e, _⟩
  · refine ⟨none, 0, by rw [e, h0], fun h1 => ?_⟩
    unfold trees1 at h1
    rw [List.length_map] at h1
    omega
  · subst e
    exact ⟨some ⟨g, 0, none⟩, cap, rfl, RowV.row (n := P.length) (c := cap) ⟨h.own, rfl, h.rng, fun i => h.not i g rfl, h.apart, h.kids⟩⟩
theorem kid_more {w w' : World} {B : Nat} {v v' : Value} {P : List TH} {G : Nat → Bset} {x : TH} {F : Bset} (h : KidR w B v P G) (hB : B ≤ w.heap.size) (ho : w'.ownsRow B 28 8 v' (P.length + 1) (cellsN P ++ (vals x.1 x.2).toList)) (hg : v'.ownBlock = v.ownBlock ∨ v'.ownBlock = some w.heap.size) (hgr : w.grownBy w' v.ownBlock)
    (hx : OwnN w x.1 x.2 F) (hF : Inc F (fun b => B ≤ b ∧ b < w.heap.size)) (hFg : ∀ g, v.ownBlock = some g → ¬ F g) (hFa : ∀ i, Apart (G i) F) : KidR w' B v' (P ++ [x]) (fun i => if i = P.length then F else G i) := by
  have hout : Out (fun b => v.ownBlock = some b) w w' := ⟨hgr.os, hgr.tape, hgr.output, hgr.size, fun k hk hf => hgr.block k hk (fun e => hf e.symm)⟩
  have hG : ∀ i, Apart (if i = P.length then F else G i) (fun b => v.ownBlock = some b) := fun i b hb e => by
    by_cases hi : i = P.length
    · rw [if_pos hi] at hb; exact hFg b e hb
    · rw [if_neg hi] at hb; exact h.not i b e hb
  have hrng : ∀ i, Inc (if i = P.length then F else G i) (fun b => B ≤ b ∧ b < w.heap.size) := fun i => by
    by_cases hi : i = P.length
    · rw [if_pos hi]; exact hF
    · rw [if_neg hi]; exact h.rng i
  refine ⟨by rw [trees.cellsN_append, List.length_append]; simp only [cellsN, List.append_nil]; exact ho, fun i b hb => ⟨(hrng i b hb).1, Nat.lt_of_lt_of_le (hrng i b hb).2 hgr.size⟩, fun i g e hb => ?_, fun i j hij b hb hc => ?_, fun i hi => ?_⟩
  · rcases hg with hg | hg
    · exact hG i g hb (hg ▸ e)
    · rw [hg] at e
      cases e
      have := (hrng i _ hb).2
      omega
  · by_cases hi : i = P.length
    · rw [if_pos hi] at hb
      rw [if_neg (by omega)] at hc
      exact hFa j b hc hb
    · rw [if_neg hi] at hb
      by_cases hj : j = P.length
      · rw [if_pos hj] at hc
        exact hFa i b hb hc
      · rw [if_neg hj] at hc
        exact h.apart i j hij b hb hc
  · rw [List.length_append, List.length_singleton] at hi
    by_cases hi' : i = P.length
    · subst hi'
      rw [if_pos rfl]
      have e : th0 (P ++ [x]) P.length = x := by unfold th0; rw [List.getD_eq_getElem?_getD, List.getElem?_append_right (Nat.le_refl _), Nat.sub_self]; rfl
      rw [e]
      exact hx.out hout (fun b hb e => hFg b e hb)
    · rw [if_neg hi']
      have e : th0 (P ++ [x]) i = th0 P i := by unfold th0; rw [List.getD_eq_getElem?_getD, List.getD_eq_getElem?_getD, List.getElem?_append_left (by omega)]
      rw [e]
      exact (h.kids i (by omega)).out hout (fun b hb e => h.not i b e hb)
/-- append of one node: the row may be nil. -/
theorem kid_run (w : World) (ty : TypeId) (B : Nat) (v : Value) (q : Nat) (P : List TH) (G : Nat → Bset) (x : TH) (F : Bset)
    (hR : KidR w B v P G) (hB : B ≤ w.heap.size) (hn : P.length ≤ 2000000) (hx : OwnN w x.1 x.2 F) (hF : Inc F (fun b => B ≤ b ∧ b < w.heap.size)) (hFg : ∀ g, v.ownBlock = some g → ¬ F g) (hFa : ∀ i, Apart (G i) F)
    (hc : ∀ j u, (vals x.1 x.2).toList[j]? = some u → w.cell? ⟨q, j, none⟩ = some u) :
    ∃ av cv w', (Builtin.append_ #[26, 26] ty #[v, .slice (some ⟨q, 0, none⟩) 1 1]).run Try.prog w = .ok (.slice av (P.length + 1) cv) w' ∧ KidR w' B (.slice av (P.length + 1) cv) (P ++ [x]) (fun i => if i = P.length then F else G i) ∧ Below B w w' := by
  obtain ⟨i0, hi, hz0, hz1, hz2⟩ := info_parts trees.infoN
  obtain ⟨v', w', hrun, ho, hgr, _, hg⟩ := run_append_own_at (P := Try.prog) (w := w) B 26 ty 28 i0 (.agg #[.int .i64 0, .string ⟨#[]⟩, .string ⟨#[]⟩, .string ⟨#[]⟩, .slice none 0 0, .slice none 0 0, .slice none 0 0, .string ⟨#[]⟩]) 8 144 Try.underlying26 hi hz0 hz1 hz2 rfl (by decide) v P.length (cellsN P) hR.own ⟨q, 0, none⟩ 1 1 (vals x.1 x.2).toList rfl (fun j u hj => by
    rw [show (⟨q, 0, none⟩ : Addr).add j = ⟨q, j, none⟩ by rw [Addr.add_lit, Nat.zero_add]]
    exact hc j u hj) (trees.vals_one _ _) (by unfold maxLen; omega) (by omega) hB
  have hk := kid_more hR hB ho hg hgr hx hF hFg hFa
  have hb : Below B w w' := ⟨hgr.os, hgr.tape, hgr.output, hgr.size, fun k hk' => hgr.block k (by omega) (fun e => by have := (World.ownsRow.lt hR.own k e.symm).1; omega)⟩
  obtain ⟨a, c, e⟩ := hk.shape
  rw [List.length_append, List.length_singleton] at e
  subst e
  exact ⟨a, c, w', hrun, hk, hb⟩
theorem add_kid {ops : Array Oper} {rest : List Oper} {o : Oper} {a : Act} {w : World} {Q : Exit → Act → World → Prop} (B : Nat) (v : Value) (q : Nat) (P : List TH) (G : Nat → Bset) (x : TH) (F : Bset)
    (hR : KidR w B v P G) (hB : B ≤ w.heap.size) (hn : P.length ≤ 2000000) (hx : OwnN w x.1 x.2 F) (hF : Inc F (fun b => B ≤ b ∧ b < w.heap.size)) (hFg : ∀ g, v.ownBlock = some g → ¬ F g) (hFa : ∀ i, Apart (G i) F) (hgd : o.guard = none) (s y : Operand)
    (ho : o.op = .call { callee := .builtin .append, args := #[s, y], argTypes := #[26, 26] }) (hs : a.eval s = v) (hy : a.eval y = .slice (some ⟨q, 0, none⟩) 1 1)
    (hc : ∀ j u, (vals x.1 x.2).toList[j]? = some u → w.cell? ⟨q, j, none⟩ = some u)
    (h : ∀ av cv w', KidR w' B (.slice av (P.length + 1) cv) (P ++ [x]) (fun i => if i = P.length then F else G i) → Below B w w' → wpList Try.prog ops Q rest (a.put o.dst (.slice av (P.length + 1) cv)) w') : wpList Try.prog ops Q (o :: rest) a w := by
  obtain ⟨av, cv, w', hr, hk, hb⟩ := kid_run w o.type B v q P G x F hR hB hn hx hF hFg hFa hc
  exact pairs.wpList_run hgd s y _ ho _ _ _ hs hy hr (h av cv w' hk hb)
theorem step_kid {ops : Array Oper} {o : Oper} {a : Act} {w : World} {K : Act → World → Prop} {Q : Exit → Act → World → Prop} {E : Prop}
    (hgd : o.guard = none) (s y : Operand) (hop : o.op = Op.call { callee := Callee.builtin Builtin.append, args := #[s, y], argTypes := #[26, 26] })
    (B : Nat) (v : Value) (q : Nat) (P : List TH) (G : Nat → Bset) (x : TH) (F : Bset) (hs : a.eval s = v) (hy : a.eval y = .slice (some ⟨q, 0, none⟩) 1 1)
    (hR : KidR w B v P G) (hB : B ≤ w.heap.size) (hn : P.length ≤ 2000000) (hx : OwnN w x.1 x.2 F) (hF : Inc F (fun b => B ≤ b ∧ b < w.heap.size)) (hFg : ∀ g, v.ownBlock = some g → ¬ F g) (hFa : ∀ i, Apart (G i) F)
    (hc : ∀ j u, (vals x.1 x.2).toList[j]? = some u → w.cell? ⟨q, j, none⟩ = some u)
    (hK : ∀ av cv w', KidR w' B (.slice av (P.length + 1) cv) (P ++ [x]) (fun i => if i = P.length then F else G i) → Below B w w' → K (a.put o.dst (.slice av (P.length + 1) cv)) w') :
    if Region.wanted o (yielded ops a.tmps) = true then Oper.wp Try.prog o a w K Q else E := by
  have hw : Region.wanted o (yielded ops a.tmps) = true := by simp [Region.wanted, hgd]
  rw [if_pos hw]
  obtain ⟨av, cv, w', hrun, hk, hb⟩ := kid_run w o.type B v q P G x F hR hB hn hx hF hFg hFa hc
  unfold Oper.wp
  simp [execOp, hop, resolve, invoke, builtin, hs, hy, hrun, Result.andThen]
  exact hK av cv w' hk hb
/-- A node without lists: all of it is its own cells. -/
theorem own_plain (w : World) (k : Int) (l x : ByteArray) (h0 : 0 ≤ k ∧ k ≤ 4) (hl : l.size ≤ maxLen) (hx : x.size ≤ maxLen) : OwnN w (.mk k ⟨#[]⟩ l ⟨#[]⟩ x [] [] []) ⟨none, 0, none, 0, none, 0⟩ (fun _ => False) := by
  have hz : 0 ≤ maxLen := Nat.zero_le _
  have hn : ∀ i, ¬ i < 0 := fun i h => Nat.not_lt_zero i h
  refine trees.PartsN.node (FD := fun _ => False) (FA := fun _ => False) (FK := fun _ => False) ⟨⟨⟨?_, hz, hl, hz, hx, hz⟩, Nat.le_refl _⟩, ⟨hz, fun i hi => absurd hi (hn i)⟩, ⟨hz, fun i hi => absurd hi (hn i)⟩, fun b h => h, fun b h => h, fun b h => h, fun b h => False.elim h, fun b h => False.elim h, fun b h => False.elim h, fun h => absurd h (hn 0), fun h => absurd h (hn 0), fun h => absurd h (hn 0)⟩
  show -9223372036854775808 ≤ k ∧ k ≤ 9223372036854775807
  omega
end Go.Proofs.Ytpejcblmglbjfaa.draws
