/-
  What a draw of an element keeps: rows that lie apart from what turns; append to a row that is nil yet; sizes.
-/
import Derived.Test.YtpejcblmglbjfaaRowsAtt
import Derived.Test.YtpejcblmglbjfaaCopyP
import Derived.Test.YtpejcblmglbjfaaMergeP
import Derived.Test.YtpejcblmglbjfaaDrawScopes2
import Derived.Test.YtpejcblmglbjfaaSpecLess
namespace Go.Proofs.Ytpejcblmglbjfaa.draws
open Go.ChangeShapes Go.WideShapes Go.ChangeAt Go.RowKit
open pairs (Pair at0 PairsAt)
open trees (Att Tree Hdr vals TH th0 cellsN Bset Out Inc Apart OwnN OwnP OwnA OwnL RowA RowV Rng nsz nszs trees1)
set_option linter.unusedVariables false
theorem own_same {w w' : World} {B : Nat} {e : TypeId} {size n : Nat} {v : Value} {xs : List Value} (h : w.ownsRow B e size v n xs) (hb : ∀ g, v.ownBlock = some g → w'.heap[g]? = w.heap[g]?) : w'.ownsRow B e size v n xs := by
  refine ⟨h.1, ?_⟩
  rcases h.2 with h0 | ⟨g, cap, cur, rfl, h0, h1, h2, h3, h4, h5⟩
  · exact .inl h0
  · exact .inr ⟨g, cap, cur, rfl, h0, (hb g rfl).trans h1, h2, h3, h4, h5⟩
theorem own_base {w : World} {B B' : Nat} {e : TypeId} {size n : Nat} {v : Value} {xs : List Value} (h : w.ownsRow B e size v n xs) (hB : B' ≤ B) : w.ownsRow B' e size v n xs := by
  refine ⟨h.1, ?_⟩
  rcases h.2 with h0 | ⟨g, cap, cur, rfl, h0, h1, h2, h3, h4, h5⟩
  · exact .inl h0
  · exact .inr ⟨g, cap, cur, rfl, Nat.le_trans hB h0, h1, h2, h3, h4, h5⟩
theorem rowA_out {w w' : World} {B g n c : Nat} {L : List Att} {F : Bset} (h : RowA w B g n c L) (ho : Out F w w') (hF : ∀ b, F b → b < B) : RowA w' B g n c L :=
  ⟨own_same h.own (fun g' e => by cases e; exact ho.block g h.lt.2 (fun hf => by have := hF _ hf; have := h.lt.1; omega)), h.len⟩
theorem rowV_out {w w' : World} {B g n c : Nat} {P : List TH} {G : Nat → Bset} {F : Bset} (h : RowV w B g n c P G) (ho : Out F w w') (hF : ∀ b, F b → b < B) : RowV w' B g n c P G :=
  ⟨own_same h.own (fun g' e => by cases e; exact ho.block g h.lt.2 (fun hf => by have := hF _ hf; have := h.lt.1; omega)), h.len, fun i b hb => ⟨(h.rng i b hb).1, Nat.lt_of_lt_of_le (h.rng i b hb).2 ho.size⟩, h.not, h.apart, fun i hi => (h.kids i hi).out ho (fun b hb hc => by have := hF _ hc; have := (h.rng i b hb).1; omega)⟩
/-- append of one Attr, wherever it lies. -/
theorem add_att_at {ops : Array Oper} {rest : List Oper} {o : Oper} {a : Act} {w : World} {Q : Exit → Act → World → Prop} (B g n c q : Nat) (L : List Att) (x : Att)
    (hR : RowA w B g n c L) (hB : B ≤ w.heap.size) (hn : n ≤ 2000000) (hgd : o.guard = none) (s y : Operand)
    (ho : o.op = .call { callee := .builtin .append, args := #[s, y], argTypes := #[25, 25] }) (hs : a.eval s = .slice (some ⟨g, 0, none⟩) n c) (hy : a.eval y = .slice (some ⟨q, 0, none⟩) 1 1)
    (hc : w.cell? ⟨q, 0, none⟩ = some (.string x.pre) ∧ w.cell? ⟨q, 1, none⟩ = some (.string x.loc) ∧ w.cell? ⟨q, 2, none⟩ = some (.string x.uri) ∧ w.cell? ⟨q, 3, none⟩ = some (.string x.val))
    (h : ∀ g' c' w', RowA w' B g' (n + 1) c' (L ++ [x]) → Below B w w' → w.heap.size ≤ w'.heap.size → wpList Try.prog ops Q rest (a.put o.dst (.slice (some ⟨g', 0, none⟩) (n + 1) c')) w') : wpList Try.prog ops Q (o :: rest) a w := by
  obtain ⟨i0, hi, hz0, hz1, hz2⟩ := info_parts trees.infoA
  refine wpList_append_own _ hgd s y 25 ho B 87 i0 (.agg #[.string ⟨#[]⟩, .string ⟨#[]⟩, .string ⟨#[]⟩, .string ⟨#[]⟩]) 4 64 Try.underlying25 hi hz0 hz1 hz2 rfl (by decide) _ n (trees.cellsA L) hs hR.own ⟨q, 0, none⟩ 1 1 (trees.cellsA [x]) hy (trees.cellsA_len [x]) ?_ (trees.cellsA_one [x]) (by unfold maxLen; omega) (by omega) hB ?_
  · intro j u hj
    rw [show (⟨q, 0, none⟩ : Addr).add j = ⟨q, j, none⟩ by rw [Addr.add_lit, Nat.zero_add]]
    match j, hj with
    | 0, hj => rw [hc.1]; exact hj
    | 1, hj => rw [hc.2.1]; exact hj
    | 2, hj => rw [hc.2.2.1]; exact hj
    | 3, hj => rw [hc.2.2.2]; exact hj
    | j + 4, hj => cases hj
  · intro v' w' ho' hg hn'
    rcases ho'.2 with ⟨rfl, h0⟩ | ⟨g', cap', cur, rfl, _⟩
    · exact absurd h0 (by omega)
    · exact h g' cap' w' ⟨by rw [trees.cellsA_append]; exact ho', by rw [List.length_append, hR.len]; rfl⟩ ((Below.refl _ _).grown hg hB (fun k hk => (World.ownsRow.lt hR.own k hk).1)) hg.size
/-- The same onto nil. -/
theorem add_att_nil {ops : Array Oper} {rest : List Oper} {o : Oper} {a : Act} {w : World} {Q : Exit → Act → World → Prop} (B q : Nat) (x : Att)
    (hB : B ≤ w.heap.size) (hgd : o.guard = none) (s y : Operand)
    (ho : o.op = .call { callee := .builtin .append, args := #[s, y], argTypes := #[25, 25] }) (hs : a.eval s = .slice none 0 0) (hy : a.eval y = .slice (some ⟨q, 0, none⟩) 1 1)
    (hc : w.cell? ⟨q, 0, none⟩ = some (.string x.pre) ∧ w.cell? ⟨q, 1, none⟩ = some (.string x.loc) ∧ w.cell? ⟨q, 2, none⟩ = some (.string x.uri) ∧ w.cell? ⟨q, 3, none⟩ = some (.string x.val))
    (h : ∀ g' c' w', RowA w' B g' 1 c' [x] → Below w.heap.size w w' → wpList Try.prog ops Q rest (a.put o.dst (.slice (some ⟨g', 0, none⟩) 1 c')) w') : wpList Try.prog ops Q (o :: rest) a w := by
  obtain ⟨i0, hi, hz0, hz1, hz2⟩ := info_parts trees.infoA
  have hown : w.ownsRow w.heap.size 87 4 (.slice none 0 0) 0 (trees.cellsA []) := ⟨rfl, .inl ⟨rfl, rfl⟩⟩
  refine wpList_append_own _ hgd s y 25 ho w.heap.size 87 i0 (.agg #[.string ⟨#[]⟩, .string ⟨#[]⟩, .string ⟨#[]⟩, .string ⟨#[]⟩]) 4 64 Try.underlying25 hi hz0 hz1 hz2 rfl (by decide) _ 0 (trees.cellsA []) hs hown ⟨q, 0, none⟩ 1 1 (trees.cellsA [x]) hy (trees.cellsA_len [x]) ?_ (trees.cellsA_one [x]) (by unfold maxLen; omega) (by omega) (Nat.le_refl _) ?_
  · intro j u hj
    rw [show (⟨q, 0, none⟩ : Addr).add j = ⟨q, j, none⟩ by rw [Addr.add_lit, Nat.zero_add]]
    match j, hj with
    | 0, hj => rw [hc.1]; exact hj
    | 1, hj => rw [hc.2.1]; exact hj
    | 2, hj => rw [hc.2.2.1]; exact hj
    | 3, hj => rw [hc.2.2.2]; exact hj
    | j + 4, hj => cases hj
  · intro v' w' ho' hg hn'
    rcases ho'.2 with ⟨rfl, h0⟩ | ⟨g', cap', cur, rfl, _⟩
    · exact absurd h0 (by decide)
    · exact h g' cap' w' ⟨own_base ho' hB, rfl⟩ ((Below.refl _ _).grown hg (Nat.le_refl _) (fun k hk => by cases hk))
/-- append of one node, wherever it lies. -/
theorem add_node_at {ops : Array Oper} {rest : List Oper} {o : Oper} {a : Act} {w : World} {Q : Exit → Act → World → Prop} (B g n c q : Nat) (P : List TH) (G : Nat → Bset) (x : TH) (F : Bset)
    (hR : RowV w B g n c P G) (hB : B ≤ w.heap.size) (hn : n ≤ 2000000) (hx : OwnN w x.1 x.2 F) (hF : Inc F (fun b => B ≤ b ∧ b < w.heap.size)) (hFg : ¬ F g) (hFa : ∀ i, Apart (G i) F) (hgd : o.guard = none) (s y : Operand)
    (ho : o.op = .call { callee := .builtin .append, args := #[s, y], argTypes := #[26, 26] }) (hs : a.eval s = .slice (some ⟨g, 0, none⟩) n c) (hy : a.eval y = .slice (some ⟨q, 0, none⟩) 1 1)
    (hc : ∀ j u, (vals x.1 x.2).toList[j]? = some u → w.cell? ⟨q, j, none⟩ = some u)
    (h : ∀ g' c' w', RowV w' B g' (n + 1) c' (P ++ [x]) (fun i => if i = n then F else G i) → Below B w w' → w.heap.size ≤ w'.heap.size → wpList Try.prog ops Q rest (a.put o.dst (.slice (some ⟨g', 0, none⟩) (n + 1) c')) w') : wpList Try.prog ops Q (o :: rest) a w := by
  obtain ⟨g', c', w', hr, how, hg', hgr⟩ := trees.appn_run w o.type B g n c (cellsN P) x.1 x.2 ⟨q, 0, none⟩ 1 hR.own hB hn (fun j u hj => by
    rw [show (⟨q, 0, none⟩ : Addr).add j = ⟨q, j, none⟩ by rw [Addr.add_lit, Nat.zero_add]]
    exact hc j u hj)
  refine pairs.wpList_run hgd s y _ ho _ _ _ hs hy hr (h g' c' w' (RowV.more hR how hg' hgr hx hF hFg hFa) ?_ hgr.size)
  have := hR.lt
  exact ⟨hgr.os, hgr.tape, hgr.output, hgr.size, fun k hk => hgr.block k (by omega) (fun e => by cases e; omega)⟩
/-- The same onto nil. -/
theorem add_node_nil {ops : Array Oper} {rest : List Oper} {o : Oper} {a : Act} {w : World} {Q : Exit → Act → World → Prop} (B q : Nat) (x : TH) (F : Bset)
    (hB : B ≤ w.heap.size) (hx : OwnN w x.1 x.2 F) (hF : Inc F (fun b => B ≤ b ∧ b < w.heap.size)) (hgd : o.guard = none) (s y : Operand)
    (ho : o.op = .call { callee := .builtin .append, args := #[s, y], argTypes := #[26, 26] }) (hs : a.eval s = .slice none 0 0) (hy : a.eval y = .slice (some ⟨q, 0, none⟩) 1 1)
    (hc : ∀ j u, (vals x.1 x.2).toList[j]? = some u → w.cell? ⟨q, j, none⟩ = some u)
    (h : ∀ g' c' w', RowV w' B g' 1 c' [x] (fun i => if i = 0 then F else fun _ => False) → Below w.heap.size w w' → wpList Try.prog ops Q rest (a.put o.dst (.slice (some ⟨g', 0, none⟩) 1 c')) w') : wpList Try.prog ops Q (o :: rest) a w := by
  obtain ⟨i0, hi, hz0, hz1, hz2⟩ := info_parts trees.infoN
  have hown : w.ownsRow w.heap.size 28 8 (.slice none 0 0) 0 (cellsN []) := ⟨rfl, .inl ⟨rfl, rfl⟩⟩
  refine wpList_append_own _ hgd s y 26 ho w.heap.size 28 i0 (.agg #[.int .i64 0, .string ⟨#[]⟩, .string ⟨#[]⟩, .string ⟨#[]⟩, .slice none 0 0, .slice none 0 0, .slice none 0 0, .string ⟨#[]⟩]) 8 144 Try.underlying26 hi hz0 hz1 hz2 rfl (by decide) _ 0 (cellsN []) hs hown ⟨q, 0, none⟩ 1 1 (vals x.1 x.2).toList hy rfl ?_ (trees.vals_one _ _) (by unfold maxLen; omega) (by omega) (Nat.le_refl _) ?_
  · intro j u hj
    rw [show (⟨q, 0, none⟩ : Addr).add j = ⟨q, j, none⟩ by rw [Addr.add_lit, Nat.zero_add]]
    exact hc j u hj
  · intro v' w' ho' hg hn'
    have hb : Below w.heap.size w w' := (Below.refl _ _).grown hg (Nat.le_refl _) (fun k hk => by cases hk)
    rcases ho'.2 with ⟨rfl, h0⟩ | ⟨g', cap', cur, rfl, hg0, hg1, _⟩
    · exact absurd h0 (by decide)
    · refine h g' cap' w' ⟨own_base (by simpa [cellsN] using ho') hB, rfl, fun i b hb' => ?_, fun i hb' => ?_, fun i j hij b hb' hc' => ?_, fun i hi' => ?_⟩ hb
      · by_cases e : i = 0
        · simp only [e, if_true] at hb'; exact ⟨(hF b hb').1, Nat.lt_of_lt_of_le (hF b hb').2 hb.size⟩
        · simp only [e, if_false] at hb'
      · by_cases e : i = 0
        · simp only [e, if_true] at hb'; have := (hF _ hb').2; omega
        · simp only [e, if_false] at hb'
      · by_cases e : i = 0
        · by_cases e' : j = 0
          · omega
          · simp only [e', if_false] at hc'
        · simp only [e, if_false] at hb'
      · have e : i = 0 := by simpa using hi'
        subst e
        simp only [if_true]
        exact hx.below hb
end Go.Proofs.Ytpejcblmglbjfaa.draws
