/-
  Rows of Attrs that a call makes for itself, piece by piece: append of one, of many.
-/
import Derived.Test.YtpejcblmglbjfaaRowsOwn
namespace Go.Proofs.Ytpejcblmglbjfaa.trees
open Go.ChangeShapes Go.WideShapes Go.ChangeAt Go.RowKit
open pairs (Pair at0 PairsAt)
set_option linter.unusedVariables false
theorem cellsA_append : ∀ (L M : List Att), cellsA (L ++ M) = cellsA L ++ cellsA M
  | [], _ => rfl
  | x :: L, M => by show _ :: _ :: _ :: _ :: cellsA (L ++ M) = _; rw [cellsA_append L M]; rfl
/-- A row of Attrs of the call's own, all of it at or beyond B, and not nil. -/
structure RowA (w : World) (B g n c : Nat) (L : List Att) : Prop where
  own : w.ownsRow B 87 4 (.slice (some ⟨g, 0, none⟩) n c) n (cellsA L)
  len : L.length = n
theorem RowA.below {w w' : World} {B g n c : Nat} {L : List Att} (h : RowA w B g n c L) (hb : Below w.heap.size w w') : RowA w' B g n c L :=
  ⟨World.ownsRow.kept h.own (row := none) ⟨hb.os, hb.tape, hb.output, hb.size, fun k hk _ => hb.block k hk⟩ (by simp [Value.ownBlock]), h.len⟩
theorem RowA.lt {w : World} {B g n c : Nat} {L : List Att} (h : RowA w B g n c L) : B ≤ g ∧ g < w.heap.size := World.ownsRow.lt h.own g rfl
theorem RowA.made {w : World} {B g n c : Nat} {L : List Att} (h : RowA w B g n c L) : MadeA w g L L.length := by
  have ho := h.own
  rw [← h.len] at ho
  obtain ⟨g', cap, hv, _, _, hm⟩ := own_madeA ho (by simp)
  cases hv
  exact hm
theorem RowA.owned {w w' : World} {B g n c : Nat} {L : List Att} (h : RowA w' B g n c L) (hB : w.heap.size ≤ B) : OwnA w' (some ⟨g, 0, none⟩) L (fun b => w.heap.size ≤ b ∧ b < w'.heap.size) := fun _ => ⟨g, rfl, ⟨Nat.le_trans hB h.lt.1, h.lt.2⟩, h.made⟩
theorem new_rowA (w : World) (q : Nat) (hq : q = w.heap.size) : RowA (w.alloc (.cells #[] 87)) q q 0 0 [] := ⟨new_AttrQ w q hq, rfl⟩
/-- append of one Attr, that lies in a block of its own, to a row of the call's own. -/
theorem add_att {ops : Array Oper} {rest : List Oper} {o : Oper} {a : Act} {w : World} {Q : Exit → Act → World → Prop} (B g n c : Nat) (L : List Att) (x : Att) (ty : TypeId)
    (hR : RowA w B g n c L) (hB : B ≤ w.heap.size) (hn : n ≤ 2000000) (hgd : o.guard = none) (s y : Operand)
    (ho : o.op = .call { callee := .builtin .append, args := #[s, y], argTypes := #[25, 25] }) (hs : a.eval s = .slice (some ⟨g, 0, none⟩) n c) (q : Nat) (hy : a.eval y = .slice (some ⟨q, 0, none⟩) 1 1) (hq : q = w.heap.size)
    (h : ∀ g' c' w', RowA w' B g' (n + 1) c' (L ++ [x]) → Below B w w' → w.heap.size ≤ w'.heap.size → wpList Try.prog ops Q rest (a.put o.dst (.slice (some ⟨g', 0, none⟩) (n + 1) c')) w') : wpList Try.prog ops Q (o :: rest) a (w.alloc (.cells #[.string x.pre, .string x.loc, .string x.uri, .string x.val] ty)) := by
  obtain ⟨i0, hi, hz0, hz1, hz2⟩ := info_parts infoA
  subst hq
  refine wpList_append_own _ hgd s y 25 ho B 87 i0 (.agg #[.string ⟨#[]⟩, .string ⟨#[]⟩, .string ⟨#[]⟩, .string ⟨#[]⟩]) 4 64 Try.underlying25 hi hz0 hz1 hz2 rfl (by decide) _ n (cellsA L) hs (World.ownsRow.alloc hR.own _) ⟨w.heap.size, 0, none⟩ 1 1 (cellsA [x]) hy (cellsA_len [x]) ?_ (cellsA_one [x]) ?_ ?_ ?_ ?_
  · intro j u hj
    rw [show (⟨w.heap.size, 0, none⟩ : Addr).add j = ⟨w.heap.size, j, none⟩ by rw [Addr.add_lit, Nat.zero_add]]
    exact pairs.cell_new w _ _ j u (by rw [← Array.getElem?_toList]; exact hj)
  · unfold maxLen; omega
  · omega
  · simp; omega
  · intro v' w' ho' hg hn'
    have hsz := hg.size
    rcases ho'.2 with ⟨rfl, h0⟩ | ⟨g', cap', cur, rfl, _⟩
    · exact absurd h0 (by omega)
    · refine h g' cap' w' ⟨by rw [cellsA_append]; exact ho', by rw [List.length_append, hR.len]; rfl⟩ ?_ (by simp at hsz; omega)
      have hlt := hR.lt
      exact (((Below.refl w.heap.size w).alloc (Nat.le_refl _) _).mono hB).trans ⟨hg.os, hg.tape, hg.output, hg.size, fun k hk => hg.block k (by simp; omega) (fun e => by have := (World.ownsRow.lt hR.own k e.symm).1; omega)⟩
/-- append of a slice of Attrs that is there. -/
theorem app_atts {ops : Array Oper} {rest : List Oper} {o : Oper} {a : Act} {w : World} {Q : Exit → Act → World → Prop} (B g n c : Nat) (L M : List Att) (ad : Addr) (m c2 : Nat)
    (hR : RowA w B g n c L) (hp : AttsAt w (some ad) M) (hm : M.length = m) (hz : n + m ≤ 4000000) (hB : B ≤ w.heap.size) (hgd : o.guard = none) (s x : Operand)
    (ho : o.op = .call { callee := .builtin .append, args := #[s, x], argTypes := #[25, 25] }) (hs : a.eval s = .slice (some ⟨g, 0, none⟩) n c) (hx : a.eval x = .slice (some ad) m c2)
    (h : ∀ g' c' w', RowA w' B g' (n + m) c' (L ++ M) → Below B w w' → w.heap.size ≤ w'.heap.size → wpList Try.prog ops Q rest (a.put o.dst (.slice (some ⟨g', 0, none⟩) (n + m) c')) w') : wpList Try.prog ops Q (o :: rest) a w := by
  obtain ⟨i0, hi, hz0, hz1, hz2⟩ := info_parts infoA
  subst hm
  refine wpList_append_own _ hgd s x 25 ho B 87 i0 (.agg #[.string ⟨#[]⟩, .string ⟨#[]⟩, .string ⟨#[]⟩, .string ⟨#[]⟩]) 4 64 Try.underlying25 hi hz0 hz1 hz2 rfl (by decide) _ n (cellsA L) hs hR.own ad M.length c2 (cellsA M) hx (cellsA_len M) (cellsA_here hp) (cellsA_one M) (by unfold maxLen; omega) (by omega) hB ?_
  intro v' w' ho' hg hn
  rcases ho'.2 with ⟨rfl, h0⟩ | ⟨g', cap', cur, rfl, _⟩
  · have := (hn.1 rfl).1; cases this
  · exact h g' cap' w' ⟨by rw [cellsA_append]; exact ho', by rw [List.length_append, hR.len]⟩ ((Below.refl _ _).grown hg hB (fun k hk => (World.ownsRow.lt hR.own k hk).1)) hg.size
end Go.Proofs.Ytpejcblmglbjfaa.trees
