/-
  Rows of structs of two texts (Decl) that a call makes for itself: append.
-/
import Derived.Test.YtpejcblmglbjfaaPairs
namespace Go.Proofs.Ytpejcblmglbjfaa.pairs
open Go.ChangeShapes Go.WideShapes Go.ChangeAt Go.RowKit
set_option linter.unusedVariables false
theorem new_Decl (w : World) (B : Nat) (hB : B ≤ w.heap.size) : OwnP 84 (w.alloc (.cells #[] 84)) B (.slice (some ⟨w.heap.size, 0, none⟩) 0 0) [] := World.ownsRow_made w #[] 0 hB (by decide) (by decide)
/-- append of pairs that lie in a new block of their own. -/
theorem infoO_Decl : (Try.prog.info? 84).map (fun i => (i.zero, i.size, i.bytes)) = some (some (.agg #[.string ⟨#[]⟩, .string ⟨#[]⟩]), 2, 32) := by kernel_rfl
theorem add_Decl {ops : Array Oper} {rest : List Oper} {o : Oper} {a : Act} {w : World} {Q : Exit → Act → World → Prop} (B : Nat) (v : Value) (L M : List Pair) (C : Array Value) (m : Nat)
    (hown : OwnP 84 w B v L) (hz : L.length + m ≤ 1000000) (hB : B ≤ w.heap.size) (hm : M.length = m) (hC : C = (cellsOf M).toArray) (hgd : o.guard = none) (s x : Operand)
    (ho : o.op = .call { callee := .builtin .append, args := #[s, x], argTypes := #[24, 24] }) (hs : a.eval s = v) (hx : a.eval x = .slice (some ⟨w.heap.size, 0, none⟩) m m)
    (h : ∀ v' w', OwnP 84 w' B v' (L ++ M) → w.heap.size ≤ w'.heap.size → (∀ k, k < B → w'.heap[k]? = w.heap[k]?) → w'.os = w.os → w'.tape = w.tape → w'.output = w.output → wpList Try.prog ops Q rest (a.put o.dst v') w') : wpList Try.prog ops Q (o :: rest) a (w.alloc (.cells C 84)) := by
  obtain ⟨i0, hi, hz0, hz1, hz2⟩ := info_parts infoO_Decl
  subst hm
  refine wpList_append_own _ hgd s x 24 ho B 84 i0 (.agg #[.string ⟨#[]⟩, .string ⟨#[]⟩]) 2 32 Try.underlying24 hi hz0 hz1 hz2 rfl (by decide) v L.length (cellsOf L) hs (World.ownsRow.alloc hown _) ⟨w.heap.size, 0, none⟩ M.length M.length (cellsOf M) hx (cellsOf_len M) ?_ (cells_one M) ?_ ?_ ?_ ?_
  · intro j u hj
    rw [show (⟨w.heap.size, 0, none⟩ : Addr).add j = ⟨w.heap.size, j, none⟩ by rw [Addr.add_lit, Nat.zero_add]]
    exact cell_new w C _ j u (by rw [hC]; simpa using hj)
  · unfold maxLen; omega
  · omega
  · simp; omega
  · intro v' w' ho' hg _
    have hsz := hg.size
    refine h v' w' (by unfold OwnP; rw [cellsOf_append, List.length_append]; exact ho') (by simp at hsz; omega) (fun k hk => ?_) hg.os hg.tape hg.output
    rw [hg.block k (by simp; omega) (fun e => by have := (World.ownsRow.lt hown k e.symm).1; omega)]
    exact Below.heap_alloc w _ k (by omega)
theorem append_none_Decl {w : World} (ty : TypeId) (i0 : TypeInfo) (hi : Try.prog.info? 84 = some i0) (hz0 : i0.zero = some (.agg #[.string ⟨#[]⟩, .string ⟨#[]⟩])) (hz1 : i0.size = 2) (hz2 : i0.bytes = 32) (B : Nat) (v : Value) (L : List Pair) (c : Nat) (hown : OwnP 84 w B v L) (hv : v ≠ .slice none 0 0) :
    ∃ w', (Builtin.append_ #[24, 24] ty #[v, .slice none ([] : List Pair).length c]).run Try.prog w = .ok v w' ∧ Below B w w' ∧ OwnP 84 w' B v L := by
  have hu := Try.underlying24
  rcases hown.2 with ⟨rfl, _⟩ | ⟨g, cap, cur, rfl, _, _, hnc, _⟩
  · exact absurd rfl hv
  · exact ⟨w, by simp [Builtin.append_, run_underlying hu, sizeOf, typeInfo, hi, Builtin.lenOf, Builtin.firstCells, hnc, storeCells], Below.refl _ _, hown⟩
/-- append of a slice of pairs that is there. -/
theorem app_Decl {ops : Array Oper} {rest : List Oper} {o : Oper} {a : Act} {w : World} {Q : Exit → Act → World → Prop} (B : Nat) (v : Value) (L M : List Pair) (ad : Option Addr) (c : Nat)
    (hown : OwnP 84 w B v L) (hp : PairsAt w ad M) (hz : L.length + M.length ≤ 4000000) (hB : B ≤ w.heap.size) (hv : v ≠ .slice none 0 0) (hgd : o.guard = none) (s x : Operand)
    (ho : o.op = .call { callee := .builtin .append, args := #[s, x], argTypes := #[24, 24] }) (hs : a.eval s = v) (hx : a.eval x = .slice ad M.length c)
    (h : ∀ v' w', OwnP 84 w' B v' (L ++ M) → Below B w w' → v' ≠ .slice none 0 0 → wpList Try.prog ops Q rest (a.put o.dst v') w') : wpList Try.prog ops Q (o :: rest) a w := by
  obtain ⟨i0, hi, hz0, hz1, hz2⟩ := info_parts infoO_Decl
  cases ad with
  | none =>
    have hM : M = [] := by
      cases M with
      | nil => rfl
      | cons p r =>
        obtain ⟨b, off, ha, _⟩ := hp.row (by simp)
        cases ha
    subst hM
    obtain ⟨w', hr, hg, ho'⟩ := append_none_Decl (w := w) o.type i0 hi hz0 hz1 hz2 B v L c hown hv
    exact wpList_run hgd s x 24 ho v _ v hs hx hr (h v w' (by rw [List.append_nil]; exact ho') hg hv)
  | some ad =>
    refine wpList_append_own _ hgd s x 24 ho B 84 i0 (.agg #[.string ⟨#[]⟩, .string ⟨#[]⟩]) 2 32 Try.underlying24 hi hz0 hz1 hz2 rfl (by decide) v L.length (cellsOf L) hs hown ad M.length c (cellsOf M) hx (cellsOf_len M) ?_ (cells_one M) ?_ ?_ hB ?_
    · intro j u hj
      have hjl : j < M.length * 2 := by
        have := (List.getElem?_eq_some_iff.1 hj).1
        rwa [cellsOf_len] at this
      obtain ⟨b, off, ha, _, hc⟩ := hp.row (by omega)
      cases ha
      obtain ⟨d1, d2⟩ := hc (j / 2) (by omega)
      obtain ⟨e1, e2⟩ := cellsOf_at M (j / 2) (by omega)
      rw [Addr.add_lit]
      rcases Nat.mod_two_eq_zero_or_one j with hm | hm
      · rw [show j / 2 * 2 = j by omega] at d1 e1
        rw [d1, ← e1, hj]
      · rw [show off + j / 2 * 2 + 1 = off + j by omega] at d2
        rw [show j / 2 * 2 + 1 = j by omega] at e2
        rw [d2, ← e2, hj]
    · unfold maxLen; omega
    · omega
    · intro v' w' ho' hg hn
      refine h v' w' (by unfold OwnP; rw [cellsOf_append, List.length_append]; exact ho') ((Below.refl _ _).grown hg hB (fun k hk => (World.ownsRow.lt hown k hk).1)) (fun e => hv (hn.1 e).1)
end Go.Proofs.Ytpejcblmglbjfaa.pairs
