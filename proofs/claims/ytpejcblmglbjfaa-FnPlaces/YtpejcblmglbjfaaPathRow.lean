/-
  Rows of paths (slices of slices of whole numbers) that a call makes for itself.
-/
import Derived.Test.YtpejcblmglbjfaaPlacesP
import Derived.Test.YtpejcblmglbjfaaIntFns
import Derived.Test.YtpejcblmglbjfaaRowsAtt
namespace Go.Proofs.Ytpejcblmglbjfaa.places
open Go.ChangeShapes Go.WideShapes Go.ChangeAt Go.RowKit
open trees (Tree Hdr noTree kid nsz nszs tsize ksize Bset Inc Apart Out Rng)
open ints (int0 okI IFit IntsAt MadeI)
set_option linter.unusedVariables false
theorem box_bel {w w' : World} {b : Nat} {o : Obj} (h : w.heap[b]? = some o) (hb : Below w.heap.size w w') : w'.heap[b]? = some o := (hb.block b (pairs.lt_heap h)).trans h
theorem PFit.at {p : List Int} (h : PFit p) : p.length ≤ maxLen ∧ ∀ i, i < p.length → okI (int0 p i) := by
  refine ⟨Nat.le_trans h.1 (by unfold maxLen; omega), fun i hi => h.2 _ ?_⟩
  unfold int0
  rw [List.getD_eq_getElem?_getD, List.getElem?_eq_getElem hi]
  exact List.getElem_mem hi
/-! ### One path -/
def cellsI (L : List Int) : List Value := L.map (Value.int .i64)
theorem cellsI_len (L : List Int) : (cellsI L).length = L.length * 1 := by unfold cellsI; simp
theorem cellsI_at (L : List Int) (i : Nat) (h : i < L.length) : (cellsI L)[i]? = some (.int .i64 (int0 L i)) := by
  unfold cellsI int0
  rw [List.getElem?_map, List.getElem?_eq_getElem h, List.getD_eq_getElem?_getD, List.getElem?_eq_getElem h]
  rfl
theorem cellsI_one (L : List Int) : ∀ u ∈ cellsI L, u.oneCell' = true := by
  intro u hu
  unfold cellsI at hu
  obtain ⟨x, _, rfl⟩ := List.mem_map.1 hu
  rfl
theorem cellsI_append (L M : List Int) : cellsI (L ++ M) = cellsI L ++ cellsI M := by unfold cellsI; rw [List.map_append]
theorem cellsI_here {w : World} {ad : Addr} {L : List Int} (hp : IntsAt w (some ad) L) : ∀ j u, (cellsI L)[j]? = some u → w.cell? (ad.add j) = some u := by
  intro j u hj
  have hjl : j < L.length := by
    have := (List.getElem?_eq_some_iff.1 hj).1
    rwa [cellsI_len, Nat.mul_one] at this
  obtain ⟨b, off, ha, _, hc⟩ := hp.row (by omega)
  cases ha
  rw [Addr.add_lit, hc j hjl, ← cellsI_at L j hjl, hj]
theorem infoI : (Try.prog.info? 3).map (fun i => (i.zero, i.size, i.bytes)) = some (some (.int .i64 0), 1, 8) := by kernel_rfl
theorem infoS : (Try.prog.info? 32).map (fun i => (i.zero, i.size, i.bytes)) = some (some (.slice none 0 0), 1, 24) := by kernel_rfl
/-- A row of numbers of the call's own, all of it at or beyond B, and not nil. -/
structure RowI (w : World) (B g n c : Nat) (L : List Int) : Prop where
  own : w.ownsRow B 3 1 (.slice (some ⟨g, 0, none⟩) n c) n (cellsI L)
  len : L.length = n
theorem RowI.below {w w' : World} {B g n c : Nat} {L : List Int} (h : RowI w B g n c L) (hb : Below w.heap.size w w') : RowI w' B g n c L :=
  ⟨World.ownsRow.kept h.own (row := none) ⟨hb.os, hb.tape, hb.output, hb.size, fun k hk _ => hb.block k hk⟩ (by simp [Value.ownBlock]), h.len⟩
theorem RowI.lt {w : World} {B g n c : Nat} {L : List Int} (h : RowI w B g n c L) : B ≤ g ∧ g < w.heap.size := World.ownsRow.lt h.own g rfl
theorem RowI.made {w : World} {B g n c : Nat} {L : List Int} (h : RowI w B g n c L) : MadeI w g L L.length := by
  rcases h.own.2 with ⟨e, _⟩ | ⟨g', cap, cur, e, h0, h1, h2, h3, h4, h5⟩
  · cases e
  · cases e
    refine ⟨cur, _, h1, by rw [h.len, h4]; omega, fun j hj => ?_⟩
    have h6 := cellsI_at L j hj
    rw [← h5, List.getElem?_take, if_pos (by rw [h.len] at hj; omega)] at h6
    simpa using h6
theorem new_rowI (w : World) : RowI (w.alloc (.cells #[] 3)) w.heap.size w.heap.size 0 0 [] := ⟨World.ownsRow_made w #[] 0 (Nat.le_refl _) (Nat.zero_le _) rfl, rfl⟩
/-- append of all numbers that are there to a new row. -/
theorem app_path {ops : Array Oper} {rest : List Oper} {o : Oper} {a : Act} {w : World} {Q : Exit → Act → World → Prop} (B g : Nat) (p : List Int) (ad : Option Addr) (m c : Nat)
    (hR : RowI w B g 0 0 []) (hp : IntsAt w ad p) (hm : p.length = m) (hz : m ≤ 4000000) (hB : B ≤ w.heap.size) (hgd : o.guard = none) (s x : Operand)
    (ho : o.op = .call { callee := .builtin .append, args := #[s, x], argTypes := #[32, 32] }) (hs : a.eval s = .slice (some ⟨g, 0, none⟩) 0 0) (hx : a.eval x = .slice ad m c)
    (h : ∀ g' c' w', RowI w' B g' m c' p → Below B w w' → w.heap.size ≤ w'.heap.size → wpList Try.prog ops Q rest (a.put o.dst (.slice (some ⟨g', 0, none⟩) m c')) w') : wpList Try.prog ops Q (o :: rest) a w := by
  obtain ⟨i0, hi, hz0, hz1, hz2⟩ := info_parts infoI
  subst hm
  refine trees.app_new B _ 32 3 i0 _ 1 8 Try.underlying32 hi hz0 hz1 hz2 rfl (by decide) (by decide) p.length (cellsI p) ad c hR.own (cellsI_len p) (fun a0 e => cellsI_here (e ▸ hp)) (fun e => ?_) (cellsI_one p) hz hB (by simp) hgd s x ho hs hx ?_
  · cases p with
    | nil => rfl
    | cons y r =>
      obtain ⟨b, off, ha, _⟩ := hp.row (by simp)
      rw [e] at ha; cases ha
  · intro v' w' ho' hb hv
    rcases ho'.2 with ⟨rfl, _⟩ | ⟨g', cap', cur, rfl, _⟩
    · exact absurd rfl hv
    · exact h g' cap' w' ⟨ho', rfl⟩ hb hb.size
/-- append of one number, that lies in a block of its own. -/
theorem add_int {ops : Array Oper} {rest : List Oper} {o : Oper} {a : Act} {w : World} {Q : Exit → Act → World → Prop} (B g n c : Nat) (L : List Int) (x : Int) (ty : TypeId)
    (hR : RowI w B g n c L) (hB : B ≤ w.heap.size) (hn : n ≤ 2000000) (hgd : o.guard = none) (s y : Operand)
    (ho : o.op = .call { callee := .builtin .append, args := #[s, y], argTypes := #[32, 32] }) (hs : a.eval s = .slice (some ⟨g, 0, none⟩) n c) (q : Nat) (hy : a.eval y = .slice (some ⟨q, 0, none⟩) 1 1) (hq : q = w.heap.size)
    (h : ∀ g' c' w', RowI w' B g' (n + 1) c' (L ++ [x]) → Below B w w' → w.heap.size ≤ w'.heap.size → wpList Try.prog ops Q rest (a.put o.dst (.slice (some ⟨g', 0, none⟩) (n + 1) c')) w') : wpList Try.prog ops Q (o :: rest) a (w.alloc (.cells #[.int .i64 x] ty)) := by
  obtain ⟨i0, hi, hz0, hz1, hz2⟩ := info_parts infoI
  subst hq
  refine wpList_append_own _ hgd s y 32 ho B 3 i0 (.int .i64 0) 1 8 Try.underlying32 hi hz0 hz1 hz2 rfl (by decide) _ n (cellsI L) hs (World.ownsRow.alloc hR.own _) ⟨w.heap.size, 0, none⟩ 1 1 (cellsI [x]) hy (cellsI_len [x]) ?_ (cellsI_one [x]) ?_ ?_ ?_ ?_
  · intro j u hj
    rw [show (⟨w.heap.size, 0, none⟩ : Addr).add j = ⟨w.heap.size, j, none⟩ by rw [Addr.add_lit, Nat.zero_add]]
    exact pairs.cell_new w _ _ j u (by rw [← Array.getElem?_toList]; exact hj)
  · unfold maxLen; omega
  · omega
  · simp; omega
  · intro v' w' ho' hg hn'
    have hsz := hg.size
    rcases ho'.2 with ⟨rfl, h0⟩ | ⟨g', cap', cur, rfl, _⟩
    · exact absurd h0 (by omega)
    · refine h g' cap' w' ⟨by rw [cellsI_append]; exact ho', by rw [List.length_append, hR.len]; rfl⟩ ?_ (by simp at hsz; omega)
      have hlt := hR.lt
      exact (((Below.refl w.heap.size w).alloc (Nat.le_refl _) _).mono hB).trans ⟨hg.os, hg.tape, hg.output, hg.size, fun k hk => hg.block k (by simp; omega) (fun e => by have := (World.ownsRow.lt hR.own k e.symm).1; omega)⟩
/-! ### Rows of paths -/
def path0 (L : List (List Int)) (i : Nat) : List Int := L.getD i []
/-- A value that shows a path, all of it at or beyond B. -/
def PathIn (w : World) (B : Nat) (v : Value) (p : List Int) : Prop := ∃ g c cur, v = .slice (some ⟨g, 0, none⟩) p.length c ∧ B ≤ g ∧ w.heap[g]? = some (.cells cur 3 (0, 0)) ∧ p.length ≤ cur.size ∧ ∀ j, j < p.length → cur[j]? = some (.int .i64 (int0 p j))
theorem PathIn.out {w w' : World} {B : Nat} {v : Value} {p : List Int} (h : PathIn w B v p) (ho : ∀ k, B ≤ k → k < w.heap.size → (∃ cur, w.heap[k]? = some (.cells cur 3 (0, 0))) → w'.heap[k]? = w.heap[k]?) : PathIn w' B v p := by
  obtain ⟨g, c, cur, hv, hB, h1, h2, h3⟩ := h
  exact ⟨g, c, cur, hv, hB, (ho g hB (pairs.lt_heap h1) ⟨cur, h1⟩).trans h1, h2, h3⟩
theorem PathIn.below {w w' : World} {B : Nat} {v : Value} {p : List Int} (h : PathIn w B v p) (hb : Below w.heap.size w w') : PathIn w' B v p := h.out fun k _ hk _ => hb.block k hk
theorem PathIn.mono {w : World} {B B' : Nat} {v : Value} {p : List Int} (h : PathIn w B v p) (hb : B' ≤ B) : PathIn w B' v p := by
  obtain ⟨g, c, cur, hv, hB, hm⟩ := h
  exact ⟨g, c, cur, hv, Nat.le_trans hb hB, hm⟩
theorem RowI.path {w : World} {B g n c : Nat} {L : List Int} (h : RowI w B g n c L) : PathIn w B (.slice (some ⟨g, 0, none⟩) n c) L := by
  rcases h.own.2 with ⟨e, _⟩ | ⟨g', cap, cur, e, h0, h1, h2, h3, h4, h5⟩
  · cases e
  · cases e
    refine ⟨g, c, cur, by rw [h.len], h0, h1, by rw [h.len, h4]; omega, fun j hj => ?_⟩
    have h6 := cellsI_at L j hj
    rw [← h5, List.getElem?_take, if_pos (by rw [h.len] at hj; omega)] at h6
    simpa using h6
theorem PathIn.ints {w : World} {B : Nat} {v : Value} {p : List Int} (h : PathIn w B v p) (hl : p.length ≤ maxLen) (hf : ∀ i, i < p.length → okI (int0 p i)) : ∃ g c, v = .slice (some ⟨g, 0, none⟩) p.length c ∧ IntsAt w (some ⟨g, 0, none⟩) p := by
  obtain ⟨g, c, cur, hv, hB, h1, h2, h3⟩ := h
  exact ⟨g, c, hv, MadeI.ints ⟨cur, _, h1, h2, h3⟩ hl hf⟩
/-- Values that show paths. -/
structure PathsIn (w : World) (B : Nat) (S : List Value) (L : List (List Int)) : Prop where
  len : S.length = L.length
  all : ∀ i, i < L.length → ∃ v, S[i]? = some v ∧ PathIn w B v (path0 L i)
theorem PathsIn.below {w w' : World} {B : Nat} {S : List Value} {L : List (List Int)} (h : PathsIn w B S L) (hb : Below w.heap.size w w') : PathsIn w' B S L :=
  ⟨h.len, fun i hi => by obtain ⟨v, h1, h2⟩ := h.all i hi; exact ⟨v, h1, h2.below hb⟩⟩
theorem PathsIn.mono {w : World} {B B' : Nat} {S : List Value} {L : List (List Int)} (h : PathsIn w B S L) (hb : B' ≤ B) : PathsIn w B' S L :=
  ⟨h.len, fun i hi => by obtain ⟨v, h1, h2⟩ := h.all i hi; exact ⟨v, h1, h2.mono hb⟩⟩
theorem PathsIn.out {w w' : World} {B : Nat} {S : List Value} {L : List (List Int)} (h : PathsIn w B S L) (ho : ∀ k, B ≤ k → k < w.heap.size → (∃ cur, w.heap[k]? = some (.cells cur 3 (0, 0))) → w'.heap[k]? = w.heap[k]?) : PathsIn w' B S L :=
  ⟨h.len, fun i hi => by obtain ⟨v, h1, h2⟩ := h.all i hi; exact ⟨v, h1, h2.out ho⟩⟩
theorem path_left {L M : List (List Int)} {i : Nat} (h : i < L.length) : path0 (L ++ M) i = path0 L i := by unfold path0; rw [List.getD_eq_getElem?_getD, List.getD_eq_getElem?_getD, List.getElem?_append_left h]
theorem path_right {L M : List (List Int)} {i : Nat} (h : L.length ≤ i) : path0 (L ++ M) i = path0 M (i - L.length) := by unfold path0; rw [List.getD_eq_getElem?_getD, List.getD_eq_getElem?_getD, List.getElem?_append_right h]
theorem PathsIn.app {w : World} {B : Nat} {S S' : List Value} {L L' : List (List Int)} (h : PathsIn w B S L) (h' : PathsIn w B S' L') : PathsIn w B (S ++ S') (L ++ L') := by
  refine ⟨by rw [List.length_append, List.length_append, h.len, h'.len], fun i hi => ?_⟩
  by_cases hl : i < L.length
  · obtain ⟨v, h1, h2⟩ := h.all i hl
    exact ⟨v, by rw [List.getElem?_append_left (by rw [h.len]; exact hl)]; exact h1, by rw [path_left hl]; exact h2⟩
  · rw [List.length_append] at hi
    obtain ⟨v, h1, h2⟩ := h'.all (i - L.length) (by omega)
    exact ⟨v, by rw [List.getElem?_append_right (by rw [h.len]; omega), h.len]; exact h1, by rw [path_right (by omega)]; exact h2⟩
theorem PathsIn.one {w : World} {B : Nat} {v : Value} {p : List Int} (h : PathIn w B v p) : PathsIn w B [v] [p] := by
  refine ⟨rfl, fun i hi => ?_⟩
  have : i = 0 := by simpa using hi
  subst this
  exact ⟨v, rfl, h⟩
theorem PathsIn.cells {w : World} {B : Nat} {S : List Value} {L : List (List Int)} (h : PathsIn w B S L) : ∀ u ∈ S, u.oneCell' = true := by
  intro u hu
  obtain ⟨i, hi, rfl⟩ := List.mem_iff_getElem.1 hu
  obtain ⟨v, h1, g, c, _, rfl, _⟩ := h.all i (by rw [← h.len]; exact hi)
  rw [List.getElem?_eq_getElem hi] at h1
  rw [Option.some.inj h1]
  rfl
/-- A row of slices of the call's own. -/
structure RowQ (w : World) (B g n c : Nat) (S : List Value) : Prop where
  own : w.ownsRow B 32 1 (.slice (some ⟨g, 0, none⟩) n c) n S
theorem RowQ.below {w w' : World} {B g n c : Nat} {S : List Value} (h : RowQ w B g n c S) (hb : Below w.heap.size w w') : RowQ w' B g n c S :=
  ⟨World.ownsRow.kept h.own (row := none) ⟨hb.os, hb.tape, hb.output, hb.size, fun k hk _ => hb.block k hk⟩ (by simp [Value.ownBlock])⟩
theorem RowQ.lt {w : World} {B g n c : Nat} {S : List Value} (h : RowQ w B g n c S) : B ≤ g ∧ g < w.heap.size := World.ownsRow.lt h.own g rfl
theorem RowQ.len {w : World} {B g n c : Nat} {S : List Value} (h : RowQ w B g n c S) : S.length = n := by have := h.own.1; omega
theorem RowQ.cells {w : World} {B g n c : Nat} {S : List Value} (h : RowQ w B g n c S) : ∃ cur, w.heap[g]? = some (.cells cur 32 (0, 0)) ∧ n ≤ cur.size ∧ ∀ j, j < n → cur[j]? = S[j]? := by
  rcases h.own.2 with ⟨e, _⟩ | ⟨g', cap, cur, e, h0, h1, h2, h3, h4, h5⟩
  · cases e
  · cases e
    refine ⟨cur, h1, by omega, fun j hj => ?_⟩
    rw [← h5, List.getElem?_take, if_pos (by omega)]
    simp
theorem RowQ.mono {w : World} {B B' g n c : Nat} {S : List Value} (h : RowQ w B g n c S) (hb : B' ≤ B) : RowQ w B' g n c S := by
  rcases h.own.2 with ⟨e, _⟩ | ⟨g', cap, cur, e, h0, h1⟩
  · cases e
  · exact ⟨h.own.1, .inr ⟨g', cap, cur, e, Nat.le_trans hb h0, h1⟩⟩
/-- What an append to a row of slices leaves of the paths. -/
theorem PathsIn.grown {w w' : World} {B B' g n c : Nat} {S S' : List Value} {L : List (List Int)} (h : PathsIn w B S L) (hR : RowQ w B' g n c S') (hg : w.grownBy w' (some g)) : PathsIn w' B S L := by
  obtain ⟨cur, e1, _, _⟩ := hR.cells
  refine h.out fun k _ hk ⟨cur', e2⟩ => hg.block k hk (fun e => ?_)
  cases e
  rw [e1] at e2
  exact absurd (Obj.cells.inj (Option.some.inj e2)).2.1 (by decide)
/-- A row of one slice, laid by a literal. -/
theorem one_row (w : World) (v : Value) (B q : Nat) (hB : B ≤ w.heap.size) (hq : q = w.heap.size) : RowQ (w.alloc (.cells #[v] 32)) B q 1 1 [v] := by
  subst hq
  exact ⟨rfl, .inr ⟨w.heap.size, 1, #[v], rfl, hB, heap_alloc_new w _, Nat.le_refl _, by unfold maxLen; omega, rfl, rfl⟩⟩
/-- append of slices that are there. -/
theorem app_rows {ops : Array Oper} {rest : List Oper} {o : Oper} {a : Act} {w : World} {Q : Exit → Act → World → Prop} (B g n c : Nat) (S : List Value) (B2 g2 m c2 : Nat) (S2 : List Value)
    (hR : RowQ w B g n c S) (hp : RowQ w B2 g2 m c2 S2) (h1 : ∀ u ∈ S2, u.oneCell' = true) (hz : n + m ≤ 4000000) (hB : B ≤ w.heap.size) (hgd : o.guard = none) (s x : Operand)
    (ho : o.op = .call { callee := .builtin .append, args := #[s, x], argTypes := #[30, 30] }) (hs : a.eval s = .slice (some ⟨g, 0, none⟩) n c) (hx : a.eval x = .slice (some ⟨g2, 0, none⟩) m c2)
    (h : ∀ g' c' w', RowQ w' B g' (n + m) c' (S ++ S2) → Below B w w' → w.heap.size ≤ w'.heap.size → w.grownBy w' (some g) → wpList Try.prog ops Q rest (a.put o.dst (.slice (some ⟨g', 0, none⟩) (n + m) c')) w') : wpList Try.prog ops Q (o :: rest) a w := by
  obtain ⟨i0, hi, hz0, hz1, hz2⟩ := info_parts infoS
  obtain ⟨cur2, e1, e2, e3⟩ := hp.cells
  refine wpList_append_own _ hgd s x 30 ho B 32 i0 (.slice none 0 0) 1 24 Try.underlying30 hi hz0 hz1 hz2 rfl (by decide) _ n S hs hR.own ⟨g2, 0, none⟩ m c2 S2 hx (by rw [hp.len, Nat.mul_one]) ?_ h1 (by unfold maxLen; omega) (by omega) hB ?_
  · intro j u hj
    have hjm : j < m := by have := (List.getElem?_eq_some_iff.1 hj).1; rwa [hp.len] at this
    rw [show (⟨g2, 0, none⟩ : Addr).add j = ⟨g2, j, none⟩ by rw [Addr.add_lit, Nat.zero_add]]
    have := e3 j hjm
    rw [hj] at this
    simp [World.cell?, e1, this]
  · intro v' w' ho' hg hn
    rcases ho'.2 with ⟨rfl, h0⟩ | ⟨g', cap', cur, rfl, _⟩
    · have := (hn.1 rfl).1; cases this
    · exact h g' cap' w' ⟨ho'⟩ ((Below.refl _ _).grown hg hB (fun k hk => (World.ownsRow.lt hR.own k hk).1)) hg.size hg
end Go.Proofs.Ytpejcblmglbjfaa.places
