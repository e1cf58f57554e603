/-
  Slices of structs of two texts, in memory.
-/
import Derived.Test.YtpejcblmglbjfaaRows
import Derived.WalkKit
import Derived.ProofKit
import Derived.Outline
import Derived.LoopTactic
import Derived.OwnWalk
import Derived.Below
import Derived.WalkSmall
import Derived.Laws.OwnMore
namespace Go.Proofs.Ytpejcblmglbjfaa.pairs
open Go.ChangeShapes Go.WideShapes Go.ChangeAt Go.RowKit
set_option linter.unusedVariables false

abbrev Pair := ByteArray × ByteArray
def at0 (L : List Pair) (i : Nat) : Pair := L.getD i (⟨#[]⟩, ⟨#[]⟩)
/-- A slice at a of just these pairs. -/
structure PairsAt (w : World) (a : Option Addr) (L : List Pair) : Prop where
  row : 0 < L.length → ∃ b off, a = some ⟨b, off, none⟩ ∧ b < w.heap.size ∧ ∀ i, i < L.length → w.cell? ⟨b, off + i * 2, none⟩ = some (.string (at0 L i).1) ∧ w.cell? ⟨b, off + i * 2 + 1, none⟩ = some (.string (at0 L i).2)
  short : L.length ≤ maxLen
  texts : ∀ i, i < L.length → (at0 L i).1.size ≤ maxLen ∧ (at0 L i).2.size ≤ maxLen
theorem PairsAt.below {w w' : World} {a : Option Addr} {L : List Pair} (h : PairsAt w a L) {B : Nat} (hB : w.heap.size ≤ B) (hb : Below B w w') : PairsAt w' a L :=
  ⟨fun h0 => by
    obtain ⟨b, off, ha, hlt, hc⟩ := h.row h0
    refine ⟨b, off, ha, Nat.lt_of_lt_of_le hlt hb.size, fun i hi => ?_⟩
    rw [hb.cell (p := ⟨b, off + i * 2, none⟩) (Nat.lt_of_lt_of_le hlt hB), hb.cell (p := ⟨b, off + i * 2 + 1, none⟩) (Nat.lt_of_lt_of_le hlt hB)]
    exact hc i hi, h.short, h.texts⟩
theorem nil_pairs (w : World) : PairsAt w none [] := ⟨fun h => absurd h (by simp), by simp, fun i hi => by cases hi⟩
theorem both_texts {L M : List Pair} (h : ∀ i, i < L.length → (at0 L i).1.size ≤ maxLen ∧ (at0 L i).2.size ≤ maxLen) (h' : ∀ i, i < M.length → (at0 M i).1.size ≤ maxLen ∧ (at0 M i).2.size ≤ maxLen) : ∀ i, i < (L ++ M).length → (at0 (L ++ M) i).1.size ≤ maxLen ∧ (at0 (L ++ M) i).2.size ≤ maxLen := fun i hi => by
  unfold at0
  rw [List.length_append] at hi
  by_cases hl : i < L.length
  · have e := h i hl
    unfold at0 at e
    rw [List.getD_eq_getElem?_getD, List.getElem?_append_left hl, ← List.getD_eq_getElem?_getD]
    exact e
  · have e := h' (i - L.length) (by omega)
    unfold at0 at e
    rw [List.getD_eq_getElem?_getD, List.getElem?_append_right (by omega), ← List.getD_eq_getElem?_getD]
    exact e
def sizeTo (L : List Pair) : Nat → Nat
  | 0 => 0
  | k + 1 => sizeTo L k + (at0 L k).1.size + (at0 L k).2.size
theorem sizeTo_one (L : List Pair) : ∀ {k i : Nat}, i < k → (at0 L i).1.size + (at0 L i).2.size ≤ sizeTo L k
  | 0, i, h => by omega
  | k + 1, i, h => by
    rw [sizeTo]
    by_cases e : i = k
    · rw [e]; omega
    · have := sizeTo_one L (k := k) (i := i) (by omega)
      omega
/-- All that came is small: no more values and letters than n. -/
def Small (L : List Pair) (n : Nat) : Prop := L.length + sizeTo L L.length ≤ n
theorem Small.texts {L : List Pair} {n i : Nat} (h : Small L n) (hi : i < L.length) : (at0 L i).1.size ≤ n ∧ (at0 L i).2.size ≤ n := by
  have := sizeTo_one L hi
  unfold Small at h
  omega
theorem Small.len {L : List Pair} {n : Nat} (h : Small L n) : L.length ≤ n := by unfold Small at h; omega
def strOf : Value → ByteArray | .string s => s | _ => ⟨#[]⟩
theorem ret_int {a b : Int} (h : a = b) : Ending.returned (.int .i64 a) = .returned (.int .i64 b) := by rw [h]
theorem ret_bool {a b : Bool} (h : a = b) : Ending.returned (.bool a) = .returned (.bool b) := by rw [h]
theorem upon_of_run {P : Program} {o : Oper} {a : Act} {K : Act → World → Prop} {Q : Exit → Act → World → Prop} {r r' : Result Value} {f : Value → World → Result Next} (h : r = r') (hK : Oper.upon P o a K Q (r'.andThen f)) : Oper.upon P o a K Q (r.andThen f) := by rw [h]; exact hK
/-- A row of the call's own, of as many pairs, the first k of which are there already. -/
structure Made (w : World) (g : Nat) (L : List Pair) (k : Nat) : Prop where
  all : ∃ (cur : Array Value) (t : TypeId), w.heap[g]? = some (.cells cur t (0, 0)) ∧ L.length * 2 ≤ cur.size ∧ ∀ j, j < k → cur[j * 2]? = some (.string (at0 L j).1) ∧ cur[j * 2 + 1]? = some (.string (at0 L j).2)
theorem made_new {w : World} {B g cap : Nat} {t : TypeId} {L : List Pair} {xs : List Value} (h : w.ownsRow B t 2 (.slice (some ⟨g, 0, none⟩) L.length cap) L.length xs) (hc : cap = L.length) : Made w g L 0 := by
  rcases h.2 with ⟨h', _⟩ | ⟨g', cap', cur, h', _, hg, _, _, hs, _⟩
  · cases h'
  · cases h'
    subst hc
    exact ⟨cur, t, hg, by omega, fun j hj => by omega⟩
theorem lt_heap {w : World} {g : Nat} {o : Obj} (h : w.heap[g]? = some o) : g < w.heap.size := (Array.getElem?_eq_some_iff.1 h).1
theorem block_set {w : World} {g i : Nat} {cur : Array Value} {t : TypeId} (u : Value) (h : w.heap[g]? = some (.cells cur t (0, 0))) : (w.setCell ⟨g, i, none⟩ u).heap[g]? = some (.cells (cur.setIfInBounds i u) t (0, 0)) := by
  have hlt := lt_heap h
  have h' : w.heap[g] = .cells cur t (0, 0) := by simpa [Array.getElem?_eq_getElem hlt] using h
  show (w.heap.modify g _)[g]? = _
  rw [Array.getElem?_eq_getElem (by simpa using hlt), Array.getElem_modify_self, h']
  rfl
theorem Made.next {w w2 : World} {g : Nat} {L : List Pair} {k : Nat} (h : Made w g L k) (hk : k < L.length) (hb : Below w.heap.size w w2) :
    ∃ c1 c2, w2.cell? ⟨g, k * 2, none⟩ = some c1 ∧ w2.cell? ⟨g, k * 2 + 1, none⟩ = some c2 ∧ w2.frozen? ⟨g, k * 2, none⟩ = false ∧ w2.frozen? ⟨g, k * 2 + 1, none⟩ = false ∧
      Made ((w2.setCell ⟨g, k * 2, none⟩ (.string (at0 L k).1)).setCell ⟨g, k * 2 + 1, none⟩ (.string (at0 L k).2)) g L (k + 1) := by
  obtain ⟨cur, t, hg, hs, hj⟩ := h
  have hg2 : w2.heap[g]? = some (.cells cur t (0, 0)) := (hb.block g (lt_heap hg)).trans hg
  have h1 : k * 2 < cur.size := by omega
  have h2 : k * 2 + 1 < cur.size := by omega
  refine ⟨cur[k * 2], cur[k * 2 + 1], by simp [World.cell?, hg2, h1], by simp [World.cell?, hg2, h2], by simp [World.frozen?, hg2], by simp [World.frozen?, hg2], _, t, block_set _ (block_set _ hg2), by simpa using hs, fun j hj' => ?_⟩
  by_cases e : j = k
  · subst e
    constructor
    · rw [Array.getElem?_setIfInBounds_ne (by omega), Array.getElem?_setIfInBounds_self_of_lt h1]
    · rw [Array.getElem?_setIfInBounds_self_of_lt (by simpa using h2)]
  · obtain ⟨a1, a2⟩ := hj j (by omega)
    constructor
    · rw [Array.getElem?_setIfInBounds_ne (by omega), Array.getElem?_setIfInBounds_ne (by omega)]
      exact a1
    · rw [Array.getElem?_setIfInBounds_ne (by omega), Array.getElem?_setIfInBounds_ne (by omega)]
      exact a2
theorem Made.pairs {w : World} {g : Nat} {L : List Pair} (h : Made w g L L.length) (hl : L.length ≤ maxLen) (ht : ∀ i, i < L.length → (at0 L i).1.size ≤ maxLen ∧ (at0 L i).2.size ≤ maxLen) : PairsAt w (some ⟨g, 0, none⟩) L := by
  obtain ⟨cur, t, hg, hs, hj⟩ := h
  refine ⟨fun _ => ⟨g, 0, rfl, lt_heap hg, fun i hi => ?_⟩, hl, ht⟩
  obtain ⟨a1, a2⟩ := hj i hi
  constructor
  · simp [World.cell?, hg, a1]
  · simp [World.cell?, hg, a2]
theorem below_set {B : Nat} {w w' : World} {g i : Nat} {u : Value} (h : Below B w w') (hg : B ≤ g) : Below B w (w'.setCell ⟨g, i, none⟩ u) := h.setCell hg u
/-! ### Rows of pairs that a call makes for itself -/
def cellsOf : List Pair → List Value
  | [] => []
  | p :: r => .string p.1 :: .string p.2 :: cellsOf r
theorem cellsOf_append : ∀ (L M : List Pair), cellsOf (L ++ M) = cellsOf L ++ cellsOf M
  | [], _ => rfl
  | p :: L, M => by show _ :: _ :: cellsOf (L ++ M) = _; rw [cellsOf_append L M]; rfl
theorem cellsOf_len : ∀ L : List Pair, (cellsOf L).length = L.length * 2
  | [] => rfl
  | p :: L => by show (cellsOf L).length + 1 + 1 = _; rw [cellsOf_len L, List.length_cons]; omega
theorem cellsOf_at : ∀ (L : List Pair) (i : Nat), i < L.length → (cellsOf L)[i * 2]? = some (.string (at0 L i).1) ∧ (cellsOf L)[i * 2 + 1]? = some (.string (at0 L i).2)
  | [], i, h => by simp at h
  | p :: L, 0, _ => ⟨rfl, rfl⟩
  | p :: L, i + 1, h => by
    have ih := cellsOf_at L i (by simpa using h)
    have e : (i + 1) * 2 = i * 2 + 1 + 1 := by omega
    rw [e]
    exact ih
theorem cells_one : ∀ (M : List Pair), ∀ u ∈ cellsOf M, u.oneCell' = true
  | [], u, hu => by cases hu
  | p :: M, u, hu => by
    simp only [cellsOf, List.mem_cons] at hu
    rcases hu with rfl | rfl | hu
    · rfl
    · rfl
    · exact cells_one M u hu
def OwnP (t : TypeId) (w : World) (B : Nat) (v : Value) (L : List Pair) : Prop := w.ownsRow B t 2 v L.length (cellsOf L)
theorem OwnP.pairs {t : TypeId} {w : World} {B : Nat} {v : Value} {L : List Pair} (h : OwnP t w B v L) (hl : L.length ≤ maxLen) (ht : ∀ i, i < L.length → (at0 L i).1.size ≤ maxLen ∧ (at0 L i).2.size ≤ maxLen) : ∃ a cap, v = .slice a L.length cap ∧ PairsAt w a L := by
  rcases h.2 with ⟨rfl, hn⟩ | ⟨g, cap, cur, rfl, h0, h1, h2, h3, h4, h5⟩
  · rw [hn]
    exact ⟨none, 0, rfl, ⟨fun h => by omega, hl, ht⟩⟩
  · refine ⟨_, cap, rfl, ⟨fun _ => ⟨g, 0, rfl, lt_heap h1, fun i hi => ?_⟩, hl, ht⟩⟩
    obtain ⟨a1, a2⟩ := cellsOf_at L i hi
    rw [Nat.zero_add]
    exact ⟨(World.ownsRow.cellAt h (i * 2) (by omega)).trans a1, (World.ownsRow.cellAt h (i * 2 + 1) (by omega)).trans a2⟩
theorem OwnP.below {t : TypeId} {w w' : World} {B : Nat} {v : Value} {L : List Pair} (h : OwnP t w B v L) (hb : Below w.heap.size w w') : OwnP t w' B v L :=
  World.ownsRow.kept h (row := none) ⟨hb.os, hb.tape, hb.output, hb.size, fun k hk _ => hb.block k hk⟩ (by cases v.ownBlock <;> simp)
theorem cell_new (w : World) (C : Array Value) (t : TypeId) (i : Nat) (v : Value) (h : C[i]? = some v) : (w.alloc (.cells C t)).cell? ⟨w.heap.size, i, none⟩ = some v := by simp [h]
theorem wpList_run {P : Program} {ops : Array Oper} {rest : List Oper} {o : Oper} {a : Act} {w w' : World} {Q : Exit → Act → World → Prop} (hgd : o.guard = none) (s x : Operand) (t : TypeId)
    (ho : o.op = .call { callee := .builtin .append, args := #[s, x], argTypes := #[t, t] }) (v vx r : Value) (hs : a.eval s = v) (hx : a.eval x = vx) (hr : (Builtin.append_ #[t, t] o.type #[v, vx]).run P w = .ok r w') (h : wpList P ops Q rest (a.put o.dst r) w') : wpList P ops Q (o :: rest) a w :=
  wpList_plain hgd fun _ hK => by
    unfold Oper.wp execOp
    simp only [ho, resolve, invoke, builtin, Sem.run_bind, Sem.run_pure, Result.andThen_ok, List.map_toArray, List.map_cons, List.map_nil, hs, hx, hr]
    exact hK _ _ h
theorem Made.below {w w' : World} {g : Nat} {L : List Pair} {k : Nat} (h : Made w g L k) (hb : Below w.heap.size w w') : Made w' g L k := by
  obtain ⟨cur, t, hg, hs, hj⟩ := h
  exact ⟨cur, t, (hb.block g (lt_heap hg)).trans hg, hs, hj⟩
theorem Made.other {w w' : World} {g g' : Nat} {L : List Pair} {k : Nat} (h : Made w g L k) (hg : w.grownBy w' (some g')) (hne : g ≠ g') : Made w' g L k := by
  obtain ⟨cur, t, h1, hs, hj⟩ := h
  exact ⟨cur, t, (hg.block g (lt_heap h1) (fun e => hne (Option.some.inj e))).trans h1, hs, hj⟩
/-- A row of the call's own, whole. -/
theorem OwnP.made {t : TypeId} {w : World} {B : Nat} {v : Value} {L : List Pair} (h : OwnP t w B v L) (hv : v ≠ .slice none 0 0) : ∃ g cap, v = .slice (some ⟨g, 0, none⟩) L.length cap ∧ B ≤ g ∧ Made w g L L.length := by
  rcases h.2 with ⟨rfl, _⟩ | ⟨g, cap, cur, rfl, h0, h1, h2, h3, h4, h5⟩
  · exact absurd rfl hv
  · refine ⟨g, cap, rfl, h0, cur, t, h1, by omega, fun j hj => ?_⟩
    obtain ⟨a1, a2⟩ := cellsOf_at L j hj
    have e : ∀ i, i < L.length * 2 → cur[i]? = (cellsOf L)[i]? := fun i hi => by
      rw [← h5, List.getElem?_take, if_pos hi]
      simp
    exact ⟨(e _ (by omega)).trans a1, (e _ (by omega)).trans a2⟩
theorem Made.lt {w : World} {g : Nat} {L : List Pair} {k : Nat} (h : Made w g L k) : g < w.heap.size := by
  obtain ⟨cur, t, hg, _⟩ := h
  exact lt_heap hg
theorem Made.forget {w : World} {g : Nat} {L M : List Pair} {k : Nat} (h : Made w g L k) (hl : M.length = L.length) : Made w g M 0 := by
  obtain ⟨cur, t, hg, hs, _⟩ := h
  exact ⟨cur, t, hg, by rw [hl]; exact hs, fun j hj => by omega⟩
theorem Small.both {L M : List Pair} {n m : Nat} (hL : Small L n) (hM : Small M m) (hn : n ≤ 1048576) (hm : m ≤ 1048576) : ∀ i, i < (L ++ M).length → (at0 (L ++ M) i).1.size ≤ maxLen ∧ (at0 (L ++ M) i).2.size ≤ maxLen := fun i hi => by
  rw [List.length_append] at hi
  unfold at0
  by_cases hl : i < L.length
  · have e := hL.texts hl
    unfold at0 at e
    rw [List.getD_eq_getElem?_getD, List.getElem?_append_left hl, ← List.getD_eq_getElem?_getD]
    unfold maxLen
    omega
  · have e := hM.texts (i := i - L.length) (by omega)
    unfold at0 at e
    rw [List.getD_eq_getElem?_getD, List.getElem?_append_right (by omega), ← List.getD_eq_getElem?_getD]
    unfold maxLen
    omega
theorem grown_trans {a b c : World} {g : Nat} (h : a.grownBy b (some g)) (k : b.grownBy c (some g)) : a.grownBy c (some g) :=
  ⟨k.os.trans h.os, k.tape.trans h.tape, k.output.trans h.output, Nat.le_trans h.size k.size, fun i hi hne => (k.block i (Nat.lt_of_lt_of_le hi h.size) hne).trans (h.block i hi hne)⟩
theorem grown_below {a b : World} {g : Nat} (h : Below a.heap.size a b) : a.grownBy b (some g) := ⟨h.os, h.tape, h.output, h.size, fun k hk _ => h.block k hk⟩
theorem grown_set (a : World) (g i : Nat) (u : Value) : a.grownBy (a.setCell ⟨g, i, none⟩ u) (some g) := ⟨rfl, rfl, rfl, by simp [World.setCell], fun k hk hne => Below.heap_setCell _ _ _ _ (fun e => hne (by rw [e]))⟩
theorem grown_refl (a : World) (g : Nat) : a.grownBy a (some g) := ⟨rfl, rfl, rfl, Nat.le_refl _, fun _ _ _ => rfl⟩
/-- A block in hand: what its cells are, and that they may be written. -/
theorem blk_cell {w : World} {g i : Nat} {cur : Array Value} {t : TypeId} (h : w.heap[g]? = some (.cells cur t (0, 0))) (hi : i < cur.size) : w.cell? ⟨g, i, none⟩ = some cur[i] ∧ w.frozen? ⟨g, i, none⟩ = false := ⟨by simp [World.cell?, h, hi], by simp [World.frozen?, h]⟩
end Go.Proofs.Ytpejcblmglbjfaa.pairs
