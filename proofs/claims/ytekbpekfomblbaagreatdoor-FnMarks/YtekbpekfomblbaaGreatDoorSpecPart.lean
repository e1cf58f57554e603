/-
  What toI says: none stands from there on, or the first one.
  (Texts of ours laid as one: CutsQ, MarkP, PairOwnRaw, OwnB, SpecOpen, SpecMark.)
-/
import Derived.Test.YtekbpekfomblbaaGreatDoorCutsP
import Derived.Test.YtekbpekfomblbaaGreatDoorSpecRaw
import Derived.Test.YtekbpekfomblbaaGreatDoorPairs
import Derived.Test.YtekbpekfomblbaaGreatDoorRef3
import Derived.Test.YtekbpekfomblbaaGreatDoorScanS
namespace Go.Proofs.YtekbpekfomblbaaGreatDoor.cuts
open Go.RowKit
set_option linter.unusedVariables false
/-- What toI says: none stands from there on, or the first one. -/
theorem toF_spec (s t : ByteArray) : ∀ f k, s.size < k + f → (toF s t f k = none ∧ ∀ j, k ≤ j → isAt s t j = false) ∨ ∃ j, toF s t f k = some j ∧ k ≤ j ∧ isAt s t j = true ∧ ∀ i, k ≤ i → i < j → isAt s t i = false
  | 0, k, h => .inl ⟨rfl, fun j hj => isAt_out (by omega)⟩
  | f + 1, k, h => by
    by_cases hk : k + t.size ≤ s.size
    · cases hb : isAt s t k
      · rw [toF, if_pos hk, if_neg (by rw [hb]; decide)]
        rcases toF_spec s t f (k + 1) (by omega) with ⟨h1, h2⟩ | ⟨j, h1, h2, h3, h4⟩
        · refine .inl ⟨h1, fun j hj => ?_⟩
          by_cases e : j = k
          · rw [e]; exact hb
          · exact h2 j (by omega)
        · refine .inr ⟨j, h1, by omega, h3, fun i h5 h6 => ?_⟩
          by_cases e : i = k
          · rw [e]; exact hb
          · exact h4 i (by omega) h6
      · rw [toF, if_pos hk, if_pos hb]
        exact .inr ⟨k, rfl, Nat.le_refl _, hb, fun i h5 h6 => by omega⟩
    · rw [toF, if_neg hk]
      exact .inl ⟨rfl, fun j hj => isAt_out (by omega)⟩
theorem toI_spec (s t : ByteArray) (k : Nat) : (toI s t k = none ∧ ∀ j, k ≤ j → isAt s t j = false) ∨ ∃ j, toI s t k = some j ∧ k ≤ j ∧ isAt s t j = true ∧ ∀ i, k ≤ i → i < j → isAt s t i = false := toF_spec s t _ k (by omega)
theorem toI_some {s t : ByteArray} {k j : Nat} (h : toI s t k = some j) : k ≤ j ∧ isAt s t j = true ∧ ∀ i, k ≤ i → i < j → isAt s t i = false := by
  rcases toI_spec s t k with ⟨h1, _⟩ | ⟨i, h1, h2, h3, h4⟩
  · rw [h] at h1; cases h1
  · rw [h] at h1
    cases h1
    exact ⟨h2, h3, h4⟩
theorem toI_none {s t : ByteArray} {k : Nat} (h : toI s t k = none) : ∀ j, k ≤ j → isAt s t j = false := by
  rcases toI_spec s t k with ⟨_, h2⟩ | ⟨i, h1, _⟩
  · exact h2
  · rw [h] at h1; cases h1
theorem isAt_le {s t : ByteArray} {k : Nat} (h : isAt s t k = true) : k + t.size ≤ s.size := by
  by_cases hk : k + t.size ≤ s.size
  · exact hk
  · rw [isAt_out hk] at h; exact absurd h (by decide)
theorem get_one (s : ByteArray) (k : Nat) (h : k < s.size) : s.extract k (k + 1) = ⟨#[s.get! k]⟩ := by
  apply ByteArray.ext
  rw [ByteArray.data_extract]
  apply Array.ext
  · have : s.data.size = s.size := rfl
    simp; omega
  · intro j h1 h2
    obtain rfl : j = 0 := by simpa using h2
    simp only [Array.getElem_extract, Nat.add_zero]
    rw [escs.get_of s _ h]
    rfl
theorem isAt_byte (s : ByteArray) (c : UInt8) (k : Nat) (h : k < s.size) : isAt s ⟨#[c]⟩ k = decide (((s.get! k).toNat : Int) = c.toNat) := by
  rw [isAt_in (by show k + 1 ≤ s.size; omega)]
  show ((s.extract k (k + 1)).toList == _) = _
  rw [get_one s k h, ByteArray.toList_eq, ByteArray.toList_eq, Bool.eq_iff_iff]
  simp only [beq_iff_eq, decide_eq_true_eq, List.cons.injEq, and_true]
  constructor
  · intro e; rw [e]
  · intro e; exact UInt8.toNat_inj.1 (by omega)
end Go.Proofs.YtekbpekfomblbaaGreatDoor.cuts
namespace Go.Proofs.YtekbpekfomblbaaGreatDoor.cuts
open Go.RowKit
open names (splitT nameE)
open marks (blanksE)
open pairs (Pair at0 PairsAt)
set_option linter.unusedVariables false
/-- What an element has, from k on: its Raws, whether it is closed at once, and the place behind. -/
def openF (s : ByteArray) (L : List Pair) : Nat → Nat → List Pair → Option (List Pair × Bool × Nat)
  | 0, _, _ => none
  | f + 1, k, R =>
    if isAt s ⟨#[47, 62]⟩ (blanksE s k) = true then some (R, true, blanksE s k + 2)
    else if isAt s ⟨#[62]⟩ (blanksE s k) = true then some (R, false, blanksE s k + 1)
    else if blanksE s k = k then none
    else match rawE s (blanksE s k) L with
      | none => none
      | some (n, x, j) => openF s L f j (R ++ [(n, x)])
structure MarkV where
  kind : Int
  name : ByteArray
  raws : List Pair
  empty : Bool
  text : ByteArray
def openE (s : ByteArray) (a : Nat) (L : List Pair) : Option (MarkV × Nat) :=
  if (splitT (s.extract (a + 1) (nameE s (a + 1)))).2.2 = true then
    match openF s L (s.size + 2) (nameE s (a + 1)) [] with
    | none => none
    | some (R, b, j) => some (⟨1, s.extract (a + 1) (nameE s (a + 1)), R, b, ⟨#[]⟩⟩, j)
  else none
def upE (s t : ByteArray) (a : Nat) (k : Int) : Option (MarkV × Nat) :=
  match toI s t a with
  | none => none
  | some j => some (⟨k, ⟨#[]⟩, [], false, s.extract a j⟩, j + t.size)
def tldE (s : ByteArray) (a : Nat) : Option (MarkV × Nat) :=
  match toldE s a with
  | none => none
  | some (n, x, j) => some (⟨5, n, [], false, x⟩, j)
def closeE (s : ByteArray) (a : Nat) : Option (MarkV × Nat) :=
  if (splitT (s.extract (a + 2) (nameE s (a + 2)))).2.2 = true then
    if isAt s ⟨#[62]⟩ (blanksE s (nameE s (a + 2))) = true then some (⟨2, s.extract (a + 2) (nameE s (a + 2)), [], false, ⟨#[]⟩⟩, blanksE s (nameE s (a + 2)) + 1)
    else none
  else none
/-- The place of the next '<', or the end. -/
def tillE (s : ByteArray) (a : Nat) : Nat := match toI s ⟨#[60]⟩ a with | none => s.size | some j => j
def betweenE (s : ByteArray) (a : Nat) (L : List Pair) : Option (MarkV × Nat) :=
  if trees.hasB (s.extract a (tillE s a)) ⟨#[93, 93, 62]⟩ = false ∧ (refs.expandR (s.extract a (tillE s a)) L).2 = true then some (⟨3, ⟨#[]⟩, [], false, (refs.expandR (s.extract a (tillE s a)) L).1⟩, tillE s a)
  else none
def mNote : ByteArray := ⟨#[60, 33, 45, 45]⟩
def mCdata : ByteArray := ⟨#[60, 33, 91, 67, 68, 65, 84, 65, 91]⟩
/-- What stands there. -/
def markE (s : ByteArray) (a : Nat) (L : List Pair) : Option (MarkV × Nat) :=
  if isAt s ⟨#[60, 33, 45, 45]⟩ a = true then upE s ⟨#[45, 45, 62]⟩ (a + 4) 4
  else if isAt s ⟨#[60, 63]⟩ a = true then tldE s a
  else if isAt s ⟨#[60, 47]⟩ a = true then closeE s a
  else if isAt s ⟨#[60, 33, 91, 67, 68, 65, 84, 65, 91]⟩ a = true then upE s ⟨#[93, 93, 62]⟩ (a + 9) 3
  else if isAt s ⟨#[60]⟩ a = true then openE s a L
  else betweenE s a L
def markT (s : ByteArray) (a : Nat) (L : List Pair) : Option (MarkV × Nat) :=
  match markE s a L with
  | none => none
  | some (m, j) => if refs.textB m.text = true then some (m, j) else none
/-- What MarkAt answers: nothing, or a mark and the place behind. -/
def markR (s : ByteArray) (a : Int) (L : List Pair) : Option (MarkV × Nat) :=
  if 0 ≤ a ∧ a < s.size ∧ refs.entsB L = true then markT s a.toNat L else none
def noMark : MarkV := ⟨0, ⟨#[]⟩, [], false, ⟨#[]⟩⟩
end Go.Proofs.YtekbpekfomblbaaGreatDoor.cuts
namespace Go.Proofs.YtekbpekfomblbaaGreatDoor.pairs
open Go.ChangeShapes Go.WideShapes Go.ChangeAt Go.RowKit
set_option linter.unusedVariables false
theorem new_Raw (w : World) (B : Nat) (hB : B ≤ w.heap.size) : OwnP 33 (w.alloc (.cells #[] 33)) B (.slice (some ⟨w.heap.size, 0, none⟩) 0 0) [] := World.ownsRow_made w #[] 0 hB (by decide) (by decide)
/-- append of pairs that lie in a new block of their own. -/
theorem infoO_Raw : (Tryz.prog.info? 33).map (fun i => (i.zero, i.size, i.bytes)) = some (some (.agg #[.string ⟨#[]⟩, .string ⟨#[]⟩]), 2, 32) := by kernel_rfl
theorem add_Raw {ops : Array Oper} {rest : List Oper} {o : Oper} {a : Act} {w : World} {Q : Exit → Act → World → Prop} (B : Nat) (v : Value) (L M : List Pair) (C : Array Value) (m : Nat)
    (hown : OwnP 33 w B v L) (hz : L.length + m ≤ 1000000) (hB : B ≤ w.heap.size) (hm : M.length = m) (hC : C = (cellsOf M).toArray) (hgd : o.guard = none) (s x : Operand)
    (ho : o.op = .call { callee := .builtin .append, args := #[s, x], argTypes := #[27, 27] }) (hs : a.eval s = v) (hx : a.eval x = .slice (some ⟨w.heap.size, 0, none⟩) m m)
    (h : ∀ v' w', OwnP 33 w' B v' (L ++ M) → w.heap.size ≤ w'.heap.size → (∀ k, k < B → w'.heap[k]? = w.heap[k]?) → w'.os = w.os → w'.tape = w.tape → w'.output = w.output → wpList Tryz.prog ops Q rest (a.put o.dst v') w') : wpList Tryz.prog ops Q (o :: rest) a (w.alloc (.cells C 33)) := by
  obtain ⟨i0, hi, hz0, hz1, hz2⟩ := info_parts infoO_Raw
  subst hm
  refine wpList_append_own _ hgd s x 27 ho B 33 i0 (.agg #[.string ⟨#[]⟩, .string ⟨#[]⟩]) 2 32 Tryz.underlying27 hi hz0 hz1 hz2 rfl (by decide) v L.length (cellsOf L) hs (World.ownsRow.alloc hown _) ⟨w.heap.size, 0, none⟩ M.length M.length (cellsOf M) hx (cellsOf_len M) ?_ (cells_one M) ?_ ?_ ?_ ?_
  · intro j u hj
    rw [show (⟨w.heap.size, 0, none⟩ : Addr).add j = ⟨w.heap.size, j, none⟩ by rw [Addr.add_lit, Nat.zero_add]]
    exact cell_new w C _ j u (by rw [hC]; simpa using hj)
  · unfold maxLen; omega
  · omega
  · simp; omega
  · intro v' w' ho' hg _
    have hsz := hg.size
    refine h v' w' (by unfold OwnP; rw [cellsOf_append, List.length_append]; exact ho') (by simp at hsz; omega) (fun k hk => ?_) hg.os hg.tape hg.output
    rw [hg.block k (by simp; omega) (fun e => by have := (World.ownsRow.lt hown k e.symm).1; omega)]
    exact Below.heap_alloc w _ k (by omega)
theorem append_none_Raw {w : World} (ty : TypeId) (i0 : TypeInfo) (hi : Tryz.prog.info? 33 = some i0) (hz0 : i0.zero = some (.agg #[.string ⟨#[]⟩, .string ⟨#[]⟩])) (hz1 : i0.size = 2) (hz2 : i0.bytes = 32) (B : Nat) (v : Value) (L : List Pair) (c : Nat) (hown : OwnP 33 w B v L) (hv : v ≠ .slice none 0 0) :
    ∃ w', (Builtin.append_ #[27, 27] ty #[v, .slice none ([] : List Pair).length c]).run Tryz.prog w = .ok v w' ∧ Below B w w' ∧ OwnP 33 w' B v L := by
  have hu := Tryz.underlying27
  rcases hown.2 with ⟨rfl, _⟩ | ⟨g, cap, cur, rfl, _, _, hnc, _⟩
  · exact absurd rfl hv
  · exact ⟨w, by simp [Builtin.append_, run_underlying hu, sizeOf, typeInfo, hi, Builtin.lenOf, Builtin.firstCells, hnc, storeCells], Below.refl _ _, hown⟩
/-- append of a slice of pairs that is there. -/
theorem app_Raw {ops : Array Oper} {rest : List Oper} {o : Oper} {a : Act} {w : World} {Q : Exit → Act → World → Prop} (B : Nat) (v : Value) (L M : List Pair) (ad : Option Addr) (c : Nat)
    (hown : OwnP 33 w B v L) (hp : PairsAt w ad M) (hz : L.length + M.length ≤ 4000000) (hB : B ≤ w.heap.size) (hv : v ≠ .slice none 0 0) (hgd : o.guard = none) (s x : Operand)
    (ho : o.op = .call { callee := .builtin .append, args := #[s, x], argTypes := #[27, 27] }) (hs : a.eval s = v) (hx : a.eval x = .slice ad M.length c)
    (h : ∀ v' w', OwnP 33 w' B v' (L ++ M) → Below B w w' → v' ≠ .slice none 0 0 → wpList Tryz.prog ops Q rest (a.put o.dst v') w') : wpList Tryz.prog ops Q (o :: rest) a w := by
  obtain ⟨i0, hi, hz0, hz1, hz2⟩ := info_parts infoO_Raw
  cases ad with
  | none =>
    have hM : M = [] := by
      cases M with
      | nil => rfl
      | cons p r =>
        obtain ⟨b, off, ha, _⟩ := hp.row (by simp)
        cases ha
    subst hM
    obtain ⟨w', hr, hg, ho'⟩ := append_none_Raw (w := w) o.type i0 hi hz0 hz1 hz2 B v L c hown hv
    exact wpList_run hgd s x 27 ho v _ v hs hx hr (h v w' (by rw [List.append_nil]; exact ho') hg hv)
  | some ad =>
    refine wpList_append_own _ hgd s x 27 ho B 33 i0 (.agg #[.string ⟨#[]⟩, .string ⟨#[]⟩]) 2 32 Tryz.underlying27 hi hz0 hz1 hz2 rfl (by decide) v L.length (cellsOf L) hs hown ad M.length c (cellsOf M) hx (cellsOf_len M) ?_ (cells_one M) ?_ ?_ hB ?_
    · intro j u hj
      have hjl : j < M.length * 2 := by
        have := (List.getElem?_eq_some_iff.1 hj).1
        rwa [cellsOf_len] at this
      obtain ⟨b, off, ha, _, hc⟩ := hp.row (by omega)
      cases ha
      obtain ⟨d1, d2⟩ := hc (j / 2) (by omega)
      obtain ⟨e1, e2⟩ := cellsOf_at M (j / 2) (by omega)
      rw [Addr.add_lit]
      rcases Nat.mod_two_eq_zero_or_one j with hm | hm
      · rw [show j / 2 * 2 = j by omega] at d1 e1
        rw [d1, ← e1, hj]
      · rw [show off + j / 2 * 2 + 1 = off + j by omega] at d2
        rw [show j / 2 * 2 + 1 = j by omega] at e2
        rw [d2, ← e2, hj]
    · unfold maxLen; omega
    · omega
    · intro v' w' ho' hg hn
      refine h v' w' (by unfold OwnP; rw [cellsOf_append, List.length_append]; exact ho') ((Below.refl _ _).grown hg hB (fun k hk => (World.ownsRow.lt hown k hk).1)) (fun e => hv (hn.1 e).1)
end Go.Proofs.YtekbpekfomblbaaGreatDoor.pairs
namespace Go.Proofs.YtekbpekfomblbaaGreatDoor.trees
open Go.RowKit
open pairs (Pair at0 PairsAt)
set_option linter.unusedVariables false
/-! ### Sets of blocks -/
abbrev Bset := Nat → Prop
def Inc (F G : Bset) : Prop := ∀ b, F b → G b
def Apart (F G : Bset) : Prop := ∀ b, F b → G b → False
theorem Inc.refl (F : Bset) : Inc F F := fun _ h => h
theorem Inc.trans {F G H : Bset} (h : Inc F G) (k : Inc G H) : Inc F H := fun b hb => k b (h b hb)
theorem Apart.symm {F G : Bset} (h : Apart F G) : Apart G F := fun b hb hc => h b hc hb
theorem Apart.sub {F G F' G' : Bset} (h : Apart F G) (h1 : Inc F' F) (h2 : Inc G' G) : Apart F' G' := fun b hb hc => h b (h1 b hb) (h2 b hc)
/-- Nothing but what lies in F has turned. -/
structure Out (F : Bset) (w w' : World) : Prop where
  os : w'.os = w.os
  tape : w'.tape = w.tape
  output : w'.output = w.output
  size : w.heap.size ≤ w'.heap.size
  block : ∀ k, k < w.heap.size → ¬ F k → w'.heap[k]? = w.heap[k]?
theorem Out.refl (F : Bset) (w : World) : Out F w w := ⟨rfl, rfl, rfl, Nat.le_refl _, fun _ _ _ => rfl⟩
theorem Out.trans {F : Bset} {a b c : World} (h : Out F a b) (k : Out F b c) : Out F a c := ⟨k.os.trans h.os, k.tape.trans h.tape, k.output.trans h.output, Nat.le_trans h.size k.size, fun i hi hf => (k.block i (Nat.lt_of_lt_of_le hi h.size) hf).trans (h.block i hi hf)⟩
theorem Out.mono {F G : Bset} {w w' : World} (h : Out F w w') (hs : Inc F G) : Out G w w' := ⟨h.os, h.tape, h.output, h.size, fun k hk hg => h.block k hk (fun hf => hg (hs k hf))⟩
theorem Out.of_below {F : Bset} {w w' : World} (h : Below w.heap.size w w') : Out F w w' := ⟨h.os, h.tape, h.output, h.size, fun k hk _ => h.block k hk⟩
theorem size_setCell (w : World) (g o : Nat) (u : Value) : (w.setCell ⟨g, o, none⟩ u).heap.size = w.heap.size := by simp [World.setCell]
theorem Out.set {F : Bset} {w w' : World} (h : Out F w w') {g : Nat} (hg : F g) (o : Nat) (u : Value) : Out F w (w'.setCell ⟨g, o, none⟩ u) :=
  ⟨h.os, h.tape, h.output, by rw [size_setCell]; exact h.size, fun k hk hf => (Below.heap_setCell w' ⟨g, o, none⟩ u k (fun e => hf (by rw [e]; exact hg))).trans (h.block k hk hf)⟩
theorem Out.below {F : Bset} {B : Nat} {w0 w w' : World} (h : Out F w w') (hb : Below B w0 w) (hF : ∀ b, F b → B ≤ b) (hB : B ≤ w.heap.size) : Below B w0 w' :=
  hb.trans ⟨h.os, h.tape, h.output, h.size, fun k hk => h.block k (Nat.lt_of_lt_of_le hk hB) (fun hf => absurd (hF k hf) (by omega))⟩
theorem Out.grown {w w' : World} {g : Nat} (h : w.grownBy w' (some g)) {F : Bset} (hg : F g) : Out F w w' := by
  have hb : Below 0 w w := Below.refl _ _
  obtain ⟨h1, h2, h3, h4, h5⟩ := h
  exact ⟨h1, h2, h3, h4, fun k hk hf => h5 k hk (fun e => hf (by cases e; exact hg))⟩
theorem Out.grown_none {w w' : World} (h : w.grownBy w' none) {F : Bset} : Out F w w' := by
  obtain ⟨h1, h2, h3, h4, h5⟩ := h
  exact ⟨h1, h2, h3, h4, fun k hk hf => h5 k hk (fun e => by cases e)⟩
/-! ### Rows -/
def PFit (L : List Pair) : Prop := L.length ≤ maxLen ∧ ∀ i, i < L.length → (at0 L i).1.size ≤ maxLen ∧ (at0 L i).2.size ≤ maxLen
def OwnP (w : World) (a : Option Addr) (L : List Pair) (F : Bset) : Prop := 0 < L.length → ∃ g, a = some ⟨g, 0, none⟩ ∧ F g ∧ pairs.Made w g L L.length
theorem made_out {w w' : World} {G : Bset} {g : Nat} {L : List Pair} {k : Nat} (h : pairs.Made w g L k) (ho : Out G w w') (hg : ¬ G g) : pairs.Made w' g L k := by
  obtain ⟨cur, t, h1, h2, h3⟩ := h.all
  exact ⟨cur, t, (ho.block g (pairs.lt_heap h1) hg).trans h1, h2, h3⟩
theorem OwnP.out {w w' : World} {a : Option Addr} {L : List Pair} {F G : Bset} (h : OwnP w a L F) (ho : Out G w w') (hd : Apart F G) : OwnP w' a L F := fun h0 => by
  obtain ⟨g, ha, hf, hm⟩ := h h0
  exact ⟨g, ha, hf, made_out hm ho (hd g hf)⟩
theorem OwnP.sub {w : World} {a : Option Addr} {L : List Pair} {F G : Bset} (h : OwnP w a L F) (hs : Inc F G) : OwnP w a L G := fun h0 => by
  obtain ⟨g, ha, hf, hm⟩ := h h0
  exact ⟨g, ha, hs g hf, hm⟩
theorem OwnP.at {w : World} {a : Option Addr} {L : List Pair} {F : Bset} (h : OwnP w a L F) (hf : PFit L) : PairsAt w a L := by
  by_cases h0 : 0 < L.length
  · obtain ⟨g, rfl, _, hm⟩ := h h0
    exact hm.pairs hf.1 hf.2
  · exact ⟨fun h => absurd h h0, hf.1, hf.2⟩
/-- What was made between two worlds. -/
def Rng (w w' : World) : Bset := fun b => w.heap.size ≤ b ∧ b < w'.heap.size
end Go.Proofs.YtekbpekfomblbaaGreatDoor.trees
namespace Go.Proofs.YtekbpekfomblbaaGreatDoor.cuts
open Go.ChangeShapes Go.WideShapes Go.ChangeAt Go.RowKit
open names (splitT nameE)
open marks (blanksE)
open pairs (Pair at0 PairsAt)
open trees (Rng Out Bset)
set_option linter.unusedVariables false
/-! ### How far it goes -/
theorem ends_ge (s : ByteArray) : ∀ f k, k ≤ names.ends s f k
  | 0, k => Nat.le_refl _
  | f + 1, k => by
    by_cases hg : k < s.size ∧ Utf8.decode s k ≠ (65533, 1) ∧ names.nameB ((Utf8.decode s k).1 : Int) = true
    · rw [names.ends, if_pos hg]
      exact Nat.le_trans (Nat.le_add_right _ _) (ends_ge s f _)
    · rw [names.ends_stop s (f + 1) k hg]; exact Nat.le_refl _
theorem nameE_ge (s : ByteArray) (k : Nat) : k ≤ nameE s k := ends_ge s _ k
theorem nameE_le (s : ByteArray) (k : Nat) (h : k ≤ s.size) : nameE s k ≤ s.size := ends_le s _ k h
theorem blanksE_ge (s : ByteArray) (k : Nat) : k ≤ blanksE s k := marks.blE_ge s _ k
theorem blanksE_le (s : ByteArray) (k : Nat) (h : k ≤ s.size) : blanksE s k ≤ s.size := marks.blE_le s _ k h
theorem toF_ge {s t : ByteArray} {j : Nat} : ∀ {f k}, toF s t f k = some j → k ≤ j ∧ j + t.size ≤ s.size
  | 0, k, h => by cases h
  | f + 1, k, h => by
    rw [toF] at h
    by_cases hk : k + t.size ≤ s.size
    · rw [if_pos hk] at h
      by_cases hb : isAt s t k = true
      · rw [if_pos hb] at h
        cases h
        exact ⟨Nat.le_refl _, hk⟩
      · rw [if_neg hb] at h
        have := toF_ge h
        omega
    · rw [if_neg hk] at h; cases h
theorem ex_size {n : Nat} {r : ByteArray × Bool} {s : ByteArray} {L : List Pair} (h : refs.expandR s L = r) (hr : r.2 = true) : r.1.size ≤ 600 ∧ refs.textB r.1 = true := by
  cases h1 : (scans.signs s && decide (s.size ≤ 1500)) with
  | false => rw [refs.exp_signs h1] at h; subst h; cases hr
  | true =>
    cases h2 : refs.entsB L with
    | false => rw [refs.exp_ents h2] at h; subst h; cases hr
    | true =>
      cases h3 : refs.expE s L with
      | none => rw [refs.exp_none h3] at h; subst h; cases hr
      | some x =>
        cases h4 : (decide (x.size ≤ 600) && scans.signs x) with
        | false => rw [refs.exp_long h3 h4] at h; subst h; cases hr
        | true =>
          rw [refs.exp_yes h1 h2 h3 h4] at h
          subst h
          refine ⟨?_, h4⟩
          rw [Bool.and_eq_true] at h4
          exact of_decide_eq_true h4.1
theorem valE_some {s : ByteArray} {k j : Nat} {L : List Pair} {x : ByteArray} (h : valE s k L = some (x, j)) (hk : k + 1 ≤ s.size) : k + 2 ≤ j ∧ j ≤ s.size ∧ x.size ≤ 600 ∧ refs.textB x = true := by
  unfold valE at h
  cases hj : toI s (s.extract k (k + 1)) (k + 1) with
  | none => rw [hj] at h; cases h
  | some i =>
    rw [hj] at h
    simp only at h
    split at h
    · rename_i hc
      cases h
      have h1 := toF_ge hj
      rw [one_size hk] at h1
      have h2 := ex_size (n := 0) rfl hc.2
      exact ⟨by omega, by omega, h2⟩
    · cases h
theorem rawE_some {s : ByteArray} {a j : Nat} {L : List Pair} {n x : ByteArray} (h : rawE s a L = some (n, x, j)) (ha : a ≤ s.size) : a + 2 ≤ j ∧ j ≤ s.size ∧ n.size ≤ s.size ∧ x.size ≤ 600 ∧ refs.textB x = true := by
  unfold rawE at h
  split at h
  · split at h
    · split at h
      · rename_i h1 h2 h3
        have hq : blanksE s (blanksE s (nameE s a) + 1) + 1 ≤ s.size := by
          rcases h3 with h3 | h3
          · exact isAt_one h3
          · exact isAt_one h3
        cases hv : valE s (blanksE s (blanksE s (nameE s a) + 1)) L with
        | none => rw [hv] at h; cases h
        | some y =>
          obtain ⟨x', j'⟩ := y
          rw [hv] at h
          simp only [Option.some.injEq, Prod.mk.injEq] at h
          obtain ⟨rfl, rfl, rfl⟩ := h
          obtain ⟨h4, h5, h6, h7⟩ := valE_some hv hq
          have := nameE_ge s a
          have := blanksE_ge s (nameE s a)
          have := blanksE_ge s (blanksE s (nameE s a) + 1)
          exact ⟨by omega, h5, by rw [ByteArray.size_extract]; omega, h6, h7⟩
      · cases h
    · cases h
  · cases h
/-- The texts of a list of pairs are small, and the second ones may stand. -/
def RFit (R : List Pair) : Prop := ∀ i, i < R.length → (at0 R i).1.size ≤ 1048576 ∧ (at0 R i).2.size ≤ 600 ∧ refs.textB (at0 R i).2 = true
theorem rfit_nil : RFit [] := fun i hi => absurd hi (Nat.not_lt_zero _)
theorem at0_left {R M : List Pair} {i : Nat} (h : i < R.length) : at0 (R ++ M) i = at0 R i := by
  unfold at0; rw [List.getD_eq_getElem?_getD, List.getElem?_append_left h, ← List.getD_eq_getElem?_getD]
theorem at0_last {R : List Pair} {x : Pair} : at0 (R ++ [x]) R.length = x := by
  unfold at0; rw [List.getD_eq_getElem?_getD, List.getElem?_append_right (Nat.le_refl _), Nat.sub_self]; rfl
theorem rfit_add {R : List Pair} {n x : ByteArray} (h : RFit R) (hn : n.size ≤ 1048576) (hx : x.size ≤ 600) (ht : refs.textB x = true) : RFit (R ++ [(n, x)]) := fun i hi => by
  rw [List.length_append] at hi
  by_cases e : i < R.length
  · rw [at0_left e]; exact h i e
  · have e' : i = R.length := by simp at hi; omega
    rw [e', at0_last]
    exact ⟨hn, hx, ht⟩
theorem RFit.texts {R : List Pair} (h : RFit R) : ∀ i, i < R.length → (at0 R i).1.size ≤ maxLen ∧ (at0 R i).2.size ≤ maxLen := fun i hi => by
  obtain ⟨h1, h2, _⟩ := h i hi
  unfold maxLen
  omega
theorem openF_fit {s : ByteArray} {L : List Pair} {R' : List Pair} {b : Bool} {j : Nat} (hs : s.size ≤ 1048576) : ∀ {f k R}, openF s L f k R = some (R', b, j) → k ≤ s.size → R.length ≤ k → RFit R → RFit R' ∧ R'.length ≤ j ∧ k < j ∧ j ≤ s.size
  | 0, k, R, h, _, _, _ => by cases h
  | f + 1, k, R, h, hk, hl, hR => by
    have hg := blanksE_ge s k
    have hle := blanksE_le s k hk
    rw [openF] at h
    split at h
    · rename_i h1
      cases h
      have h2 : blanksE s k + 2 ≤ s.size := isAt_one h1
      exact ⟨hR, by omega, by omega, by omega⟩
    · split at h
      · rename_i h1 h3
        cases h
        have h2 : blanksE s k + 1 ≤ s.size := isAt_one h3
        exact ⟨hR, by omega, by omega, by omega⟩
      · split at h
        · cases h
        · rename_i h1 h2 h3
          cases hr : rawE s (blanksE s k) L with
          | none => rw [hr] at h; cases h
          | some y =>
            obtain ⟨n, x, i⟩ := y
            rw [hr] at h
            simp only at h
            obtain ⟨h4, h5, h6, h7, h8⟩ := rawE_some hr hle
            have := openF_fit hs h h5 (by rw [List.length_append]; simp; omega) (rfit_add hR (by omega) h7 h8)
            exact ⟨this.1, this.2.1, by omega, this.2.2.2⟩
/-! ### What stands in memory -/
def mkV (m : MarkV) (ad : Option Addr) (c : Nat) : Value := .agg #[.int .i64 m.kind, .string m.name, .slice ad m.raws.length c, .bool m.empty, .string m.text]
def badM (e : Ending) : Prop := ∃ k n a l c b x, e = .returned (.tuple #[.agg #[.int .i64 k, .string n, .slice a l c, .bool b, .string x], .int .i64 (-1)])
/-- What l6Open and l6Mark answer. -/
def mkOk (r : Option (MarkV × Nat)) (w w' : World) (e : Ending) : Prop :=
  match r with
  | none => badM e
  | some (m, j) => ∃ ad c, e = .returned (.tuple #[mkV m ad c, .int .i64 (j : Int)]) ∧ trees.OwnP w' ad m.raws (Rng w w')
theorem mk_bad {r : Option (MarkV × Nat)} {w w' : World} {e : Ending} (h : r = none) (hb : badM e) : mkOk r w w' e := by subst h; exact hb
theorem mk_good {r : Option (MarkV × Nat)} {w w' : World} {e : Ending} {m : MarkV} {j : Nat} (h : r = some (m, j)) (hb : ∃ ad c, e = .returned (.tuple #[mkV m ad c, .int .i64 (j : Int)]) ∧ trees.OwnP w' ad m.raws (Rng w w')) : mkOk r w w' e := by subst h; exact hb
theorem mk_plain {r : Option (MarkV × Nat)} {w w' : World} {e : Ending} {k : Int} {n x : ByteArray} {b : Bool} {j : Nat} (h : r = some (⟨k, n, [], b, x⟩, j)) (hb : e = .returned (.tuple #[.agg #[.int .i64 k, .string n, .slice none 0 0, .bool b, .string x], .int .i64 (j : Int)])) : mkOk r w w' e := mk_good h ⟨none, 0, hb, fun h0 => absurd h0 (Nat.lt_irrefl _)⟩
/-- A row of a call's own, as one that is owned. -/
theorem own_row {w W W' : World} {B : Nat} {t : TypeId} {v : Value} {R : List Pair} {G : Bset} (h : pairs.OwnP t W B v R) (hB : w.heap.size ≤ B) (ho : Out G W W') (hG : ∀ b, G b → b < B) : ∃ ad c, v = .slice ad R.length c ∧ trees.OwnP W' ad R (Rng w W') := by
  by_cases hv : v = .slice none 0 0
  · have hl : R.length = 0 := by
      rcases h.2 with ⟨_, hn⟩ | ⟨g, cap, cur, rfl, _⟩
      · exact hn
      · cases hv
    exact ⟨none, 0, by rw [hv, hl], fun h0 => by omega⟩
  · obtain ⟨g, cap, rfl, hg, hm⟩ := h.made hv
    have hm' := trees.made_out hm ho (fun hgg => by have := hG g hgg; omega)
    exact ⟨_, cap, rfl, fun _ => ⟨g, rfl, ⟨by omega, hm'.lt⟩, hm'⟩⟩
theorem own_shape {t : TypeId} {w : World} {B : Nat} {v : Value} {R : List Pair} (h : pairs.OwnP t w B v R) : ∃ a c, v = .slice a R.length c := by
  rcases h.2 with ⟨rfl, hn⟩ | ⟨g, cap, cur, rfl, _⟩
  · exact ⟨none, 0, by rw [hn]⟩
  · exact ⟨_, _, rfl⟩
structure ORel (w wr : World) (mb : Nat) (n : ByteArray) (v : Value) (R : List Pair) : Prop where
  res : wr.heap[w.heap.size]? = some (.cells #[.int .i64 0, .string ⟨#[]⟩, .slice none 0 0, .bool false, .string ⟨#[]⟩] 29 (0, 0))
  box : wr.heap[mb]? = some (.cells #[.int .i64 1, .string n, v, .bool false, .string ⟨#[]⟩] 29 (0, 0))
  own : pairs.OwnP 33 wr (mb + 1) v R
  bel : Below w.heap.size w wr
  gt : w.heap.size < mb
  lt : mb < wr.heap.size
theorem ORel.below {w wr w2 : World} {mb : Nat} {n : ByteArray} {v : Value} {R : List Pair} (h : ORel w wr mb n v R) (hb : Below wr.heap.size wr w2) : ORel w w2 mb n v R :=
  ⟨(hb.block _ (Nat.lt_trans h.gt h.lt)).trans h.res, (hb.block _ h.lt).trans h.box, h.own.below hb, h.bel.trans (hb.mono h.bel.size), h.gt, Nat.lt_of_lt_of_le h.lt hb.size⟩
theorem own_set {t : TypeId} {w : World} {B g i : Nat} {v u : Value} {R : List Pair} (h : pairs.OwnP t w B v R) (hg : g < B) : pairs.OwnP t (w.setCell ⟨g, i, none⟩ u) B v R :=
  World.ownsRow.kept h (row := some g) (pairs.grown_set w g i u) (by
    rcases h.2 with ⟨rfl, _⟩ | ⟨g', cap, cur, rfl, h0, _⟩
    · simp [Value.ownBlock]
    · simp only [Value.ownBlock, ne_eq, Option.some.injEq]; omega)
theorem ORel.add {w wr w5 : World} {mb : Nat} {n : ByteArray} {v v' : Value} {R R' : List Pair} (h : ORel w wr mb n v R) (ho : pairs.OwnP 33 w5 (mb + 1) v' R') (hs : wr.heap.size ≤ w5.heap.size) (hk : ∀ k, k < mb + 1 → w5.heap[k]? = wr.heap[k]?) (h1 : w5.os = wr.os) (h2 : w5.tape = wr.tape) (h3 : w5.output = wr.output) :
    ORel w (w5.setCell ⟨mb, 2, none⟩ v') mb n v' R' ∧ w5.cell? ⟨mb, 2, none⟩ = some v ∧ w5.frozen? ⟨mb, 2, none⟩ = false := by
  have hgt := h.gt
  have hb : Below w.heap.size w w5 := h.bel.trans ⟨h1, h2, h3, hs, fun k hk' => hk k (by omega)⟩
  have hbox : w5.heap[mb]? = some (.cells #[.int .i64 1, .string n, v, .bool false, .string ⟨#[]⟩] 29 (0, 0)) := (hk mb (by omega)).trans h.box
  have hres : w5.heap[w.heap.size]? = _ := (hk _ (by omega)).trans h.res
  refine ⟨⟨?_, ?_, own_set ho (by omega), hb.setCell (p := ⟨mb, 2, none⟩) (by show w.heap.size ≤ mb; omega) _, hgt, ?_⟩, ?_, ?_⟩
  · rw [Below.heap_setCell w5 ⟨mb, 2, none⟩ v' _ (by show w.heap.size ≠ mb; omega)]; exact hres
  · rw [pairs.block_set v' hbox]; rfl
  · rw [trees.size_setCell]; exact Nat.lt_of_lt_of_le h.lt hs
  · simp [World.cell?, hbox]
  · simp [World.frozen?, hbox]
theorem out5 (w W : World) (u0 u1 u2 u3 u4 : Value) : Out (fun b => b = w.heap.size) W (((((W.setCell ⟨w.heap.size, 0, none⟩ u0).setCell ⟨w.heap.size, 1, none⟩ u1).setCell ⟨w.heap.size, 2, none⟩ u2).setCell ⟨w.heap.size, 3, none⟩ u3).setCell ⟨w.heap.size, 4, none⟩ u4) :=
  (((((Out.refl (fun b => b = w.heap.size) W).set (F := fun b => b = w.heap.size) rfl _ _).set (F := fun b => b = w.heap.size) rfl _ _).set (F := fun b => b = w.heap.size) rfl _ _).set (F := fun b => b = w.heap.size) rfl _ _).set (F := fun b => b = w.heap.size) rfl _ _
theorem out6 (w W : World) (mb : Nat) (u u0 u1 u2 u3 u4 : Value) : Out (fun b => b = w.heap.size ∨ b = mb) W ((((((W.setCell ⟨mb, 3, none⟩ u).setCell ⟨w.heap.size, 0, none⟩ u0).setCell ⟨w.heap.size, 1, none⟩ u1).setCell ⟨w.heap.size, 2, none⟩ u2).setCell ⟨w.heap.size, 3, none⟩ u3).setCell ⟨w.heap.size, 4, none⟩ u4) :=
  ((((((Out.refl _ W).set (.inr rfl) _ _).set (.inl rfl) _ _).set (.inl rfl) _ _).set (.inl rfl) _ _).set (.inl rfl) _ _).set (.inl rfl) _ _
theorem openE_no {s : ByteArray} {a : Nat} {L : List Pair} (h : ¬ (splitT (s.extract (a + 1) (nameE s (a + 1)))).2.2 = true) : openE s a L = none := if_neg h
theorem openE_bad {s : ByteArray} {a k : Nat} {L : List Pair} (h : (splitT (s.extract (a + 1) (nameE s (a + 1)))).2.2 = true) (hk : nameE s (a + 1) = k) (ho : openF s L (s.size + 2) k [] = none) : openE s a L = none := by
  unfold openE; rw [if_pos h, hk, ho]
theorem openE_good {s : ByteArray} {a k : Nat} {L : List Pair} {n : ByteArray} {R : List Pair} {b : Bool} {j : Nat} (h : (splitT (s.extract (a + 1) (nameE s (a + 1)))).2.2 = true) (hk : nameE s (a + 1) = k) (hn : s.extract (a + 1) k = n) (ho : openF s L (s.size + 2) k [] = some (R, b, j)) : openE s a L = some (⟨1, n, R, b, ⟨#[]⟩⟩, j) := by
  unfold openE; rw [if_pos h, hk, hn, ho]
theorem openF_two {s : ByteArray} {L : List Pair} {f k i : Nat} {R : List Pair} (hf : s.size + 2 ≤ k + f) (hk : k ≤ s.size) (hi : blanksE s k = i) (h : isAt s ⟨#[47, 62]⟩ i = true) : openF s L f k R = some (R, true, i + 2) := by
  cases f with
  | zero => omega
  | succ f => rw [openF, hi, if_pos h]
theorem openF_one {s : ByteArray} {L : List Pair} {f k i : Nat} {R : List Pair} (hf : s.size + 2 ≤ k + f) (hk : k ≤ s.size) (hi : blanksE s k = i) (h : isAt s ⟨#[47, 62]⟩ i = false) (h1 : isAt s ⟨#[62]⟩ i = true) : openF s L f k R = some (R, false, i + 1) := by
  cases f with
  | zero => omega
  | succ f => rw [openF, hi, if_neg (by rw [h]; decide), if_pos h1]
theorem openF_stuck {s : ByteArray} {L : List Pair} {f k i : Nat} {R : List Pair} (hi : blanksE s k = i) (h : isAt s ⟨#[47, 62]⟩ i = false) (h1 : isAt s ⟨#[62]⟩ i = false) (h2 : i = k) : openF s L f k R = none := by
  cases f with
  | zero => rfl
  | succ f => rw [openF, hi, if_neg (by rw [h]; decide), if_neg (by rw [h1]; decide), if_pos h2]
theorem openF_none {s : ByteArray} {L : List Pair} {f k i : Nat} {R : List Pair} (hi : blanksE s k = i) (h : isAt s ⟨#[47, 62]⟩ i = false) (h1 : isAt s ⟨#[62]⟩ i = false) (h2 : ¬ i = k) (h3 : rawE s i L = none) : openF s L f k R = none := by
  cases f with
  | zero => rfl
  | succ f => rw [openF, hi, if_neg (by rw [h]; decide), if_neg (by rw [h1]; decide), if_neg h2, h3]
theorem openF_go {s : ByteArray} {L : List Pair} {f k i j : Nat} {n x : ByteArray} {R : List Pair} (hf : s.size + 2 ≤ k + f) (hk : k ≤ s.size) (hi : blanksE s k = i) (h : isAt s ⟨#[47, 62]⟩ i = false) (h1 : isAt s ⟨#[62]⟩ i = false) (h2 : ¬ i = k) (h3 : rawE s i L = some (n, x, j)) : ∃ g, openF s L f k R = openF s L g j (R ++ [(n, x)]) ∧ s.size + 2 ≤ j + g ∧ j ≤ s.size ∧ k + 2 ≤ j := by
  have hg := blanksE_ge s k
  have hle := blanksE_le s k hk
  rw [hi] at hg hle
  have h4 := rawE_some h3 hle
  cases f with
  | zero => omega
  | succ f => exact ⟨f, by rw [openF, hi, if_neg (by rw [h]; decide), if_neg (by rw [h1]; decide), if_neg h2, h3], by omega, h4.2.1, by omega⟩
theorem raw_H (s : ByteArray) (a : Nat) (L : List Pair) (r : Option (ByteArray × ByteArray × Nat)) (hr : rawE s a L = r) (ad : Option Addr) (cap : Nat) (w : World) (hs : s.size ≤ 1048576) (ha : a ≤ s.size) (hL : PairsAt w ad L) (hv : ∀ i, i < L.length → (at0 L i).2.size ≤ 1048576) : Calls Tryz.prog 70 #[.string s, .int .i64 a, .slice ad L.length cap] w fun e w' => rawOk r e ∧ Below w.heap.size w w' := by
  have := spec_raw s a L ad cap w hs ha hL hv
  rw [hr] at this
  exact this
set_option maxRecDepth 100000 in
set_option maxHeartbeats 4000000 in
theorem spec_open (s : ByteArray) (a : Nat) (L : List Pair) (ad : Option Addr) (cap : Nat) (w : World) (hs : s.size ≤ 1048576) (ha : a + 1 ≤ s.size) (hL : PairsAt w ad L) (hv : ∀ i, i < L.length → (at0 L i).2.size ≤ 1048576) : Calls Tryz.prog 46 #[.string s, .int .i64 a, .slice ad L.length cap] w fun e w' => mkOk (openE s a L) w w' e ∧ Below w.heap.size w w' := by
  have HL : Hid (PairsAt w ad L) := hL
  have HV : Hid _ := hv
  have HSZ : Hid (s.size ≤ 1048576) := hs
  have H1 : Hid (∀ W, Calls Tryz.prog 45 #[.string s, .int .i64 ((a : Int) + 1)] W fun e w' => e = .returned (.tuple #[.string (nameR s (a + 1)).1, .int .i64 (nameR s (a + 1)).2]) ∧ Below W.heap.size W w') := fun W => spec_name s (a + 1) W hs ha
  have hkl : nameE s (a + 1) ≤ s.size := ends_le s _ _ ha
  obtain ⟨M, hM⟩ : ∃ M, openE s a L = M := ⟨_, rfl⟩
  rw [hM]
  have HE : Hid (openE s a L = M) := hM
  clear hM hL hv
  by_cases hok : (splitT (s.extract (a + 1) (nameE s (a + 1)))).2.2 = true
  · rw [nameR_yes hok] at H1
    obtain ⟨k0, hk0⟩ : ∃ k, nameE s (a + 1) = k := ⟨_, rfl⟩
    have HBAD : Hid (openF s L (s.size + 2) k0 [] = none → M = none) := fun h => HE.out.symm.trans (openE_bad hok hk0 h)
    obtain ⟨n, hn⟩ : ∃ n, s.extract (a + 1) k0 = n := ⟨_, rfl⟩
    have HGOOD : Hid (∀ R b j, openF s L (s.size + 2) k0 [] = some (R, b, j) → M = some (⟨1, n, R, b, ⟨#[]⟩⟩, j)) := fun R b j h => HE.out.symm.trans (openE_good hok hk0 hn h)
    rw [hk0, hn] at H1
    rw [hk0] at hkl
    clear hok hk0 hn HE
    go_enter Tryz.func46, Tryz.ntmps46
    go_wp2_with fail
    refine Calls.mono (H1.out _) ?_
    rintro e w1 ⟨rfl, hb⟩
    have HB1 : Hid (Below w.heap.size w w1) := box_under hb
    have HX1 : Hid _ := box_kept hb
    have hlt1 := lt_heap HX1.out
    clear hb
    go_wp2
    obtain ⟨mb, hmb⟩ : ∃ mb, w1.heap.size = mb := ⟨_, rfl⟩
    have HR0 : Hid (ORel w (w1.alloc (.cells #[.int .i64 1, .string n, .slice none 0 0, .bool false, .string ⟨#[]⟩] 29)) mb n (.slice none 0 0) []) := by
      subst hmb
      refine ⟨(Below.heap_alloc w1 _ _ (by omega)).trans HX1.out, heap_alloc_new w1 _, ?_, HB1.out.alloc HB1.out.size _, hlt1, by simp⟩
      exact ⟨rfl, .inl ⟨rfl, rfl⟩⟩
    have hne : mb ≠ w.heap.size := by omega
    have hne' : w.heap.size ≠ mb := by omega
    rw [hmb]
    obtain ⟨W1, hW1⟩ : ∃ W1, w1.alloc (.cells #[.int .i64 1, .string n, .slice none 0 0, .bool false, .string ⟨#[]⟩] 29) = W1 := ⟨_, rfl⟩
    rw [hW1] at HR0 ⊢
    clear hW1 hmb hlt1
    go_loopw [9] (fun t wr => ∃ (k f : Nat) (v : Value) (R : List Pair), k ≤ s.size ∧ t = .int .i64 k ∧ Hid (openF s L (s.size + 2) k0 [] = openF s L f k R) ∧ Hid (s.size + 2 ≤ k + f) ∧ Hid (R.length * 2 ≤ k) ∧ Hid (ORel w wr mb n v R)) (fun t _ => s.size - (intOf t).toNat)
    case atStart => exact ⟨k0, s.size + 2, _, [], hkl, rfl, rfl, by show s.size + 2 ≤ k0 + (s.size + 2); omega, by show 0 * 2 ≤ k0; omega, HR0⟩
    case round =>
      obtain ⟨k, f, v, R, hk, rfl, hO, hf, hRl, hrr⟩ := hrel
      have H2 : Hid (∀ W, _) := fun W => marks.spec_blanks_in s k W (by unfold maxLen; omega) hk
      have hil : blanksE s k ≤ s.size := marks.blE_le s _ _ hk
      obtain ⟨i, hi⟩ : ∃ i, blanksE s k = i := ⟨_, rfl⟩
      have HI : Hid (blanksE s k = i) := hi
      rw [hi] at H2 hil
      clear hi
      have H3 : Hid (∀ W, _) := fun W => spec_is s ⟨#[47, 62]⟩ i W hs (by decide) hil
      have H4 : Hid (∀ W, _) := fun W => spec_is s ⟨#[62]⟩ i W hs (by decide) hil
      cases h2 : isAt s ⟨#[47, 62]⟩ i
      · cases h1 : isAt s ⟨#[62]⟩ i
        · rw [h2] at H3
          rw [h1] at H4
          by_cases hik : i = k
          · have HN : Hid (M = none) := HBAD.out (hO.out.trans (openF_stuck HI.out h2 h1 hik))
            clear h1 h2
            subst hik
            obtain ⟨⟨o0, o1, o2, o3, o4⟩, q0, q1, q2, q3, q4⟩ := box5 hrr.out.res
            go_wp2_with (first
              | (go_at_call 11; refine Calls.mono (H2.out _) ?_; rintro e w2 ⟨rfl, hw2⟩; have hw3 := hw2.symm; clear hw2; subst hw3)
              | (go_at_call 42; (first | (refine Calls.mono (H3.out _) ?_; clear H3) | (refine Calls.mono (H4.out _) ?_; clear H4)); rintro e w2 ⟨rfl, hw2⟩; have hw3 := hw2.symm; clear hw2; subst hw3))
            refine bodyPost_ret (by simp [results, Tryz.results46, go_sem, o0, o1, o2, o3, o4]; try rfl) rfl ?_
            exact ⟨mk_bad HN.out ⟨_, _, _, _, _, _, _, rfl⟩, below5 hrr.out.bel⟩
          · have hik' : ¬ (i : Int) = k := by omega
            have HNR : Hid (rawE s i L = none → M = none) := fun h => HBAD.out (hO.out.trans (openF_none HI.out h2 h1 hik h))
            have HGR : Hid (∀ x1 x2 j, rawE s i L = some (x1, x2, j) → ∃ g, openF s L f k R = openF s L g j (R ++ [(x1, x2)]) ∧ s.size + 2 ≤ j + g ∧ j ≤ s.size ∧ k + 2 ≤ j) := fun x1 x2 j h => openF_go hf.out hk HI.out h2 h1 hik h
            clear h1 h2
            have H5 : Hid (∀ r, rawE s i L = r → _) := fun r hr => raw_H s i L r hr ad cap wr HSZ.out hil (HL.out.below (Nat.le_refl _) hrr.out.bel) HV.out
            cases hr : rawE s i L with
            | none =>
              have HN : Hid (M = none) := HNR.out hr
              have H6 : Hid _ := H5.out none hr
              clear hr HNR HGR H5
              go_wp2_with (first
                | (go_at_call 11; refine Calls.mono (H2.out _) ?_; rintro e w2 ⟨rfl, hw2⟩; have hw3 := hw2.symm; clear hw2; subst hw3)
                | (go_at_call 42; (first | (refine Calls.mono (H3.out _) ?_; clear H3) | (refine Calls.mono (H4.out _) ?_; clear H4)); rintro e w2 ⟨rfl, hw2⟩; have hw3 := hw2.symm; clear hw2; subst hw3)
                | fail)
              refine Calls.mono H6.out ?_
              rintro e w3 ⟨he, hb⟩
              have he' : e = .returned (.tuple #[.agg #[.string ⟨#[]⟩, .string ⟨#[]⟩], .int .i64 (-1)]) := he
              subst he'
              have HR3 : Hid (∀ o, ORel w (w3.alloc o) mb n v R) := fun o => hrr.out.below (hb.alloc hb.size o)
              have hX : ∀ o, _ := fun o => box5 (HR3.out o).res
              obtain ⟨⟨o0, o1, o2, o3, o4⟩, q0, q1, q2, q3, q4⟩ := hX (.cells #[.string ⟨#[]⟩, .string ⟨#[]⟩] 33)
              clear hb hX he
              go_wp2
              refine bodyPost_ret (by simp [results, Tryz.results46, go_sem, o0, o1, o2, o3, o4]; try rfl) rfl ?_
              exact ⟨mk_bad HN.out ⟨_, _, _, _, _, _, _, rfl⟩, below5 (HR3.out _).bel⟩
            | some y =>
              obtain ⟨x1, x2, j⟩ := y
              obtain ⟨g, hg1, hg2, hjl, hkj⟩ := HGR.out x1 x2 j hr
              have HG1 : Hid _ := hg1
              have HG2 : Hid _ := hg2
              have H6 : Hid _ := H5.out _ hr
              clear hr HNR HGR H5 hg1 hg2
              have hRl1 : R.length + 1 ≤ 1000000 := by have := hRl.out; omega
              have HR4L : Hid ((R ++ [(x1, x2)]).length * 2 ≤ j) := by have := hRl.out; show _ ≤ _; rw [List.length_append]; simp; omega
              go_wp2_with (first
                | (go_at_call 11; refine Calls.mono (H2.out _) ?_; rintro e w2 ⟨rfl, hw2⟩; have hw3 := hw2.symm; clear hw2; subst hw3)
                | (go_at_call 42; (first | (refine Calls.mono (H3.out _) ?_; clear H3) | (refine Calls.mono (H4.out _) ?_; clear H4)); rintro e w2 ⟨rfl, hw2⟩; have hw3 := hw2.symm; clear hw2; subst hw3)
                | fail)
              refine Calls.mono H6.out ?_
              rintro e w3 ⟨he, hb⟩
              have he' : e = .returned (.tuple #[.agg #[.string x1, .string x2], .int .i64 (j : Int)]) := he
              subst he'
              have HR3 : Hid (∀ o, ORel w (w3.alloc o) mb n v R) := fun o => hrr.out.below (hb.alloc hb.size o)
              have hv2 : ∀ o, (w3.alloc o).cell? ⟨mb, 2, none⟩ = some v := fun o => (box5 (HR3.out o).box).1.2.2.1
              have HLT : Hid (∀ o, mb + 1 ≤ (w3.alloc o).heap.size) := fun o => (HR3.out o).lt
              clear hb he
              go_wp2_with (at_builtin; refine pairs.add_Raw (mb + 1) _ R [(x1, x2)] _ 1 (HR3.out _).own hRl1 (HLT.out _) rfl (by rfl) (by rfl) _ _ (by rfl) (by rfl) (by show Value.slice (some ⟨w3.heap.size + 1, 0, none⟩) 1 1 = _; rw [World.size_alloc]) ?_; rintro v' w5 ho5 hs5 hk5 h51 h52 h53; obtain ⟨av, cv, rfl⟩ := own_shape ho5; obtain ⟨hr5, c5, f5⟩ := (HR3.out _).add ho5 hs5 hk5 h51 h52 h53; rw [List.length_append] at hr5; have HR5 : Hid (ORel w (w5.setCell ⟨mb, 2, none⟩ (.slice av (R.length + 1) cv)) mb n (.slice av (R.length + 1) cv) (R ++ [(x1, x2)])) := hr5; clear ho5 hs5 hk5 h51 h52 h53 hr5 hv2)
              go_roundw
              case rel => exact ⟨j, g, _, _, hjl, rfl, hO.out.trans HG1.out, HG2.out, HR4L.out, HR5.out⟩
              case measure => simp [intOf]; omega
        · have HG : Hid (M = some (⟨1, n, R, false, ⟨#[]⟩⟩, i + 1)) := HGOOD.out R false (i + 1) (hO.out.trans (openF_one hf.out hk HI.out h2 h1))
          rw [h2] at H3
          rw [h1] at H4
          clear h1 h2
          obtain ⟨⟨o0, o1, o2, o3, o4⟩, q0, q1, q2, q3, q4⟩ := box5 hrr.out.res
          obtain ⟨⟨m0, m1, m2, m3, m4⟩, p0, p1, p2, p3, p4⟩ := box5 hrr.out.box
          obtain ⟨ar, cr, hvr, hor⟩ := own_row (w := w) hrr.out.own (by have := hrr.out.gt; omega) (out5 w wr (.int .i64 1) (.string n) v (.bool false) (.string ⟨#[]⟩)) (fun b hb => by rw [hb]; have := hrr.out.gt; omega)
          have HOR : Hid _ := hor
          clear hor
          subst hvr
          go_wp2_with (first
            | (go_at_call 11; refine Calls.mono (H2.out _) ?_; rintro e w2 ⟨rfl, hw2⟩; have hw3 := hw2.symm; clear hw2; subst hw3)
            | (go_at_call 42; (first | (refine Calls.mono (H3.out _) ?_; clear H3) | (refine Calls.mono (H4.out _) ?_; clear H4)); rintro e w2 ⟨rfl, hw2⟩; have hw3 := hw2.symm; clear hw2; subst hw3))
          refine bodyPost_ret (by simp [results, Tryz.results46, go_sem, o0, o1, o2, o3, o4]; try rfl) rfl ?_
          exact ⟨mk_good HG.out ⟨ar, cr, rfl, HOR.out⟩, below5 hrr.out.bel⟩
      · have HG : Hid (M = some (⟨1, n, R, true, ⟨#[]⟩⟩, i + 2)) := HGOOD.out R true (i + 2) (hO.out.trans (openF_two hf.out hk HI.out h2))
        rw [h2] at H3
        clear h2
        obtain ⟨⟨o0, o1, o2, o3, o4⟩, q0, q1, q2, q3, q4⟩ := box5 hrr.out.res
        obtain ⟨⟨m0, m1, m2, m3, m4⟩, p0, p1, p2, p3, p4⟩ := box5 hrr.out.box
        obtain ⟨ar, cr, hvr, hor⟩ := own_row (w := w) hrr.out.own (by have := hrr.out.gt; omega) (out6 w wr mb (.bool true) (.int .i64 1) (.string n) v (.bool true) (.string ⟨#[]⟩)) (fun b hb => by have := hrr.out.gt; rcases hb with hb | hb <;> omega)
        have HOR : Hid _ := hor
        clear hor
        subst hvr
        have hgt := hrr.out.gt
        go_wp2_with (first
          | (go_at_call 11; refine Calls.mono (H2.out _) ?_; rintro e w2 ⟨rfl, hw2⟩; have hw3 := hw2.symm; clear hw2; subst hw3)
          | (go_at_call 42; refine Calls.mono (H3.out _) ?_; rintro e w2 ⟨rfl, hw2⟩; have hw3 := hw2.symm; clear hw2; subst hw3))
        refine bodyPost_ret (by simp [results, Tryz.results46, go_sem, o0, o1, o2, o3, o4]; try rfl) rfl ?_
        exact ⟨mk_good HG.out ⟨ar, cr, rfl, HOR.out⟩, below5 (hrr.out.bel.setCell (p := ⟨mb, 3, none⟩) (Nat.le_of_lt hgt) _)⟩
  · rw [nameR_no hok] at H1
    have HN : Hid (M = none) := HE.out.symm.trans (openE_no hok)
    clear hok
    go_enter Tryz.func46, Tryz.ntmps46
    go_wp2_with fail
    refine Calls.mono (H1.out _) ?_
    rintro e w1 ⟨rfl, hb⟩
    have HB1 : Hid (Below w.heap.size w w1) := box_under hb
    obtain ⟨⟨o0, o1, o2, o3, o4⟩, q0, q1, q2, q3, q4⟩ := box5 (box_kept hb)
    clear hb
    go_wp2
    refine bodyPost_ret (by simp [results, Tryz.results46, go_sem, o0, o1, o2, o3, o4]; try rfl) rfl ?_
    exact ⟨mk_bad HN.out ⟨_, _, _, _, _, _, _, rfl⟩, below5 HB1.out⟩
end Go.Proofs.YtekbpekfomblbaaGreatDoor.cuts
namespace Go.Proofs.YtekbpekfomblbaaGreatDoor.cuts
open Go.ChangeShapes Go.WideShapes Go.ChangeAt Go.RowKit
open names (splitT nameE)
open marks (blanksE)
open pairs (Pair at0 PairsAt)
open trees (Rng Out Bset)
set_option linter.unusedVariables false
theorem tillE_at {s : ByteArray} {a k : Nat} (hk : a ≤ k) (hs : k ≤ s.size) (h : ∀ i, a ≤ i → i < k → isAt s ⟨#[60]⟩ i = false) (he : k < s.size → isAt s ⟨#[60]⟩ k = true) : tillE s a = k := by
  unfold tillE
  cases hj : toI s ⟨#[60]⟩ a with
  | none =>
    by_cases e : k < s.size
    · have := toI_none hj k hk
      rw [he e] at this; cases this
    · show s.size = k; omega
  | some j =>
    obtain ⟨h1, h2, h3⟩ := toI_some hj
    have hjl : j + 1 ≤ s.size := isAt_le h2
    show j = k
    by_cases e : j < k
    · rw [h j h1 e] at h2; cases h2
    · by_cases e2 : k < j
      · have := h3 k hk e2
        rw [he (by omega)] at this; cases this
      · omega
theorem up_none {s t : ByteArray} {a : Nat} {k : Int} (h : toI s t a = none) : upE s t a k = none := by unfold upE; rw [h]
theorem up_some {s t : ByteArray} {a j : Nat} {k : Int} (h : toI s t a = some j) : upE s t a k = some (⟨k, ⟨#[]⟩, [], false, s.extract a j⟩, j + t.size) := by unfold upE; rw [h]
theorem tld_none {s : ByteArray} {a : Nat} (h : toldE s a = none) : tldE s a = none := by unfold tldE; rw [h]
theorem tld_some {s n x : ByteArray} {a j : Nat} (h : toldE s a = some (n, x, j)) : tldE s a = some (⟨5, n, [], false, x⟩, j) := by unfold tldE; rw [h]
theorem below0 {w : World} {u : Value} {t : TypeId} : Below w.heap.size w (w.alloc (.cells #[u] t)) := (Below.refl _ _).alloc (Nat.le_refl _) _
/-- The five cells of an answer's box, in any world behind. -/
theorem mk_of {r : Option (MarkV × Nat)} {w W : World} {e : Ending} {u0 u1 u2 u3 u4 : Value} (h : mkOk r w W e) (hr : ∀ m j, r = some (m, j) → m.raws = []) : mkOk r w (((((W.setCell ⟨w.heap.size, 0, none⟩ u0).setCell ⟨w.heap.size, 1, none⟩ u1).setCell ⟨w.heap.size, 2, none⟩ u2).setCell ⟨w.heap.size, 3, none⟩ u3).setCell ⟨w.heap.size, 4, none⟩ u4) e := by
  cases r with
  | none => exact h
  | some y =>
    obtain ⟨m, j⟩ := y
    obtain ⟨ad, c, he, _⟩ := h
    exact ⟨ad, c, he, fun h0 => by rw [hr m j rfl] at h0; exact absurd h0 (Nat.lt_irrefl _)⟩
theorem own_up {w W0 W1 W5 : World} {ad : Option Addr} {R : List Pair} (h : trees.OwnP W1 ad R (Rng W0 W1)) (hlt : w.heap.size < W0.heap.size) (ho : Out (fun b => b = w.heap.size) W1 W5) : trees.OwnP W5 ad R (Rng w W5) :=
  (h.out ho (fun b hb hc => by have := hb.1; have hc' : b = w.heap.size := hc; omega)).sub (fun b hb => ⟨by have := hb.1; omega, Nat.lt_of_lt_of_le hb.2 ho.size⟩)
theorem mk_open {r : Option (MarkV × Nat)} {w W0 W1 W5 : World} {e : Ending} (h : mkOk r W0 W1 e) (hlt : w.heap.size < W0.heap.size) (ho : Out (fun b => b = w.heap.size) W1 W5) : mkOk r w W5 e := by
  cases r with
  | none => exact h
  | some y =>
    obtain ⟨m, j⟩ := y
    obtain ⟨ad, c, he, hown⟩ := h
    exact ⟨ad, c, he, own_up hown hlt ho⟩
/-- What came is a mark's five values and a place. -/
theorem mk_shape {r : Option (MarkV × Nat)} {w W : World} {e : Ending} (h : mkOk r w W e) : ∃ k n a l c b x j, e = .returned (.tuple #[.agg #[.int .i64 k, .string n, .slice a l c, .bool b, .string x], .int .i64 j]) := by
  cases r with
  | none => obtain ⟨k, n, a, l, c, b, x, he⟩ := h; exact ⟨_, _, _, _, _, _, _, _, he⟩
  | some y =>
    obtain ⟨m, j⟩ := y
    obtain ⟨ad, c, he, _⟩ := h
    exact ⟨_, _, _, _, _, _, _, _, he⟩
theorem told_mk {s : ByteArray} {a : Nat} {e : Ending} (h : toldOk (toldE s a) e) (w W : World) : mkOk (tldE s a) w W e := by
  cases ht : toldE s a with
  | none =>
    rw [ht] at h
    rw [tld_none ht]
    obtain ⟨k, n, x, b, he⟩ := h
    exact ⟨_, _, _, _, _, _, _, he⟩
  | some y =>
    obtain ⟨n, x, j⟩ := y
    rw [ht] at h
    exact mk_plain (tld_some ht) h
set_option maxRecDepth 100000 in
set_option maxHeartbeats 8000000 in
theorem spec_mark (s : ByteArray) (a : Nat) (L : List Pair) (ad : Option Addr) (cap : Nat) (w : World) (hs : s.size ≤ 1048576) (ha : a < s.size) (hL : PairsAt w ad L) (hv : ∀ i, i < L.length → (at0 L i).2.size ≤ 1048576) : Calls Tryz.prog 24 #[.string s, .int .i64 a, .slice ad L.length cap] w fun e w' => mkOk (markE s a L) w w' e ∧ Below w.heap.size w w' := by
  have HL : Hid (PairsAt w ad L) := hL
  have HV : Hid _ := hv
  have HSZ : Hid (s.size ≤ 1048576) := hs
  obtain ⟨M, hM⟩ : ∃ M, markE s a L = M := ⟨_, rfl⟩
  rw [hM]
  have HE : Hid (markE s a L = M) := hM
  clear hM hL hv
  unfold markE at HE
  have h1 := fun W => spec_is s ⟨#[60, 33, 45, 45]⟩ a W hs (by decide) (by omega)
  have h2 := fun W => spec_is s ⟨#[60, 63]⟩ a W hs (by decide) (by omega)
  have h3 := fun W => spec_is s ⟨#[60, 47]⟩ a W hs (by decide) (by omega)
  have h4 := fun W => spec_is s ⟨#[60, 33, 91, 67, 68, 65, 84, 65, 91]⟩ a W hs (by decide) (by omega)
  have h5 := fun W => spec_is s ⟨#[60]⟩ a W hs (by decide) (by omega)
  have HAL : Hid (∀ o, Below w.heap.size w (w.alloc o)) := fun o => (Below.refl _ _).alloc (Nat.le_refl _) o
  cases b1 : isAt s ⟨#[60, 33, 45, 45]⟩ a
  · rw [b1] at h1 HE
    rw [if_neg (by decide)] at HE
    have H1 : Hid (∀ W, _) := h1
    cases b2 : isAt s ⟨#[60, 63]⟩ a
    · rw [b2] at h2 HE
      rw [if_neg (by decide)] at HE
      have H2 : Hid (∀ W, _) := h2
      cases b3 : isAt s ⟨#[60, 47]⟩ a
      · rw [b3] at h3 HE
        rw [if_neg (by decide)] at HE
        have H3 : Hid (∀ W, _) := h3
        cases b4 : isAt s ⟨#[60, 33, 91, 67, 68, 65, 84, 65, 91]⟩ a
        · rw [b4] at h4 HE
          rw [if_neg (by decide)] at HE
          have H4 : Hid (∀ W, _) := h4
          cases b5 : isAt s ⟨#[60]⟩ a
          · -- what stands between
            rw [b5] at h5 HE
            rw [if_neg (by decide)] at HE
            have H5 : Hid (∀ W, _) := h5
            clear h1 h2 h3 h4 h5 b1 b2 b3 b4 b5
            unfold betweenE at HE
            go_enter Tryz.func24, Tryz.ntmps24
            go_wp2_with (first
              | (go_at_call 42; (first | (refine Calls.mono (H1.out _) ?_; clear H1) | (refine Calls.mono (H2.out _) ?_; clear H2) | (refine Calls.mono (H3.out _) ?_; clear H3) | (refine Calls.mono (H4.out _) ?_; clear H4) | (refine Calls.mono (H5.out _) ?_; clear H5)); rintro e w2 ⟨rfl, hw2⟩; have hw3 := hw2.symm; clear hw2; subst hw3))
            obtain ⟨W0, hW0⟩ : ∃ W0, w.alloc (.cells #[.int .i64 0, .string ⟨#[]⟩, .slice none 0 0, .bool false, .string ⟨#[]⟩] 29) = W0 := ⟨_, rfl⟩
            have HB0 : Hid (Below w.heap.size w W0) := hW0 ▸ HAL.out _
            have HX0 : Hid (W0.heap[w.heap.size]? = some (.cells #[.int .i64 0, .string ⟨#[]⟩, .slice none 0 0, .bool false, .string ⟨#[]⟩] 29 (0, 0))) := hW0 ▸ heap_alloc_new w _
            rw [hW0]
            clear hW0
            go_loop [14] (fun t => ∃ k : Nat, a ≤ k ∧ k ≤ s.size ∧ t = .int .i64 k ∧ Hid (∀ i, a ≤ i → i < k → isAt s ⟨#[60]⟩ i = false)) (fun t => s.size - (intOf t).toNat)
            case atStart => exact ⟨a, Nat.le_refl _, Nat.le_of_lt ha, rfl, fun i h1 h2 => by omega⟩
            case round =>
              obtain ⟨k, hak, hk, rfl, hno⟩ := hrel
              have HDONE : Hid ((k < s.size → isAt s ⟨#[60]⟩ k = true) → tillE s a = k) := fun h => tillE_at hak hk hno.out h
              by_cases hlt : k < s.size
              · have hx := signs.idx s k hlt
                have hb := (s.get! k).toNat_lt
                have hat := isAt_byte s 60 k hlt
                obtain ⟨x, ex⟩ : ∃ x, x = ((s.get! k).toNat : Int) := ⟨_, rfl⟩
                have hx0 : 0 ≤ x := by omega
                have hx1 : x < 256 := by omega
                rw [← ex] at hx hat
                have HAT : Hid _ := hat
                clear ex hb hat
                by_cases h60 : x = 60
                · have hne : (x != 60) = false := by simp [h60]
                  have HT : Hid (tillE s a = k) := HDONE.out (fun _ => by rw [HAT.out]; exact decide_eq_true h60)
                  clear HAT h60
                  have hcut := escs.cut s a k hak hk
                  obtain ⟨y, hy⟩ : ∃ y, s.extract a k = y := ⟨_, rfl⟩
                  obtain ⟨x', ok, hxo⟩ : ∃ x ok, refs.expandR y L = (x, ok) := ⟨_, _, rfl⟩
                  rw [HT.out, hy, hxo] at HE
                  rw [hy] at hcut
                  have HYZ : Hid (y.size ≤ 1048576) := by show _ ≤ _; rw [← hy, ByteArray.size_extract]; omega
                  have H6 : Hid (∀ W, PairsAt W ad L → _) := fun W hL => expandH y x' ok L (by have := HYZ.out; unfold maxLen; omega) HV.out hxo ad cap W hL
                  have H7 : Hid (∀ W, _) := fun W => trees.spec_l5has y ⟨#[93, 93, 62]⟩ W HYZ.out (by decide)
                  obtain ⟨hh, hhh⟩ : ∃ h, trees.hasB y ⟨#[93, 93, 62]⟩ = h := ⟨_, rfl⟩
                  rw [hhh] at H7 HE
                  clear hhh hxo hy HDONE
                  go_wp2_with fail
                  refine Calls.mono (H6.out _ (HL.out.below (Nat.le_refl _) HB0.out)) ?_
                  rintro e w1 ⟨rfl, hb⟩
                  have HB1 : Hid (Below w.heap.size w w1) := HB0.out.trans (hb.mono HB0.out.size)
                  obtain ⟨⟨o0, o1, o2, o3, o4⟩, q0, q1, q2, q3, q4⟩ := box5 ((hb.block _ (lt_heap HX0.out)).trans HX0.out)
                  clear hb
                  cases ok
                  · rw [if_neg (fun h => absurd h.2 (by decide))] at HE
                    go_wp2
                    refine bodyPost_ret (by simp [results, Tryz.results24, go_sem, o0, o1, o2, o3, o4]; try rfl) rfl ?_
                    exact ⟨mk_bad HE.out.symm ⟨_, _, _, _, _, _, _, rfl⟩, below5 HB1.out⟩
                  · cases hh
                    · rw [if_pos ⟨rfl, rfl⟩] at HE
                      go_wp2_with (go_at_call 48; refine Calls.mono (H7.out _) ?_; rintro e w2 ⟨rfl, hw2⟩; have hw3 := hw2.symm; clear hw2; subst hw3)
                      refine bodyPost_ret (by simp [results, Tryz.results24, go_sem, o0, o1, o2, o3, o4]; try rfl) rfl ?_
                      exact ⟨mk_plain HE.out.symm rfl, below5 HB1.out⟩
                    · rw [if_neg (fun h => absurd h.1 (by decide))] at HE
                      go_wp2_with (go_at_call 48; refine Calls.mono (H7.out _) ?_; rintro e w2 ⟨rfl, hw2⟩; have hw3 := hw2.symm; clear hw2; subst hw3)
                      refine bodyPost_ret (by simp [results, Tryz.results24, go_sem, o0, o1, o2, o3, o4]; try rfl) rfl ?_
                      exact ⟨mk_bad HE.out.symm ⟨_, _, _, _, _, _, _, rfl⟩, below5 HB1.out⟩
                · have hne : (x != 60) = true := by simp [h60]
                  have HNO : Hid (isAt s ⟨#[60]⟩ k = false) := HAT.out.trans (decide_eq_false h60)
                  clear HDONE HAT h60
                  go_wp2
                  go_round
                  case rel => exact ⟨k + 1, by omega, by omega, by go_num, fun i h1 h2 => by
                    by_cases e : i = k
                    · rw [e]; exact HNO.out
                    · exact hno.out i h1 (by omega)⟩
                  case measure => simp [intOf]; omega
              · have HT : Hid (tillE s a = k) := HDONE.out (fun h => absurd h hlt)
                have hcut := escs.cut s a k hak hk
                obtain ⟨y, hy⟩ : ∃ y, s.extract a k = y := ⟨_, rfl⟩
                obtain ⟨x', ok, hxo⟩ : ∃ x ok, refs.expandR y L = (x, ok) := ⟨_, _, rfl⟩
                rw [HT.out, hy, hxo] at HE
                rw [hy] at hcut
                have HYZ : Hid (y.size ≤ 1048576) := by show _ ≤ _; rw [← hy, ByteArray.size_extract]; omega
                have H6 : Hid (∀ W, PairsAt W ad L → _) := fun W hL => expandH y x' ok L (by have := HYZ.out; unfold maxLen; omega) HV.out hxo ad cap W hL
                have H7 : Hid (∀ W, _) := fun W => trees.spec_l5has y ⟨#[93, 93, 62]⟩ W HYZ.out (by decide)
                obtain ⟨hh, hhh⟩ : ∃ h, trees.hasB y ⟨#[93, 93, 62]⟩ = h := ⟨_, rfl⟩
                rw [hhh] at H7 HE
                clear hhh hxo hy HDONE
                go_wp2_with fail
                refine Calls.mono (H6.out _ (HL.out.below (Nat.le_refl _) HB0.out)) ?_
                rintro e w1 ⟨rfl, hb⟩
                have HB1 : Hid (Below w.heap.size w w1) := HB0.out.trans (hb.mono HB0.out.size)
                obtain ⟨⟨o0, o1, o2, o3, o4⟩, q0, q1, q2, q3, q4⟩ := box5 ((hb.block _ (lt_heap HX0.out)).trans HX0.out)
                clear hb
                cases ok
                · rw [if_neg (fun h => absurd h.2 (by decide))] at HE
                  go_wp2
                  refine bodyPost_ret (by simp [results, Tryz.results24, go_sem, o0, o1, o2, o3, o4]; try rfl) rfl ?_
                  exact ⟨mk_bad HE.out.symm ⟨_, _, _, _, _, _, _, rfl⟩, below5 HB1.out⟩
                · cases hh
                  · rw [if_pos ⟨rfl, rfl⟩] at HE
                    go_wp2_with (go_at_call 48; refine Calls.mono (H7.out _) ?_; rintro e w2 ⟨rfl, hw2⟩; have hw3 := hw2.symm; clear hw2; subst hw3)
                    refine bodyPost_ret (by simp [results, Tryz.results24, go_sem, o0, o1, o2, o3, o4]; try rfl) rfl ?_
                    exact ⟨mk_plain HE.out.symm rfl, below5 HB1.out⟩
                  · rw [if_neg (fun h => absurd h.1 (by decide))] at HE
                    go_wp2_with (go_at_call 48; refine Calls.mono (H7.out _) ?_; rintro e w2 ⟨rfl, hw2⟩; have hw3 := hw2.symm; clear hw2; subst hw3)
                    refine bodyPost_ret (by simp [results, Tryz.results24, go_sem, o0, o1, o2, o3, o4]; try rfl) rfl ?_
                    exact ⟨mk_bad HE.out.symm ⟨_, _, _, _, _, _, _, rfl⟩, below5 HB1.out⟩
          · rw [b5] at h5 HE
            rw [if_pos rfl] at HE
            have H5 : Hid (∀ W, _) := h5
            clear h1 h2 h3 h4 h5 b1 b2 b3 b4 b5
            have H6 : Hid _ := spec_open s a L ad cap (w.alloc (.cells #[.int .i64 0, .string ⟨#[]⟩, .slice none 0 0, .bool false, .string ⟨#[]⟩] 29)) hs (by omega) (HL.out.below (Nat.le_refl _) (HAL.out _)) HV.out
            rw [HE.out] at H6
            go_enter Tryz.func24, Tryz.ntmps24
            go_wp2_with (first
              | (go_at_call 42; (first | (refine Calls.mono (H1.out _) ?_; clear H1) | (refine Calls.mono (H2.out _) ?_; clear H2) | (refine Calls.mono (H3.out _) ?_; clear H3) | (refine Calls.mono (H4.out _) ?_; clear H4) | (refine Calls.mono (H5.out _) ?_; clear H5)); rintro e w2 ⟨rfl, hw2⟩; have hw3 := hw2.symm; clear hw2; subst hw3)
              | fail)
            refine Calls.mono H6.out ?_
            rintro e w1 ⟨he, hb⟩
            obtain ⟨mk, mn, ma, ml, mc, mb, mx, mj, rfl⟩ := mk_shape he
            have HMK : Hid _ := he
            have HB1 : Hid (Below w.heap.size w w1) := box_under hb
            obtain ⟨⟨o0, o1, o2, o3, o4⟩, q0, q1, q2, q3, q4⟩ := box5 (box_kept hb)
            clear he hb
            go_wp2
            refine bodyPost_ret (by simp [results, Tryz.results24, go_sem, o0, o1, o2, o3, o4]; try rfl) rfl ?_
            exact ⟨mk_open HMK.out (by simp) (out5 w w1 _ _ _ _ _), below5 HB1.out⟩
        · have HLE : Hid (a + 9 ≤ s.size) := by have := isAt_le b4; exact this
          rw [b4] at h4 HE
          rw [if_pos rfl] at HE
          have H4 : Hid (∀ W, _) := h4
          clear h1 h2 h3 h4 h5 b1 b2 b3 b4
          have h6 : ∀ W, Calls Tryz.prog 43 #[.string s, .int .i64 ((a : Int) + 9), .string ⟨#[93, 93, 62]⟩] W fun e w' => e = .returned (.tuple #[.string (toR s ⟨#[93, 93, 62]⟩ (a + 9)).1, .int .i64 (toR s ⟨#[93, 93, 62]⟩ (a + 9)).2]) ∧ w' = W := fun W => spec_to s ⟨#[93, 93, 62]⟩ (a + 9) W hs (by decide) HLE.out
          cases hj : toI s ⟨#[93, 93, 62]⟩ (a + 9) with
          | none =>
            rw [toR_none hj] at h6
            rw [up_none hj] at HE
            have H6 : Hid (∀ W, _) := h6
            clear hj h6
            go_enter Tryz.func24, Tryz.ntmps24
            go_wp2_with (first
              | (go_at_call 42; (first | (refine Calls.mono (H1.out _) ?_; clear H1) | (refine Calls.mono (H2.out _) ?_; clear H2) | (refine Calls.mono (H3.out _) ?_; clear H3) | (refine Calls.mono (H4.out _) ?_; clear H4)); rintro e w2 ⟨rfl, hw2⟩; have hw3 := hw2.symm; clear hw2; subst hw3)
              | (go_at_call 43; refine Calls.mono (H6.out _) ?_; rintro e w2 ⟨rfl, hw2⟩; have hw3 := hw2.symm; clear hw2; subst hw3))
            refine bodyPost_ret (by simp [results, Tryz.results24, go_sem]; try rfl) rfl ?_
            exact ⟨mk_bad HE.out.symm ⟨_, _, _, _, _, _, _, rfl⟩, HAL.out _⟩
          | some j =>
            rw [toR_some hj] at h6
            rw [up_some hj] at HE
            have H6 : Hid (∀ W, _) := h6
            clear hj h6
            go_enter Tryz.func24, Tryz.ntmps24
            go_wp2_with (first
              | (go_at_call 42; (first | (refine Calls.mono (H1.out _) ?_; clear H1) | (refine Calls.mono (H2.out _) ?_; clear H2) | (refine Calls.mono (H3.out _) ?_; clear H3) | (refine Calls.mono (H4.out _) ?_; clear H4)); rintro e w2 ⟨rfl, hw2⟩; have hw3 := hw2.symm; clear hw2; subst hw3)
              | (go_at_call 43; refine Calls.mono (H6.out _) ?_; rintro e w2 ⟨rfl, hw2⟩; have hw3 := hw2.symm; clear hw2; subst hw3))
            refine bodyPost_ret (by simp [results, Tryz.results24, go_sem]; try rfl) rfl ?_
            exact ⟨mk_plain HE.out.symm rfl, HAL.out _⟩
      · have hle2 : a + 2 ≤ s.size := by have := isAt_le b3; exact this
        rw [b3] at h3 HE
        rw [if_pos rfl] at HE
        have H3 : Hid (∀ W, _) := h3
        clear h1 h2 h3 h4 h5 b1 b2 b3
        have h6 : ∀ W, Calls Tryz.prog 45 #[.string s, .int .i64 ((a : Int) + 2)] W fun e w' => e = .returned (.tuple #[.string (nameR s (a + 2)).1, .int .i64 (nameR s (a + 2)).2]) ∧ Below W.heap.size W w' := fun W => spec_name s (a + 2) W hs hle2
        have hkl : nameE s (a + 2) ≤ s.size := ends_le s _ _ hle2
        unfold closeE at HE
        by_cases hok : (splitT (s.extract (a + 2) (nameE s (a + 2)))).2.2 = true
        · rw [nameR_yes hok] at h6
          rw [if_pos hok] at HE
          obtain ⟨n, hn⟩ : ∃ n, s.extract (a + 2) (nameE s (a + 2)) = n := ⟨_, rfl⟩
          obtain ⟨k, hk⟩ : ∃ k, nameE s (a + 2) = k := ⟨_, rfl⟩
          rw [hn, hk] at h6 HE
          rw [hk] at hkl
          have H6 : Hid (∀ W, _) := h6
          have H7 : Hid (∀ W, _) := fun W => marks.spec_blanks_in s k W (by unfold maxLen; omega) hkl
          have hfl : blanksE s k ≤ s.size := marks.blE_le s _ _ hkl
          obtain ⟨f, hf⟩ : ∃ f, blanksE s k = f := ⟨_, rfl⟩
          rw [hf] at H7 HE hfl
          have H8 : Hid (∀ W, _) := fun W => spec_is s ⟨#[62]⟩ f W hs (by decide) hfl
          clear hf hn hk hok h6
          cases hq : isAt s ⟨#[62]⟩ f
          · rw [hq] at H8 HE
            rw [if_neg (by decide)] at HE
            clear hq
            go_enter Tryz.func24, Tryz.ntmps24
            go_wp2_with (first
              | (go_at_call 42; (first | (refine Calls.mono (H1.out _) ?_; clear H1) | (refine Calls.mono (H2.out _) ?_; clear H2) | (refine Calls.mono (H3.out _) ?_; clear H3)); rintro e w2 ⟨rfl, hw2⟩; have hw3 := hw2.symm; clear hw2; subst hw3)
              | fail)
            refine Calls.mono (H6.out _) ?_
            rintro e w1 ⟨rfl, hb⟩
            have HB1 : Hid (Below w.heap.size w w1) := box_under hb
            obtain ⟨⟨o0, o1, o2, o3, o4⟩, q0, q1, q2, q3, q4⟩ := box5 (box_kept hb)
            clear hb
            go_wp2_with (first
              | (go_at_call 11; refine Calls.mono (H7.out _) ?_; rintro e w2 ⟨rfl, hw2⟩; have hw3 := hw2.symm; clear hw2; subst hw3)
              | (go_at_call 42; refine Calls.mono (H8.out _) ?_; rintro e w2 ⟨rfl, hw2⟩; have hw3 := hw2.symm; clear hw2; subst hw3))
            refine bodyPost_ret (by simp [results, Tryz.results24, go_sem, o0, o1, o2, o3, o4]; try rfl) rfl ?_
            exact ⟨mk_bad HE.out.symm ⟨_, _, _, _, _, _, _, rfl⟩, below5 HB1.out⟩
          · rw [hq] at H8 HE
            rw [if_pos rfl] at HE
            clear hq
            go_enter Tryz.func24, Tryz.ntmps24
            go_wp2_with (first
              | (go_at_call 42; (first | (refine Calls.mono (H1.out _) ?_; clear H1) | (refine Calls.mono (H2.out _) ?_; clear H2) | (refine Calls.mono (H3.out _) ?_; clear H3)); rintro e w2 ⟨rfl, hw2⟩; have hw3 := hw2.symm; clear hw2; subst hw3)
              | fail)
            refine Calls.mono (H6.out _) ?_
            rintro e w1 ⟨rfl, hb⟩
            have HB1 : Hid (Below w.heap.size w w1) := box_under hb
            obtain ⟨⟨o0, o1, o2, o3, o4⟩, q0, q1, q2, q3, q4⟩ := box5 (box_kept hb)
            clear hb
            go_wp2_with (first
              | (go_at_call 11; refine Calls.mono (H7.out _) ?_; rintro e w2 ⟨rfl, hw2⟩; have hw3 := hw2.symm; clear hw2; subst hw3)
              | (go_at_call 42; refine Calls.mono (H8.out _) ?_; rintro e w2 ⟨rfl, hw2⟩; have hw3 := hw2.symm; clear hw2; subst hw3))
            refine bodyPost_ret (by simp [results, Tryz.results24, go_sem, o0, o1, o2, o3, o4]; try rfl) rfl ?_
            exact ⟨mk_plain HE.out.symm rfl, below5 HB1.out⟩
        · rw [nameR_no hok] at h6
          rw [if_neg hok] at HE
          have H6 : Hid (∀ W, _) := h6
          clear hok h6
          go_enter Tryz.func24, Tryz.ntmps24
          go_wp2_with (first
            | (go_at_call 42; (first | (refine Calls.mono (H1.out _) ?_; clear H1) | (refine Calls.mono (H2.out _) ?_; clear H2) | (refine Calls.mono (H3.out _) ?_; clear H3)); rintro e w2 ⟨rfl, hw2⟩; have hw3 := hw2.symm; clear hw2; subst hw3)
            | fail)
          refine Calls.mono (H6.out _) ?_
          rintro e w1 ⟨rfl, hb⟩
          have HB1 : Hid (Below w.heap.size w w1) := box_under hb
          obtain ⟨⟨o0, o1, o2, o3, o4⟩, q0, q1, q2, q3, q4⟩ := box5 (box_kept hb)
          clear hb
          go_wp2
          refine bodyPost_ret (by simp [results, Tryz.results24, go_sem, o0, o1, o2, o3, o4]; try rfl) rfl ?_
          exact ⟨mk_bad HE.out.symm ⟨_, _, _, _, _, _, _, rfl⟩, below5 HB1.out⟩
    · have hle2 : a + 2 ≤ s.size := by have := isAt_le b2; exact this
      rw [b2] at h2 HE
      rw [if_pos rfl] at HE
      have H2 : Hid (∀ W, _) := h2
      clear h1 h2 h3 h4 h5 b1 b2
      have H6 : Hid (∀ W, _) := fun W => spec_told s a W hs hle2
      go_enter Tryz.func24, Tryz.ntmps24
      go_wp2_with (first
        | (go_at_call 42; (first | (refine Calls.mono (H1.out _) ?_; clear H1) | (refine Calls.mono (H2.out _) ?_; clear H2)); rintro e w2 ⟨rfl, hw2⟩; have hw3 := hw2.symm; clear hw2; subst hw3)
        | fail)
      refine Calls.mono (H6.out _) ?_
      rintro e w1 ⟨he, hb⟩
      have he' := told_mk he w w1
      obtain ⟨mk, mn, ma, ml, mc, mb, mx, mj, rfl⟩ := mk_shape he'
      rw [HE.out] at he'
      have HMK : Hid _ := mk_of (u0 := .int .i64 mk) (u1 := .string mn) (u2 := .slice ma ml mc) (u3 := .bool mb) (u4 := .string mx) he' (fun m j h => by
        have h' := HE.out.trans h
        unfold tldE at h'
        split at h'
        · cases h'
        · cases h'; rfl)
      have HB1 : Hid (Below w.heap.size w w1) := box_under hb
      obtain ⟨⟨o0, o1, o2, o3, o4⟩, q0, q1, q2, q3, q4⟩ := box5 (box_kept hb)
      clear he he' hb
      go_wp2
      refine bodyPost_ret (by simp [results, Tryz.results24, go_sem, o0, o1, o2, o3, o4]; try rfl) rfl ?_
      exact ⟨HMK.out, below5 HB1.out⟩
  · have HLE : Hid (a + 4 ≤ s.size) := by have := isAt_le b1; exact this
    rw [b1] at h1 HE
    rw [if_pos rfl] at HE
    have H1 : Hid (∀ W, _) := h1
    clear h1 h2 h3 h4 h5 b1
    have h6 : ∀ W, Calls Tryz.prog 43 #[.string s, .int .i64 ((a : Int) + 4), .string ⟨#[45, 45, 62]⟩] W fun e w' => e = .returned (.tuple #[.string (toR s ⟨#[45, 45, 62]⟩ (a + 4)).1, .int .i64 (toR s ⟨#[45, 45, 62]⟩ (a + 4)).2]) ∧ w' = W := fun W => spec_to s ⟨#[45, 45, 62]⟩ (a + 4) W hs (by decide) HLE.out
    cases hj : toI s ⟨#[45, 45, 62]⟩ (a + 4) with
    | none =>
      rw [toR_none hj] at h6
      rw [up_none hj] at HE
      have H6 : Hid (∀ W, _) := h6
      clear hj h6
      go_enter Tryz.func24, Tryz.ntmps24
      go_wp2_with (first
        | (go_at_call 42; (first | (refine Calls.mono (H1.out _) ?_; clear H1)); rintro e w2 ⟨rfl, hw2⟩; have hw3 := hw2.symm; clear hw2; subst hw3)
        | (go_at_call 43; refine Calls.mono (H6.out _) ?_; rintro e w2 ⟨rfl, hw2⟩; have hw3 := hw2.symm; clear hw2; subst hw3))
      refine bodyPost_ret (by simp [results, Tryz.results24, go_sem]; try rfl) rfl ?_
      exact ⟨mk_bad HE.out.symm ⟨_, _, _, _, _, _, _, rfl⟩, HAL.out _⟩
    | some j =>
      rw [toR_some hj] at h6
      rw [up_some hj] at HE
      have H6 : Hid (∀ W, _) := h6
      clear hj h6
      go_enter Tryz.func24, Tryz.ntmps24
      go_wp2_with (first
        | (go_at_call 42; (first | (refine Calls.mono (H1.out _) ?_; clear H1)); rintro e w2 ⟨rfl, hw2⟩; have hw3 := hw2.symm; clear hw2; subst hw3)
        | (go_at_call 43; refine Calls.mono (H6.out _) ?_; rintro e w2 ⟨rfl, hw2⟩; have hw3 := hw2.symm; clear hw2; subst hw3))
      refine bodyPost_ret (by simp [results, Tryz.results24, go_sem]; try rfl) rfl ?_
      exact ⟨mk_plain HE.out.symm rfl, HAL.out _⟩
theorem ext_le (s : ByteArray) (i j : Nat) : (s.extract i j).size ≤ s.size := by rw [ByteArray.size_extract]; omega
theorem toldE_fit {s n x : ByteArray} {a j : Nat} (h : toldE s a = some (n, x, j)) : x.size ≤ s.size := by
  unfold toldE at h
  split at h
  · split at h
    · cases h; exact Nat.zero_le _
    · split at h
      · cases h
      · split at h
        · cases h
        · cases h; exact ext_le _ _ _
  · cases h
theorem markE_fit {s : ByteArray} {a j : Nat} {L : List Pair} {m : MarkV} (h : markE s a L = some (m, j)) (hs : s.size ≤ 1048576) (ha : a < s.size) : m.text.size ≤ 1048576 ∧ RFit m.raws ∧ m.raws.length ≤ 1048576 := by
  have hup : ∀ {t : ByteArray} {b : Nat} {k : Int}, upE s t b k = some (m, j) → m.text.size ≤ 1048576 ∧ RFit m.raws ∧ m.raws.length ≤ 1048576 := fun {t b k} h => by
    unfold upE at h
    split at h
    · cases h
    · cases h
      exact ⟨Nat.le_trans (ext_le _ _ _) hs, rfit_nil, Nat.zero_le _⟩
  unfold markE at h
  split at h
  · exact hup h
  · split at h
    · unfold tldE at h
      split at h
      · cases h
      · rename_i ht
        cases h
        exact ⟨Nat.le_trans (toldE_fit ht) hs, rfit_nil, Nat.zero_le _⟩
    · split at h
      · unfold closeE at h
        split at h
        · split at h
          · cases h; exact ⟨Nat.zero_le _, rfit_nil, Nat.zero_le _⟩
          · cases h
        · cases h
      · split at h
        · exact hup h
        · split at h
          · unfold openE at h
            split at h
            · split at h
              · cases h
              · rename_i ho
                cases h
                have hf := openF_fit hs ho (ends_le s _ _ (by omega)) (Nat.zero_le _) rfit_nil
                exact ⟨Nat.zero_le _, hf.1, Nat.le_trans hf.2.1 (by omega)⟩
            · cases h
          · unfold betweenE at h
            split at h
            · rename_i hc
              cases h
              have h600 := ex_size (n := 0) rfl hc.2
              exact ⟨Nat.le_trans h600.1 (by decide), rfit_nil, Nat.zero_le _⟩
            · cases h
theorem markR_fit {s : ByteArray} {a : Int} {j : Nat} {L : List Pair} {m : MarkV} (h : markR s a L = some (m, j)) (hs : s.size ≤ 1048576) : m.text.size ≤ 1048576 ∧ RFit m.raws ∧ m.raws.length ≤ 1048576 := by
  unfold markR at h
  split at h
  · rename_i hc
    unfold markT at h
    split at h
    · cases h
    · rename_i hm
      split at h
      · cases h
        exact markE_fit hm hs (by omega)
      · cases h
  · cases h
/-- The three parts of what MarkAt answers. -/
def fin (r : Option (MarkV × Nat)) : MarkV × Nat × Bool := match r with | none => (noMark, 0, false) | some (m, j) => (m, j, true)
/-- What MarkAt answers. -/
def ansOk (r : Option (MarkV × Nat)) (w w' : World) (e : Ending) : Prop :=
  ∃ ad c, e = .returned (.tuple #[mkV (fin r).1 ad c, .int .i64 ((fin r).2.1 : Int), .bool (fin r).2.2]) ∧ trees.OwnP w' ad (fin r).1.raws (Rng w w')
theorem ans_bad {r : Option (MarkV × Nat)} {w w' : World} (h : r = none) : ansOk r w w' (.returned (.tuple #[.agg #[.int .i64 0, .string ⟨#[]⟩, .slice none 0 0, .bool false, .string ⟨#[]⟩], .int .i64 0, .bool false])) := by
  subst h
  exact ⟨none, 0, rfl, fun h0 => absurd h0 (Nat.lt_irrefl _)⟩
theorem ans_good {r : Option (MarkV × Nat)} {w w' : World} {m : MarkV} {j : Nat} {ad : Option Addr} {c : Nat} (h : r = some (m, j)) (hown : trees.OwnP w' ad m.raws (Rng w w')) : ansOk r w w' (.returned (.tuple #[.agg #[.int .i64 m.kind, .string m.name, .slice ad m.raws.length c, .bool m.empty, .string m.text], .int .i64 (j : Int), .bool true])) := by
  subst h
  exact ⟨ad, c, rfl, hown⟩
theorem markR_out {s : ByteArray} {a : Int} {L : List Pair} (h : ¬ (0 ≤ a ∧ a < s.size ∧ refs.entsB L = true)) : markR s a L = none := if_neg h
theorem markR_in {s : ByteArray} {a : Nat} {L : List Pair} (h : a < s.size) (he : refs.entsB L = true) : markR s (a : Int) L = markT s a L := by
  unfold markR
  rw [if_pos ⟨Int.natCast_nonneg _, by omega, he⟩, Int.toNat_natCast]
theorem markT_none {s : ByteArray} {a : Nat} {L : List Pair} (h : markE s a L = none) : markT s a L = none := by unfold markT; rw [h]
theorem markT_no {s : ByteArray} {a j : Nat} {L : List Pair} {m : MarkV} (h : markE s a L = some (m, j)) (ht : refs.textB m.text = false) : markT s a L = none := by unfold markT; rw [h]; exact if_neg (by rw [ht]; decide)
theorem markT_yes {s : ByteArray} {a j : Nat} {L : List Pair} {m : MarkV} (h : markE s a L = some (m, j)) (ht : refs.textB m.text = true) : markT s a L = some (m, j) := by unfold markT; rw [h]; exact if_pos ht
set_option maxRecDepth 100000 in
set_option maxHeartbeats 4000000 in
theorem spec_markAt (s : ByteArray) (at_ : Int) (ad : Option Addr) (L : List Pair) (cap : Nat) (w : World) (hs : s.size ≤ 1048576) (hL : PairsAt w ad L) (hv : ∀ i, i < L.length → (at0 L i).2.size ≤ 1048576) : Calls Tryz.prog 7 #[.string s, .int .i64 at_, .slice ad L.length cap] w fun e w' => ansOk (markR s at_ L) w w' e ∧ Below w.heap.size w w' := by
  have HL : Hid (PairsAt w ad L) := hL
  have HV : Hid _ := hv
  have HAL : Hid (∀ o, Below w.heap.size w (w.alloc o)) := fun o => (Below.refl _ _).alloc (Nat.le_refl _) o
  clear hL hv
  by_cases h0 : at_ < 0
  · have HN : Hid (markR s at_ L = none) := markR_out (fun h => by omega)
    go_enter Tryz.func7, Tryz.ntmps7
    go_wp2
    refine bodyPost_ret (by simp [results, Tryz.results7, go_sem]; try rfl) rfl ?_
    exact ⟨ans_bad HN.out, HAL.out _⟩
  · by_cases h1 : at_ < s.size
    · obtain ⟨a, rfl⟩ : ∃ a : Nat, at_ = a := ⟨at_.toNat, by omega⟩
      have ha : a < s.size := by omega
      have h1' : ¬ (s.size : Int) ≤ a := by omega
      have H1 : Hid (∀ W, PairsAt W ad L → _) := fun W h2 => refs.spec_ents ad L cap W h2
      cases he : refs.entsB L
      · rw [he] at H1
        have HN : Hid (markR s (a : Int) L = none) := markR_out (fun h => by rw [he] at h; exact absurd h.2.2 (by decide))
        clear he
        go_enter Tryz.func7, Tryz.ntmps7
        go_wp2_with fail
        refine Calls.mono (H1.out _ (HL.out.below (Nat.le_refl _) (HAL.out _))) ?_
        rintro e w1 ⟨rfl, hb⟩
        have HB1 : Hid (Below w.heap.size w w1) := box_under hb
        obtain ⟨⟨o0, o1, o2, o3, o4⟩, q0, q1, q2, q3, q4⟩ := box5 (box_kept hb)
        clear hb
        go_wp2
        refine bodyPost_ret (by simp [results, Tryz.results7, go_sem, o0, o1, o2, o3, o4]; try rfl) rfl ?_
        exact ⟨ans_bad HN.out, below5 HB1.out⟩
      · rw [he] at H1
        have HM : Hid (markR s (a : Int) L = markT s a L) := markR_in ha he
        clear he
        have H2 : Hid (∀ W, PairsAt W ad L → _) := fun W h2 => spec_mark s a L ad cap W hs ha h2 HV.out
        obtain ⟨M, hM⟩ : ∃ M, markE s a L = M := ⟨_, rfl⟩
        rw [hM] at H2
        have HME : Hid _ := hM
        clear hM
        go_enter Tryz.func7, Tryz.ntmps7
        go_wp2_with fail
        refine Calls.mono (H1.out _ (HL.out.below (Nat.le_refl _) (HAL.out _))) ?_
        rintro e w1 ⟨rfl, hb⟩
        have HB1 : Hid (Below w.heap.size w w1) := box_under hb
        have HX1 : Hid _ := box_kept hb
        clear hb
        go_wp2_with fail
        refine Calls.mono (H2.out _ (HL.out.below (Nat.le_refl _) HB1.out)) ?_
        rintro e w2 ⟨he, hb⟩
        have HB2 : Hid (Below w.heap.size w w2) := HB1.out.trans (hb.mono HB1.out.size)
        have HX2 : Hid _ := (hb.block _ (lt_heap HX1.out)).trans HX1.out
        have HS2 : Hid (w.heap.size < w1.heap.size) := lt_heap HX1.out
        clear hb
        have HX3 : Hid (∀ o, _) := fun o => (Below.heap_alloc w2 o _ (lt_heap HX2.out)).trans HX2.out
        cases M with
        | none =>
          have HN : Hid (markR s (a : Int) L = none) := HM.out.trans (markT_none HME.out)
          obtain ⟨k, n, a', l, c, b, x, rfl⟩ := he
          obtain ⟨⟨o0, o1, o2, o3, o4⟩, q0, q1, q2, q3, q4⟩ := box5 (HX3.out (.cells #[.int .i64 k, .string n, .slice a' l c, .bool b, .string x] 29))
          go_wp2
          refine bodyPost_ret (by simp [results, Tryz.results7, go_sem, o0, o1, o2, o3, o4]; try rfl) rfl ?_
          exact ⟨ans_bad HN.out, below5 (HB2.out.alloc HB2.out.size _)⟩
        | some y =>
          obtain ⟨m, j⟩ := y
          obtain ⟨a', c', rfl, hown⟩ := he
          have HOWN : Hid (trees.OwnP w2 a' m.raws (Rng w1 w2)) := hown
          clear hown
          unfold mkV
          have H3 : Hid (∀ W, _) := fun W => scans.spec_text m.text W (by have := (markE_fit HME.out hs ha).1; unfold maxLen; omega)
          cases ht : refs.textB m.text
          · rw [show (decide (m.text.size ≤ 600) && scans.signs m.text) = false from ht] at H3
            have HN : Hid (markR s (a : Int) L = none) := HM.out.trans (markT_no HME.out ht)
            obtain ⟨⟨o0, o1, o2, o3, o4⟩, q0, q1, q2, q3, q4⟩ := box5 (HX3.out (.cells #[.int .i64 m.kind, .string m.name, .slice a' m.raws.length c', .bool m.empty, .string m.text] 29))
            clear ht
            go_wp2_with (go_at_call 25; refine (H3.out _).mono ?_; rintro e w3 ⟨rfl, hw2⟩; have hw3 := hw2.symm; clear hw2; subst hw3)
            refine bodyPost_ret (by simp [results, Tryz.results7, go_sem, o0, o1, o2, o3, o4]; try rfl) rfl ?_
            exact ⟨ans_bad HN.out, below5 (HB2.out.alloc HB2.out.size _)⟩
          · rw [show (decide (m.text.size ≤ 600) && scans.signs m.text) = true from ht] at H3
            have HG : Hid (markR s (a : Int) L = some (m, j)) := HM.out.trans (markT_yes HME.out ht)
            obtain ⟨⟨o0, o1, o2, o3, o4⟩, q0, q1, q2, q3, q4⟩ := box5 (HX3.out (.cells #[.int .i64 m.kind, .string m.name, .slice a' m.raws.length c', .bool m.empty, .string m.text] 29))
            clear ht
            have HO : Hid (trees.OwnP (w2.alloc (.cells #[.int .i64 m.kind, .string m.name, .slice a' m.raws.length c', .bool m.empty, .string m.text] 29)) a' m.raws (Rng w1 (w2.alloc (.cells #[.int .i64 m.kind, .string m.name, .slice a' m.raws.length c', .bool m.empty, .string m.text] 29)))) := trees.OwnP.sub (trees.OwnP.out (F := Rng w1 w2) (G := fun _ => False) HOWN.out (Out.of_below ((Below.refl _ _).alloc (Nat.le_refl _) _)) (fun _ _ h => h)) (fun x hx => ⟨hx.1, Nat.lt_of_lt_of_le hx.2 (by simp)⟩)
            go_wp2_with (go_at_call 25; refine (H3.out _).mono ?_; rintro e w3 ⟨rfl, hw2⟩; have hw3 := hw2.symm; clear hw2; subst hw3)
            refine bodyPost_ret (by simp [results, Tryz.results7, go_sem, o0, o1, o2, o3, o4]; try rfl) rfl ?_
            refine ⟨ans_good HG.out (own_up HO.out HS2.out (out5 w _ _ _ _ _ _)), below5 (HB2.out.alloc HB2.out.size _)⟩
    · have h1' : (s.size : Int) ≤ at_ := by omega
      have HN : Hid (markR s at_ L = none) := markR_out (fun h => h1 h.2.1)
      go_enter Tryz.func7, Tryz.ntmps7
      go_wp2
      refine bodyPost_ret (by simp [results, Tryz.results7, go_sem]; try rfl) rfl ?_
      exact ⟨ans_bad HN.out, HAL.out _⟩
end Go.Proofs.YtekbpekfomblbaaGreatDoor.cuts
