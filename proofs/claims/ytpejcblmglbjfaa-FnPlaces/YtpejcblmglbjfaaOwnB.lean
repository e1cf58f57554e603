/-
  Sets of blocks, what has turned in them alone, and rows of pairs that are owned.
-/
import Derived.Test.YtpejcblmglbjfaaPairs
namespace Go.Proofs.Ytpejcblmglbjfaa.trees
open Go.RowKit
open pairs (Pair at0 PairsAt)
set_option linter.unusedVariables false
/-! ### Sets of blocks -/
abbrev Bset := Nat → Prop
def Inc (F G : Bset) : Prop := ∀ b, F b → G b
def Apart (F G : Bset) : Prop := ∀ b, F b → G b → False
theorem Inc.refl (F : Bset) : Inc F F := fun _ h => h
theorem Inc.trans {F G H : Bset} (h : Inc F G) (k : Inc G H) : Inc F H := fun b hb => k b (h b hb)
theorem Apart.symm {F G : Bset} (h : Apart F G) : Apart G F := fun b hb hc => h b hc hb
theorem Apart.sub {F G F' G' : Bset} (h : Apart F G) (h1 : Inc F' F) (h2 : Inc G' G) : Apart F' G' := fun b hb hc => h b (h1 b hb) (h2 b hc)
/-- Nothing but what lies in F has turned. -/
structure Out (F : Bset) (w w' : World) : Prop where
  os : w'.os = w.os
  tape : w'.tape = w.tape
  output : w'.output = w.output
  size : w.heap.size ≤ w'.heap.size
  block : ∀ k, k < w.heap.size → ¬ F k → w'.heap[k]? = w.heap[k]?
theorem Out.refl (F : Bset) (w : World) : Out F w w := ⟨rfl, rfl, rfl, Nat.le_refl _, fun _ _ _ => rfl⟩
theorem Out.trans {F : Bset} {a b c : World} (h : Out F a b) (k : Out F b c) : Out F a c := ⟨k.os.trans h.os, k.tape.trans h.tape, k.output.trans h.output, Nat.le_trans h.size k.size, fun i hi hf => (k.block i (Nat.lt_of_lt_of_le hi h.size) hf).trans (h.block i hi hf)⟩
theorem Out.mono {F G : Bset} {w w' : World} (h : Out F w w') (hs : Inc F G) : Out G w w' := ⟨h.os, h.tape, h.output, h.size, fun k hk hg => h.block k hk (fun hf => hg (hs k hf))⟩
theorem Out.of_below {F : Bset} {w w' : World} (h : Below w.heap.size w w') : Out F w w' := ⟨h.os, h.tape, h.output, h.size, fun k hk _ => h.block k hk⟩
theorem size_setCell (w : World) (g o : Nat) (u : Value) : (w.setCell ⟨g, o, none⟩ u).heap.size = w.heap.size := by simp [World.setCell]
theorem Out.set {F : Bset} {w w' : World} (h : Out F w w') {g : Nat} (hg : F g) (o : Nat) (u : Value) : Out F w (w'.setCell ⟨g, o, none⟩ u) :=
  ⟨h.os, h.tape, h.output, by rw [size_setCell]; exact h.size, fun k hk hf => (Below.heap_setCell w' ⟨g, o, none⟩ u k (fun e => hf (by rw [e]; exact hg))).trans (h.block k hk hf)⟩
theorem Out.below {F : Bset} {B : Nat} {w0 w w' : World} (h : Out F w w') (hb : Below B w0 w) (hF : ∀ b, F b → B ≤ b) (hB : B ≤ w.heap.size) : Below B w0 w' :=
  hb.trans ⟨h.os, h.tape, h.output, h.size, fun k hk => h.block k (Nat.lt_of_lt_of_le hk hB) (fun hf => absurd (hF k hf) (by omega))⟩
theorem Out.grown {w w' : World} {g : Nat} (h : w.grownBy w' (some g)) {F : Bset} (hg : F g) : Out F w w' := by
  have hb : Below 0 w w := Below.refl _ _
  obtain ⟨h1, h2, h3, h4, h5⟩ := h
  exact ⟨h1, h2, h3, h4, fun k hk hf => h5 k hk (fun e => hf (by cases e; exact hg))⟩
theorem Out.grown_none {w w' : World} (h : w.grownBy w' none) {F : Bset} : Out F w w' := by
  obtain ⟨h1, h2, h3, h4, h5⟩ := h
  exact ⟨h1, h2, h3, h4, fun k hk hf => h5 k hk (fun e => by cases e)⟩
/-! ### Rows -/
def PFit (L : List Pair) : Prop := L.length ≤ maxLen ∧ ∀ i, i < L.length → (at0 L i).1.size ≤ maxLen ∧ (at0 L i).2.size ≤ maxLen
def OwnP (w : World) (a : Option Addr) (L : List Pair) (F : Bset) : Prop := 0 < L.length → ∃ g, a = some ⟨g, 0, none⟩ ∧ F g ∧ pairs.Made w g L L.length
theorem made_out {w w' : World} {G : Bset} {g : Nat} {L : List Pair} {k : Nat} (h : pairs.Made w g L k) (ho : Out G w w') (hg : ¬ G g) : pairs.Made w' g L k := by
  obtain ⟨cur, t, h1, h2, h3⟩ := h.all
  exact ⟨cur, t, (ho.block g (pairs.lt_heap h1) hg).trans h1, h2, h3⟩
theorem OwnP.out {w w' : World} {a : Option Addr} {L : List Pair} {F G : Bset} (h : OwnP w a L F) (ho : Out G w w') (hd : Apart F G) : OwnP w' a L F := fun h0 => by
  obtain ⟨g, ha, hf, hm⟩ := h h0
  exact ⟨g, ha, hf, made_out hm ho (hd g hf)⟩
theorem OwnP.sub {w : World} {a : Option Addr} {L : List Pair} {F G : Bset} (h : OwnP w a L F) (hs : Inc F G) : OwnP w a L G := fun h0 => by
  obtain ⟨g, ha, hf, hm⟩ := h h0
  exact ⟨g, ha, hs g hf, hm⟩
theorem OwnP.at {w : World} {a : Option Addr} {L : List Pair} {F : Bset} (h : OwnP w a L F) (hf : PFit L) : PairsAt w a L := by
  by_cases h0 : 0 < L.length
  · obtain ⟨g, rfl, _, hm⟩ := h h0
    exact hm.pairs hf.1 hf.2
  · exact ⟨fun h => absurd h h0, hf.1, hf.2⟩
/-- What was made between two worlds. -/
def Rng (w w' : World) : Bset := fun b => w.heap.size ≤ b ∧ b < w'.heap.size
end Go.Proofs.Ytpejcblmglbjfaa.trees
