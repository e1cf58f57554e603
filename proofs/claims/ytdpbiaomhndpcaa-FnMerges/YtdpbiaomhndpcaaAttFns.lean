/-
  The laws' own helpers on Attrs: how great, a copy, whether two are the same.
-/
import Derived.Test.YtdpbiaomhndpcaaTreeP
import Derived.Test.YtdpbiaomhndpcaaQuiet
import Derived.Lib.SmallJoins
namespace Go.Proofs.Ytdpbiaomhndpcaa.trees
open Go.ChangeShapes Go.WideShapes Go.ChangeAt Go.RowKit
set_option linter.unusedVariables false
def Att.size (x : Att) : Nat := x.pre.size + x.loc.size + x.uri.size + x.val.size
def asizeTo (L : List Att) : Nat → Nat
  | 0 => 0
  | k + 1 => asizeTo L k + (att0 L k).size
theorem asizeTo_one (L : List Att) : ∀ {k i : Nat}, i < k → (att0 L i).size ≤ asizeTo L k
  | 0, i, h => by omega
  | k + 1, i, h => by
    rw [asizeTo]
    by_cases e : i = k
    · rw [e]; omega
    · have := asizeTo_one L (k := k) (i := i) (by omega)
      omega
def smallA (L : List Att) : Nat := L.length + asizeTo L L.length
theorem info_att : (Try.prog.info? 51).map (fun i => (i.zero, i.size, i.bytes)) = some (some (.agg #[.string ⟨#[]⟩, .string ⟨#[]⟩, .string ⟨#[]⟩, .string ⟨#[]⟩]), 4, 64) := by kernel_rfl
/-- A row of the call's own, of as many Attrs, the first k of which are there already. -/
structure MadeA (w : World) (g : Nat) (L : List Att) (k : Nat) : Prop where
  all : ∃ (cur : Array Value) (t : TypeId), w.heap[g]? = some (.cells cur t (0, 0)) ∧ L.length * 4 ≤ cur.size ∧ ∀ j, j < k → cur[j * 4]? = some (.string (att0 L j).pre) ∧ cur[j * 4 + 1]? = some (.string (att0 L j).loc) ∧ cur[j * 4 + 2]? = some (.string (att0 L j).uri) ∧ cur[j * 4 + 3]? = some (.string (att0 L j).val)
theorem MadeA.next {w w2 : World} {g : Nat} {L : List Att} {k : Nat} (h : MadeA w g L k) (hk : k < L.length) (hb : Below w.heap.size w w2) :
    ∃ c0 c1 c2 c3, w2.cell? ⟨g, k * 4, none⟩ = some c0 ∧ w2.cell? ⟨g, k * 4 + 1, none⟩ = some c1 ∧ w2.cell? ⟨g, k * 4 + 2, none⟩ = some c2 ∧ w2.cell? ⟨g, k * 4 + 3, none⟩ = some c3 ∧ w2.frozen? ⟨g, k * 4, none⟩ = false ∧ w2.frozen? ⟨g, k * 4 + 1, none⟩ = false ∧ w2.frozen? ⟨g, k * 4 + 2, none⟩ = false ∧ w2.frozen? ⟨g, k * 4 + 3, none⟩ = false ∧
      MadeA ((((w2.setCell ⟨g, k * 4, none⟩ (.string (att0 L k).pre)).setCell ⟨g, k * 4 + 1, none⟩ (.string (att0 L k).loc)).setCell ⟨g, k * 4 + 2, none⟩ (.string (att0 L k).uri)).setCell ⟨g, k * 4 + 3, none⟩ (.string (att0 L k).val)) g L (k + 1) := by
  obtain ⟨cur, t, hg, hs, hj⟩ := h.all
  have hg2 : w2.heap[g]? = some (.cells cur t (0, 0)) := (hb.block g (pairs.lt_heap hg)).trans hg
  have h1 : k * 4 + 3 < cur.size := by omega
  refine ⟨cur[k * 4], cur[k * 4 + 1], cur[k * 4 + 2], cur[k * 4 + 3], by simp [World.cell?, hg2, show k * 4 < cur.size by omega], by simp [World.cell?, hg2, show k * 4 + 1 < cur.size by omega], by simp [World.cell?, hg2, show k * 4 + 2 < cur.size by omega], by simp [World.cell?, hg2, h1], by simp [World.frozen?, hg2], by simp [World.frozen?, hg2], by simp [World.frozen?, hg2], by simp [World.frozen?, hg2], ⟨_, t, pairs.block_set _ (pairs.block_set _ (pairs.block_set _ (pairs.block_set _ hg2))), by simpa using hs, fun j hj' => ?_⟩⟩
  by_cases e : j = k
  · subst e
    refine ⟨?_, ?_, ?_, ?_⟩
    all_goals grind
  · obtain ⟨a1, a2, a3, a4⟩ := hj j (by omega)
    refine ⟨?_, ?_, ?_, ?_⟩
    all_goals
      repeat rw [Array.getElem?_setIfInBounds_ne (by omega)]
      assumption
theorem MadeA.atts {w : World} {g : Nat} {L : List Att} (h : MadeA w g L L.length) (hl : L.length ≤ maxLen) (ht : ∀ i, i < L.length → (att0 L i).fits) : AttsAt w (some ⟨g, 0, none⟩) L := by
  obtain ⟨cur, t, hg, hs, hj⟩ := h.all
  refine ⟨fun _ => ⟨g, 0, rfl, pairs.lt_heap hg, fun i hi => ?_⟩, hl, ht⟩
  obtain ⟨a1, a2, a3, a4⟩ := hj i hi
  refine ⟨?_, ?_, ?_, ?_⟩
  · simp [World.cell?, hg, a1]
  · simp [World.cell?, hg, a2]
  · simp [World.cell?, hg, a3]
  · simp [World.cell?, hg, a4]
theorem madeA_new {w : World} {B g cap : Nat} {t : TypeId} {L : List Att} {xs : List Value} (h : w.ownsRow B t 4 (.slice (some ⟨g, 0, none⟩) L.length cap) L.length xs) (hc : cap = L.length) : MadeA w g L 0 := by
  rcases h.2 with ⟨h', _⟩ | ⟨g', cap', cur, h', _, hg, _, _, hs, _⟩
  · cases h'
  · cases h'
    subst hc
    exact ⟨cur, t, hg, by omega, fun j hj => by omega⟩
end Go.Proofs.Ytdpbiaomhndpcaa.trees
