/-
  Slices of whole numbers, in memory.
-/
import Derived.Test.YtpejcblmglbjfaaOwnB
import Derived.ChangeSlices
namespace Go.Proofs.Ytpejcblmglbjfaa.ints
open Go.ChangeShapes Go.WideShapes Go.ChangeAt Go.RowKit
open trees (Bset Inc Apart Out Rng)
set_option linter.unusedVariables false
def int0 (L : List Int) (i : Nat) : Int := L.getD i 0
def okI (x : Int) : Prop := -9223372036854775808 ≤ x ∧ x ≤ 9223372036854775807
/-- A slice at a of just these numbers. -/
structure IntsAt (w : World) (a : Option Addr) (L : List Int) : Prop where
  row : 0 < L.length → ∃ b off, a = some ⟨b, off, none⟩ ∧ b < w.heap.size ∧ ∀ i, i < L.length → w.cell? ⟨b, off + i, none⟩ = some (.int .i64 (int0 L i))
  short : L.length ≤ maxLen
  fit : ∀ i, i < L.length → okI (int0 L i)
theorem IntsAt.below {w w' : World} {a : Option Addr} {L : List Int} (h : IntsAt w a L) {B : Nat} (hB : w.heap.size ≤ B) (hb : Below B w w') : IntsAt w' a L :=
  ⟨fun h0 => by
    obtain ⟨b, off, ha, hlt, hc⟩ := h.row h0
    refine ⟨b, off, ha, Nat.lt_of_lt_of_le hlt hb.size, fun i hi => ?_⟩
    rw [hb.cell (p := ⟨b, off + i, none⟩) (Nat.lt_of_lt_of_le hlt hB)]
    exact hc i hi, h.short, h.fit⟩
theorem nil_ints (w : World) : IntsAt w none [] := ⟨fun h => absurd h (by simp), by simp, fun i hi => by cases hi⟩
/-- A row of the call's own, of as many numbers, the first k of which are there already. -/
structure MadeI (w : World) (g : Nat) (L : List Int) (k : Nat) : Prop where
  all : ∃ (cur : Array Value) (t : TypeId), w.heap[g]? = some (.cells cur t (0, 0)) ∧ L.length ≤ cur.size ∧ ∀ j, j < k → cur[j]? = some (.int .i64 (int0 L j))
theorem MadeI.next {w w2 : World} {g : Nat} {L : List Int} {k : Nat} (h : MadeI w g L k) (hk : k < L.length) (hb : Below w.heap.size w w2) :
    ∃ c0, w2.cell? ⟨g, k, none⟩ = some c0 ∧ w2.frozen? ⟨g, k, none⟩ = false ∧ MadeI (w2.setCell ⟨g, k, none⟩ (.int .i64 (int0 L k))) g L (k + 1) := by
  obtain ⟨cur, t, hg, hs, hj⟩ := h.all
  have hg2 : w2.heap[g]? = some (.cells cur t (0, 0)) := (hb.block g (pairs.lt_heap hg)).trans hg
  have h1 : k < cur.size := by omega
  refine ⟨cur[k], by simp [World.cell?, hg2, h1], by simp [World.frozen?, hg2], ⟨_, t, pairs.block_set _ hg2, by simpa using hs, fun j hj' => ?_⟩⟩
  by_cases e : j = k
  · subst e
    rw [Array.getElem?_setIfInBounds_self_of_lt h1]
  · rw [Array.getElem?_setIfInBounds_ne (by omega)]
    exact hj j (by omega)
theorem MadeI.ints {w : World} {g : Nat} {L : List Int} (h : MadeI w g L L.length) (hl : L.length ≤ maxLen) (ht : ∀ i, i < L.length → okI (int0 L i)) : IntsAt w (some ⟨g, 0, none⟩) L := by
  obtain ⟨cur, t, hg, hs, hj⟩ := h.all
  refine ⟨fun _ => ⟨g, 0, rfl, pairs.lt_heap hg, fun i hi => ?_⟩, hl, ht⟩
  simp [World.cell?, hg, hj i hi]
theorem madeI_new {w : World} {B g cap : Nat} {t : TypeId} {L : List Int} {xs : List Value} (h : w.ownsRow B t 1 (.slice (some ⟨g, 0, none⟩) L.length cap) L.length xs) (hc : cap = L.length) : MadeI w g L 0 := by
  rcases h.2 with ⟨h', _⟩ | ⟨g', cap', cur, h', _, hg, _, _, hs, _⟩
  · cases h'
  · cases h'
    subst hc
    exact ⟨cur, t, hg, by omega, fun j hj => by omega⟩
theorem MadeI.below {w w' : World} {g : Nat} {L : List Int} {k : Nat} (h : MadeI w g L k) (hb : Below w.heap.size w w') : MadeI w' g L k := by
  obtain ⟨cur, t, hg, hs, hj⟩ := h
  exact ⟨cur, t, (hb.block g (pairs.lt_heap hg)).trans hg, hs, hj⟩
theorem MadeI.lt {w : World} {g : Nat} {L : List Int} {k : Nat} (h : MadeI w g L k) : g < w.heap.size := by
  obtain ⟨cur, t, hg, _⟩ := h
  exact pairs.lt_heap hg
def IFit (L : List Int) : Prop := L.length ≤ maxLen ∧ ∀ i, i < L.length → okI (int0 L i)
def OwnI (w : World) (a : Option Addr) (L : List Int) (F : Bset) : Prop := 0 < L.length → ∃ g, a = some ⟨g, 0, none⟩ ∧ F g ∧ MadeI w g L L.length
theorem OwnI.out {w w' : World} {a : Option Addr} {L : List Int} {F G : Bset} (h : OwnI w a L F) (ho : Out G w w') (hd : Apart F G) : OwnI w' a L F := fun h0 => by
  obtain ⟨g, ha, hf, ⟨cur, t, h1, h2, h3⟩⟩ := h h0
  exact ⟨g, ha, hf, cur, t, (ho.block g (pairs.lt_heap h1) (hd g hf)).trans h1, h2, h3⟩
theorem OwnI.below {w w' : World} {a : Option Addr} {L : List Int} {F : Bset} (h : OwnI w a L F) (hb : Below w.heap.size w w') : OwnI w' a L F := OwnI.out (G := fun _ => False) h (Out.of_below hb) (fun _ _ h => h)
theorem OwnI.sub {w : World} {a : Option Addr} {L : List Int} {F G : Bset} (h : OwnI w a L F) (hs : Inc F G) : OwnI w a L G := fun h0 => by
  obtain ⟨g, ha, hf, hm⟩ := h h0
  exact ⟨g, ha, hs g hf, hm⟩
theorem OwnI.at {w : World} {a : Option Addr} {L : List Int} {F : Bset} (h : OwnI w a L F) (hf : IFit L) : IntsAt w a L := by
  by_cases h0 : 0 < L.length
  · obtain ⟨g, rfl, _, hm⟩ := h h0
    exact hm.ints hf.1 hf.2
  · exact ⟨fun h => absurd h h0, hf.1, hf.2⟩
theorem ok_of {x : Int} (h : (Lit.int .i64 x).wf = true) : okI x := by
  simp only [Lit.wf, Bool.and_eq_true, decide_eq_true_eq] at h
  have e1 : IntKind.i64.min = -9223372036854775808 := by rfl
  have e2 : IntKind.i64.max = 9223372036854775807 := by rfl
  rw [e1, e2] at h
  exact h
/-- A slice of numbers that came in, opened. -/
theorem open_intS {H : Type} {enc : TypeId × Value → H} {P : Program} {t e : TypeId} (ht : P.underlying t = some (.slice e)) (he : P.underlying e = some (.int .i64)) (hc : P.cellsOf e = 1) {W : World} {base : Nat} {spare : Nat → Bool} {held : Bool} {fuel : Nat} {cs : List Value} {x : DataW H × List MemPlace}
    (h : DataW.trod enc P W base spare held fuel t cs = some x) : ∃ (a : Option Addr) (cap : Nat) (L : List Int), cs = [.slice a L.length cap] ∧ IntsAt W a L := by
  rcases open_ints ht he hc h with ⟨hcs, _⟩ | ⟨x, l, c, zs, hcs, _, hl, hm, hz, _, hcell, hwz⟩
  · exact ⟨none, 0, [], hcs, ⟨fun h => absurd h (by decide), Nat.zero_le _, fun i hi => absurd hi (Nat.not_lt_zero _)⟩⟩
  · have hlz : l ≤ zs.length := by rw [hz]; split <;> omega
    have hlen : (zs.take l).length = l := by rw [List.length_take]; omega
    have hat : ∀ i, i < l → int0 (zs.take l) i = zs.getD i 0 := fun i hi => by
      unfold int0
      simp [List.getD, hi]
    refine ⟨some x, c, zs.take l, by rw [hlen]; exact hcs, ⟨fun h0 => ?_, by rw [hlen]; omega, fun i hi => ?_⟩⟩
    · rw [hlen] at h0
      have g0 := hcell 0 (by omega)
      obtain ⟨b, off, spot⟩ := x
      have hspot : spot = none := by simpa [Addr.add] using World.cell?_spot g0
      subst hspot
      refine ⟨b, off, rfl, ?_, fun i hi => ?_⟩
      · have := World.block_lt_of_cell? W _ g0
        rwa [Addr.add_lit] at this
      · rw [hlen] at hi
        have := hcell i (by omega)
        rw [Addr.add_lit] at this
        rw [this, hat i hi]
    · rw [hlen] at hi
      rw [hat i hi]
      refine ok_of (hwz _ ?_)
      rw [List.getD_eq_getElem?_getD, List.getElem?_eq_getElem (by omega)]
      exact List.getElem_mem _
end Go.Proofs.Ytpejcblmglbjfaa.ints
