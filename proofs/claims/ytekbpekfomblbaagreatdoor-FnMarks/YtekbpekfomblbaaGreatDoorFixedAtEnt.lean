/-
  A package-level table of structs of two texts, in memory as the program's text lays it.
-/
import Derived.Test.YtekbpekfomblbaaGreatDoorPairs
import Derived.Deep.SlicePairs
import Derived.LaidMore
import Derived.OpenVars
namespace Go.Proofs.YtekbpekfomblbaaGreatDoor.pairs
open Go.ChangeShapes Go.WideShapes Go.ChangeAt Go.RowKit
set_option linter.unusedVariables false
def pairData {H : Type} (L : List Pair) : DataW H := .slice (L.map fun p => .agg [.lit (.string p.1.data.toList), .lit (.string p.2.data.toList)]) []
/-- The variable g holds a slice of just these pairs. -/
structure TableAt (w : World) (g : Nat) (L : List Pair) : Prop where
  all : ∃ a cap, w.cell? ⟨g, 0, none⟩ = some (.slice a L.length cap) ∧ g < w.heap.size ∧ PairsAt w a L
theorem TableAt.below {w w' : World} {g : Nat} {L : List Pair} (h : TableAt w g L) (hb : Below w.heap.size w w') : TableAt w' g L := by
  obtain ⟨a, cap, h1, h2, h3⟩ := h
  exact ⟨a, cap, (hb.cell (p := ⟨g, 0, none⟩) h2).trans h1, Nat.lt_of_lt_of_le h2 hb.size, h3.below (Nat.le_refl _) hb⟩
theorem underI : ∃ f0 f1 : Field, Tryz.prog.underlying 63 = some (.struct #[f0, f1]) ∧ f0.offset = 0 ∧ f1.offset = 1 ∧ f0.type = 9 ∧ f1.type = 9 := by
  refine ⟨_, _, Tryz.underlying63, rfl, rfl, rfl, rfl⟩
theorem cellsI : Tryz.prog.cellsOf 63 = 2 := by kernel_rfl
theorem lt_cell {w : World} {a : Addr} {v : Value} (h : w.cell? a = some v) : a.block < w.heap.size := World.block_lt_of_cell? w _ h
theorem data_inj {a b : ByteArray} (h : a.data.toList = b.data.toList) : a = b := ByteArray.ext (Array.toList_inj.1 h)
theorem table_of {H : Type} {enc : TypeId × Value → H} {W : World} {base : Nat} {spare : Nat → Bool} {held : Bool} {name : String} {g fuel : Nat} {cs : Array Value} {q : List MemPlace} {L : List Pair}
    (hg : Tryz.prog.globalNamed name = some g) (hv : W.var? Tryz.prog name = some cs) (hL : L ≠ []) (h : DataW.trod enc Tryz.prog W base spare held fuel 24 cs.toList = some (pairData L, q)) : TableAt W g L := by
  obtain ⟨f0, f1, hu, o0, o1, t0, t1⟩ := underI
  have c0 : Tryz.prog.cellsOf f0.type = 1 := by rw [t0]; kernel_rfl
  have c1 : Tryz.prog.cellsOf f1.type = 1 := by rw [t1]; kernel_rfl
  rcases Deep.open_slice_pairs Tryz.underlying24 hu cellsI o0 o1 c0 c1 h with ⟨_, hx⟩ | ⟨a, len, cap, m, k, V0, V1, D0, D1, P0, P1, hcs, _, hlc, hcm, hm, hx, hel⟩
  · simp [pairData] at hx
  · simp only [Prod.mk.injEq, pairData, DataW.slice.injEq] at hx
    obtain ⟨⟨hmap, _⟩, _⟩ := hx
    have hll : len = L.length := by have := congrArg List.length hmap; simpa using this.symm
    have hlm : len ≤ m := by rw [hm]; split <;> omega
    have hD : ∀ i, i < L.length → D0 i = .lit (.string (at0 L i).1.data.toList) ∧ D1 i = .lit (.string (at0 L i).2.data.toList) := by
      intro i hi
      have e := congrArg (fun l => l[i]?) hmap
      simp [List.getElem?_eq_getElem hi, show i < len by omega] at e
      simp [at0, List.getD, List.getElem?_eq_getElem hi]
      exact ⟨e.1.symm, e.2.symm⟩
    have hcell : ∀ i, i < L.length → (W.cell? (a.add (i * 2)) = some (.string (at0 L i).1) ∧ W.cell? (a.add (i * 2 + 1)) = some (.string (at0 L i).2)) ∧ (at0 L i).1.size ≤ maxLen ∧ (at0 L i).2.size ≤ maxLen := by
      intro i hi
      obtain ⟨g0, g1, r0, r1⟩ := hel i (by omega)
      rw [t0] at r0
      rw [t1] at r1
      obtain ⟨s0, e0, y0, z0⟩ := DataW.trod_string Tryz.underlying9 r0
      obtain ⟨s1, e1, y1, z1⟩ := DataW.trod_string Tryz.underlying9 r1
      simp only [List.cons.injEq, and_true, Prod.mk.injEq] at e0 e1 y0 y1
      have d0 := (hD i hi).1
      have d1 := (hD i hi).2
      rw [y0.1] at d0
      rw [y1.1] at d1
      simp only [DataW.lit.injEq, Lit.string.injEq] at d0 d1
      obtain rfl := data_inj d0
      obtain rfl := data_inj d1
      rw [g0, g1, e0, e1]
      exact ⟨⟨rfl, rfl⟩, z0, z1⟩
    have hpos : 0 < L.length := List.length_pos_iff.mpr hL
    obtain ⟨b, off, spot⟩ := a
    have hspot : spot = none := by have := (hcell 0 hpos).1.1; simpa [Addr.add] using World.cell?_spot this
    subst hspot
    have hc := World.var?_cell hg hv 0
    have hcs' : cs = #[.slice (some ⟨b, off, none⟩) len cap] := Array.toList_inj.mp hcs
    rw [hcs'] at hc
    have hhead : W.cell? ⟨g, 0, none⟩ = some (.slice (some ⟨b, off, none⟩) L.length cap) := by rw [← hll]; simpa using hc
    refine ⟨_, cap, hhead, lt_cell hhead, ⟨fun _ => ⟨b, off, rfl, ?_, fun i hi => ?_⟩, by omega, fun i hi => (hcell i hi).2⟩⟩
    · have := lt_cell (hcell 0 hpos).1.1
      rwa [Addr.add_lit] at this
    · have := (hcell i hi).1
      rw [Addr.add_lit, Addr.add_lit, ← Nat.add_assoc] at this
      exact this
end Go.Proofs.YtekbpekfomblbaaGreatDoor.pairs
