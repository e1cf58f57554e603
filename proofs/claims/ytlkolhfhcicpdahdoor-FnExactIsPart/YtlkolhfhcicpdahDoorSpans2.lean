/-
  What the specification answers to whether a name may begin with a sign, and whether it may stand in one.
-/
import Derived.Test.YtlkolhfhcicpdahDoorSpans
namespace Go.Proofs.YtlkolhfhcicpdahDoor.spans
open Go.ChangeShapes Go.WideShapes Go.ChangeAt Go.RowKit
set_option linter.unusedVariables false

theorem flat_at : ∀ (L : List (Int × Int)) (k : Nat), k < L.length → (flat L)[k * 2]? = some (L.getD k (0, 0)).1 ∧ (flat L)[k * 2 + 1]? = some (L.getD k (0, 0)).2
  | [], k, h => by simp at h
  | p :: L, 0, _ => by simp [flat]
  | p :: L, k + 1, h => by
    have ih := flat_at L k (by simpa using h)
    have e1 : flat (p :: L) = p.1 :: p.2 :: flat L := by simp [flat]
    have e : (k + 1) * 2 = k * 2 + 1 + 1 := by omega
    rw [e1, e]
    simpa using ih
theorem cell_new (w : World) (C : Array Value) (t : TypeId) (i : Nat) (v : Value) (h : C[i]? = some v) : (w.alloc (.cells C t)).cell? ⟨w.heap.size, i, none⟩ = some v := by
  simp [h]
theorem ranges_new (n : Int) (L : List (Int × Int)) (w : World) (C : Array Value) (t : TypeId) (len c : Nat) (hC : C = ((flat L).map (Value.int .i64)).toArray) (hz : len = L.length * 2) (hlen : len ≤ 1000000) :
    Calls Tryd.prog 14 #[.int .i64 n, .slice (some ⟨w.heap.size, 0, none⟩) len c] (w.alloc (.cells C t)) fun e w' => e = .returned (.bool (inB L n)) ∧ Below w.heap.size w w' := by
  refine (ranges_any n L w.heap.size c len _ hlen hz (fun k hk => cell_new w C t _ _ ?_) (fun k hk => cell_new w C t _ _ ?_)).mono fun e w' ⟨he, m, hw⟩ => ⟨he, ?_⟩
  · rw [hC]; simp [(flat_at L k hk).1]
  · rw [hC]; simp [(flat_at L k hk).2]
  · rw [hw]; exact below_drewN ((Below.refl _ _).alloc (Nat.le_refl _) _) m
theorem start_ranges (n : Int) (w : World) : Calls Tryd.prog 14 #[.int .i64 n, .slice (some ⟨w.heap.size, 0, none⟩) 30 30] (w.alloc (.cells #[.int .i64 65, .int .i64 90, .int .i64 95, .int .i64 95, .int .i64 97, .int .i64 122, .int .i64 192, .int .i64 214, .int .i64 216, .int .i64 246, .int .i64 248, .int .i64 767, .int .i64 880, .int .i64 893, .int .i64 895, .int .i64 8191, .int .i64 8204, .int .i64 8205, .int .i64 8304, .int .i64 8591, .int .i64 11264, .int .i64 12271, .int .i64 12289, .int .i64 55295, .int .i64 63744, .int .i64 64975, .int .i64 65008, .int .i64 65533, .int .i64 65536, .int .i64 983039] 3)) fun e w' => e = .returned (.bool (inB startL n)) ∧ Below w.heap.size w w' :=
  ranges_new n startL w _ 3 30 30 rfl rfl (by decide)
theorem part_ranges (n : Int) (w : World) : Calls Tryd.prog 14 #[.int .i64 n, .slice (some ⟨w.heap.size, 0, none⟩) 10 10] (w.alloc (.cells #[.int .i64 45, .int .i64 46, .int .i64 48, .int .i64 57, .int .i64 183, .int .i64 183, .int .i64 768, .int .i64 879, .int .i64 8255, .int .i64 8256] 3)) fun e w' => e = .returned (.bool (inB partL n)) ∧ Below w.heap.size w w' :=
  ranges_new n partL w _ 3 10 10 rfl rfl (by decide)
set_option maxHeartbeats 1000000 in
theorem spec_start (n : Int) (w : World) : Calls Tryd.prog 8 #[.int .i64 n] w fun e w' => e = .returned (.bool (inB startL n)) ∧ Below w.heap.size w w' := by
  go_enter Tryd.func8, Tryd.ntmps8
  go_wp2_with (go_at_call 14; refine (start_ranges _ _).mono ?_; rintro e w' ⟨rfl, hb⟩)
  go_ret
  exact ⟨rfl, hb⟩
set_option maxHeartbeats 1000000 in
theorem spec_part (n : Int) (w : World) : Calls Tryd.prog 10 #[.int .i64 n] w fun e w' => e = .returned (.bool (inB partL n || inB startL n)) ∧ Below w.heap.size w w' := by
  cases hc : inB startL n
  · have HC : Hid (inB startL n = false) := hc
    go_enter Tryd.func10, Tryd.ntmps10
    go_wp2_with (first
      | (go_at_call 8; refine (spec_start _ _).mono ?_; rintro e w1 ⟨rfl, hb1⟩)
      | (go_at_call 14; refine (part_ranges _ _).mono ?_; rintro e w2 ⟨rfl, hb2⟩))
    go_ret
    exact ⟨ret_bool (by simp), hb1.trans (hb2.mono hb1.size)⟩
  · have HC : Hid (inB startL n = true) := hc
    go_enter Tryd.func10, Tryd.ntmps10
    go_wp2_with (first
      | (go_at_call 8; refine (spec_start _ _).mono ?_; rintro e w1 ⟨rfl, hb1⟩)
      | (go_at_call 14; refine (part_ranges _ _).mono ?_; rintro e w2 ⟨rfl, hb2⟩))
    go_ret
    exact ⟨ret_bool (by simp), hb1⟩

/-! ### The program's tables, as its text lays them -/
theorem under_span : ∃ f0 f1 : Field, Tryd.prog.underlying 26 = some (.struct #[f0, f1]) ∧ f0.offset = 0 ∧ f1.offset = 1 ∧ f0.type = 3 ∧ f1.type = 3 := by
  refine ⟨_, _, Tryd.underlying26, rfl, rfl, rfl, rfl⟩
theorem cells_span : Tryd.prog.cellsOf 26 = 2 := by kernel_rfl
theorem cells_int : Tryd.prog.cellsOf 3 = 1 := by kernel_rfl
def spanData {H : Type} (L : List (Int × Int)) : DataW H := .slice (L.map fun p => .agg [.lit (.int .i64 p.1), .lit (.int .i64 p.2)]) []
theorem add_plain (b off i : Nat) : (⟨b, off, none⟩ : Addr).add i = ⟨b, off + i, none⟩ := by unfold Addr.add; split <;> simp_all
theorem cell_lt {w : World} {a : Addr} {v : Value} (h : w.cell? a = some v) : a.block < w.heap.size := by
  rcases Nat.lt_or_ge a.block w.heap.size with h1 | h1
  · exact h1
  · simp [World.cell?, Array.getElem?_eq_none h1] at h
/-- A listed table of spans, opened. -/
theorem spans_of {H : Type} {enc : TypeId × Value → H} {W : World} {base : Nat} {spare : Nat → Bool} {held : Bool} {name : String} {g fuel : Nat} {cs : Array Value} {q : List MemPlace} {L : List (Int × Int)}
    (hg : Tryd.prog.globalNamed name = some g) (hv : W.var? Tryd.prog name = some cs) (hL : L ≠ []) (hlen : L.length ≤ maxLen) (h : DataW.trod enc Tryd.prog W base spare held fuel 24 cs.toList = some (spanData L, q)) : ∃ b off cap, SpansAt W g L b off cap := by
  obtain ⟨f0, f1, hu, o0, o1, t0, t1⟩ := under_span
  have c0 : Tryd.prog.cellsOf f0.type = 1 := by rw [t0]; exact cells_int
  have c1 : Tryd.prog.cellsOf f1.type = 1 := by rw [t1]; exact cells_int
  rcases Deep.open_slice_pairs Tryd.underlying24 hu cells_span o0 o1 c0 c1 h with ⟨_, hx⟩ | ⟨a, len, cap, m, k, V0, V1, D0, D1, P0, P1, hcs, _, hlc, hcm, hm, hx, hel⟩
  · simp [spanData] at hx
  · simp only [Prod.mk.injEq, spanData, DataW.slice.injEq] at hx
    obtain ⟨⟨hmap, _⟩, _⟩ := hx
    have hll : len = L.length := by have := congrArg List.length hmap; simpa using this.symm
    have hlm : len ≤ m := by rw [hm]; split <;> omega
    have hD : ∀ i, i < L.length → D0 i = .lit (.int .i64 (L.getD i (0, 0)).1) ∧ D1 i = .lit (.int .i64 (L.getD i (0, 0)).2) := by
      intro i hi
      have e := congrArg (fun l => l[i]?) hmap
      simp [List.getElem?_eq_getElem hi, show i < len by omega] at e
      simp [List.getD, List.getElem?_eq_getElem hi]
      exact ⟨e.1.symm, e.2.symm⟩
    have hcell : ∀ i, i < L.length → W.cell? (a.add (i * 2)) = some (.int .i64 (L.getD i (0, 0)).1) ∧ W.cell? (a.add (i * 2 + 1)) = some (.int .i64 (L.getD i (0, 0)).2) := by
      intro i hi
      obtain ⟨g0, g1, r0, r1⟩ := hel i (by omega)
      rw [t0] at r0
      rw [t1] at r1
      obtain ⟨x0, e0, y0, _⟩ := DataW.trod_int Tryd.underlying3 r0
      obtain ⟨x1, e1, y1, _⟩ := DataW.trod_int Tryd.underlying3 r1
      simp only [List.cons.injEq, and_true, Prod.mk.injEq] at e0 e1 y0 y1
      have d0 := (hD i hi).1
      have d1 := (hD i hi).2
      rw [y0.1] at d0
      rw [y1.1] at d1
      simp at d0 d1
      rw [g0, g1, e0, e1, d0, d1]
      exact ⟨rfl, rfl⟩
    have hpos : 0 < L.length := List.length_pos_iff.mpr hL
    obtain ⟨b, off, spot⟩ := a
    have hspot : spot = none := by have := (hcell 0 hpos).1; simpa [Addr.add] using World.cell?_spot this
    subst hspot
    have hc := World.var?_cell hg hv 0
    have hcs' : cs = #[.slice (some ⟨b, off, none⟩) len cap] := Array.toList_inj.mp hcs
    rw [hcs'] at hc
    have hhead : W.cell? ⟨g, 0, none⟩ = some (.slice (some ⟨b, off, none⟩) L.length cap) := by rw [← hll]; simpa using hc
    refine ⟨b, off, cap, hhead, hlen, ?_, cell_lt hhead, fun i hi => ?_, fun i hi => ?_⟩
    · have := cell_lt (hcell 0 hpos).1; simpa [add_plain] using this
    · have := (hcell i hi).1; rwa [add_plain] at this
    · have := (hcell i hi).2; rwa [add_plain, ← Nat.add_assoc] at this
end Go.Proofs.YtlkolhfhcicpdahDoor.spans
