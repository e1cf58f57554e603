/-
  Defs that came in: a reading opened.
-/
import Derived.Test.YtdpbiaomhndpcaaDoorDefP
import Derived.Test.YtdpbiaomhndpcaaDoorOpenRows
import Derived.Lib.SmallJoins
import Derived.OpenShut
namespace Go.Proofs.YtdpbiaomhndpcaaDoor.heads
open Go.ChangeShapes Go.WideShapes Go.ChangeAt Go.RowKit
set_option linter.unusedVariables false
instance : Inhabited Df := ⟨noDf⟩
section
variable {H : Type} {enc : TypeId × Value → H} {W : World} {base : Nat} {spare : Nat → Bool} {held : Bool}
set_option maxRecDepth 100000 in
theorem under_df : ∃ f0 f1 f2 f3 f4 : Field, Tryd.prog.underlying 85 = some (.struct #[f0, f1, f2, f3, f4]) ∧ (f0.offset = 0 ∧ f1.offset = 1 ∧ f2.offset = 2 ∧ f3.offset = 3 ∧ f4.offset = 4) ∧ f0.type = 9 ∧ f1.type = 9 ∧ f2.type = 4 ∧ f3.type = 4 ∧ f4.type = 9 := by
  refine ⟨_, _, _, _, _, Tryd.underlying85, ⟨rfl, rfl, rfl, rfl, rfl⟩, rfl, rfl, rfl, rfl, rfl⟩
theorem cells_df : Tryd.prog.cellsOf 85 = 5 := by kernel_rfl
set_option maxRecDepth 100000 in
theorem open_df {fuel : Nat} {cs : List Value} {y : DataW H × List MemPlace} (h : DataW.trod enc Tryd.prog W base spare held fuel 85 cs = some y) : ∃ x : Df, cs = [.string x.el, .string x.at_, .bool x.id, .bool x.has, .string x.val] ∧ x.fits := by
  obtain ⟨f0, f1, f2, f3, f4, hu, ⟨o0, o1, o2, o3, o4⟩, t0, t1, t2, t3, t4⟩ := under_df
  have c9 : Tryd.prog.cellsOf 9 = 1 := by kernel_rfl
  have c4 : Tryd.prog.cellsOf 4 = 1 := by kernel_rfl
  obtain ⟨xs, n, hfu, _, hl, hxl, hf⟩ := DataW.trod_struct hu h
  rw [cells_df] at hl
  match cs, hl, xs, hxl with
  | [v0, v1, v2, v3, v4], _, [y0, y1, y2, y3, y4], _ =>
    have h0 := hf 0 f0 rfl
    have h1 := hf 1 f1 rfl
    have h2 := hf 2 f2 rfl
    have h3 := hf 3 f3 rfl
    have h4 := hf 4 f4 rfl
    rw [t0, o0, c9] at h0
    rw [t1, o1, c9] at h1
    rw [t2, o2, c4] at h2
    rw [t3, o3, c4] at h3
    rw [t4, o4, c9] at h4
    obtain ⟨s0, e0, _, z0⟩ := DataW.trod_string Tryd.underlying9 h0
    obtain ⟨s1, e1, _, z1⟩ := DataW.trod_string Tryd.underlying9 h1
    obtain ⟨s2, e2, _⟩ := DataW.trod_bool Tryd.underlying4 h2
    obtain ⟨s3, e3, _⟩ := DataW.trod_bool Tryd.underlying4 h3
    obtain ⟨s4, e4, _, z4⟩ := DataW.trod_string Tryd.underlying9 h4
    simp at e0 e1 e2 e3 e4
    exact ⟨⟨s0, s1, s2, s3, s4⟩, by rw [e0, e1, e2, e3, e4], z0, z1, z4⟩
theorem range_get {α : Type} (f : Nat → α) (n i : Nat) (d : α) (h : i < n) : ((List.range n).map f).getD i d = f i := by simp [List.getD, h]
theorem open_dfs {fuel : Nat} {cs : List Value} {y : DataW H × List MemPlace} (h : DataW.trod enc Tryd.prog W base spare held fuel 28 cs = some y) : ∃ (a : Option Addr) (cap : Nat) (L : List Df), cs = [.slice a L.length cap] ∧ DfsAt W a L := by
  obtain ⟨a, len, cap, rfl, hm, hrow⟩ := trees.open_rows (by decide) Tryd.underlying28 cells_df h
  by_cases h0 : 0 < len
  · obtain ⟨b, off, ha, hlt, hel⟩ := hrow h0
    have each : ∀ i, i < len → ∃ x : Df, x.fits ∧ W.cell? ⟨b, off + i * 5, none⟩ = some (.string x.el) ∧ W.cell? ⟨b, off + i * 5 + 1, none⟩ = some (.string x.at_) ∧ W.cell? ⟨b, off + i * 5 + 2, none⟩ = some (.bool x.id) ∧ W.cell? ⟨b, off + i * 5 + 3, none⟩ = some (.bool x.has) ∧ W.cell? ⟨b, off + i * 5 + 4, none⟩ = some (.string x.val) := fun i hi => by
      obtain ⟨cs', n, y, _, hc, _, hr⟩ := hel i hi
      obtain ⟨x, rfl, hx⟩ := open_df hr
      exact ⟨x, hx, hc 0 (by omega), hc 1 (by omega), hc 2 (by omega), hc 3 (by omega), hc 4 (by omega)⟩
    obtain ⟨f, hf⟩ := Deep.choose_lt each
    have hg : ∀ i, i < len → df0 ((List.range len).map f) i = f i := fun i hi => range_get f len i _ hi
    refine ⟨a, cap, (List.range len).map f, by simp, ⟨fun _ => ⟨b, off, ha, hlt, fun i hi => ?_⟩, by simpa using hm, fun i hi => ?_⟩⟩
    · rw [List.length_map, List.length_range] at hi
      rw [hg i hi]
      exact (hf i hi).2
    · rw [List.length_map, List.length_range] at hi
      rw [hg i hi]
      exact (hf i hi).1
  · obtain rfl : len = 0 := by omega
    exact ⟨a, cap, [], rfl, ⟨fun h => absurd h (by simp), by simp, fun i hi => by cases hi⟩⟩
end
end Go.Proofs.YtdpbiaomhndpcaaDoor.heads
