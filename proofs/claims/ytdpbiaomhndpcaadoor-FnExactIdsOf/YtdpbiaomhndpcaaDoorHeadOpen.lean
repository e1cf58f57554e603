/-
  Heads that came in: a reading opened.
-/
import Derived.Test.YtdpbiaomhndpcaaDoorHeadFns
import Derived.Test.YtdpbiaomhndpcaaDoorDefOpen
namespace Go.Proofs.YtdpbiaomhndpcaaDoor.heads
open Go.ChangeShapes Go.WideShapes Go.ChangeAt Go.RowKit
set_option linter.unusedVariables false
section
variable {H : Type} {enc : TypeId × Value → H} {W : World} {base : Nat} {spare : Nat → Bool} {held : Bool}
set_option maxRecDepth 100000 in
theorem under_hd : ∃ f0 f1 f2 : Field, Tryd.prog.underlying 30 = some (.struct #[f0, f1, f2]) ∧ (f0.offset = 0 ∧ f1.offset = 1 ∧ f2.offset = 2) ∧ f0.type = 9 ∧ f1.type = 27 ∧ f2.type = 28 := by
  refine ⟨_, _, _, Tryd.underlying30, ⟨rfl, rfl, rfl⟩, rfl, rfl, rfl⟩
theorem cells_hd : Tryd.prog.cellsOf 30 = 3 := by kernel_rfl
set_option maxRecDepth 100000 in
theorem open_hd {fuel : Nat} {cs : List Value} {y : DataW H × List MemPlace} (h : DataW.trod enc Tryd.prog W base spare held fuel 30 cs = some y) : ∃ (x : Hv) (p : Ha), cs = (hcells x p).toList ∧ HeadIn W x p := by
  obtain ⟨f0, f1, f2, hu, ⟨o0, o1, o2⟩, t0, t1, t2⟩ := under_hd
  have c9 : Tryd.prog.cellsOf 9 = 1 := by kernel_rfl
  have ce : Tryd.prog.cellsOf 27 = 1 := by kernel_rfl
  have cd : Tryd.prog.cellsOf 28 = 1 := by kernel_rfl
  obtain ⟨xs, n, hfu, _, hl, hxl, hf⟩ := DataW.trod_struct hu h
  rw [cells_hd] at hl
  match cs, hl, xs, hxl with
  | [v0, v1, v2], _, [y0, y1, y2], _ =>
    have h0 := hf 0 f0 rfl
    have h1 := hf 1 f1 rfl
    have h2 := hf 2 f2 rfl
    rw [t0, o0, c9] at h0
    rw [t1, o1, ce] at h1
    rw [t2, o2, cd] at h2
    obtain ⟨s0, e0, _, z0⟩ := DataW.trod_string Tryd.underlying9 h0
    obtain ⟨ea, ec, L, e1, hL⟩ := pairs.open_Ent h1
    obtain ⟨da, dc, D, e2, hD⟩ := open_dfs h2
    simp at e0 e1 e2
    exact ⟨⟨s0, L, D⟩, ⟨ea, ec, da, dc⟩, by rw [e0, e1, e2]; rfl, z0, hL, hD⟩
set_option maxRecDepth 100000 in
theorem open_val_head {r : Reach} {b0 : Nat} {v : Value} {d : DataW H} {p : List MemPlace} (hv : Value.okWide Tryd.prog W r b0 30 v) (h : DataW.Trod enc Tryd.prog W base spare held 30 v d p) : ∃ (x : Hv) (q : Ha), v = .agg (hcells x q) ∧ HeadIn W x q := by
  obtain ⟨f0, f1, f2, hu, _⟩ := under_hd
  obtain ⟨cs, rfl, hsz⟩ := okWide_struct hu hv
  obtain ⟨fuel, hf⟩ := h
  obtain ⟨x, q, hcs, hn⟩ := open_hd hf
  exact ⟨x, q, by congr 1; exact Array.toList_inj.1 (by simpa [Value.cells] using hcs), hn⟩
end
end Go.Proofs.YtdpbiaomhndpcaaDoor.heads
