/-
  Nodes that came in: a reading opened.
-/
import Derived.Test.YtpejcblmglbjfaaTreeP
import Derived.Test.YtpejcblmglbjfaaPairDecl
import Derived.Test.YtpejcblmglbjfaaOpenRows
import Derived.Lib.SmallJoins
import Derived.Deep.SlicePairs
import Derived.OpenShut
namespace Go.Proofs.Ytpejcblmglbjfaa.trees
open Go.ChangeShapes Go.WideShapes Go.ChangeAt Go.RowKit
open pairs (Pair at0 PairsAt)
set_option linter.unusedVariables false
instance : Inhabited Att := ⟨noAtt⟩
instance : Inhabited Tree := ⟨noTree⟩
instance : Inhabited Hdr := ⟨⟨none, 0, none, 0, none, 0⟩⟩
section
variable {H : Type} {enc : TypeId × Value → H} {W : World} {base : Nat} {spare : Nat → Bool} {held : Bool}
set_option maxRecDepth 100000 in
theorem under_att : ∃ f0 f1 f2 f3 : Field, Try.prog.underlying 117 = some (.struct #[f0, f1, f2, f3]) ∧ (f0.offset = 0 ∧ f1.offset = 1 ∧ f2.offset = 2 ∧ f3.offset = 3) ∧ f0.type = 9 ∧ f1.type = 9 ∧ f2.type = 9 ∧ f3.type = 9 := by
  refine ⟨_, _, _, _, Try.underlying117, ⟨rfl, rfl, rfl, rfl⟩, rfl, rfl, rfl, rfl⟩
theorem cells_att : Try.prog.cellsOf 117 = 4 := by kernel_rfl
set_option maxRecDepth 100000 in
theorem open_att {fuel : Nat} {cs : List Value} {y : DataW H × List MemPlace} (h : DataW.trod enc Try.prog W base spare held fuel 117 cs = some y) : ∃ x : Att, cs = [.string x.pre, .string x.loc, .string x.uri, .string x.val] ∧ x.fits := by
  obtain ⟨f0, f1, f2, f3, hu, ⟨o0, o1, o2, o3⟩, t0, t1, t2, t3⟩ := under_att
  have c9 : Try.prog.cellsOf 9 = 1 := by kernel_rfl
  obtain ⟨y0, y1, y2, y3, n, _, hl, h0, h1, h2, h3⟩ := Joins.trod_struct4 hu h
  rw [cells_att] at hl
  match cs, hl with
  | [v0, v1, v2, v3], _ =>
    rw [t0, o0, c9] at h0
    rw [t1, o1, c9] at h1
    rw [t2, o2, c9] at h2
    rw [t3, o3, c9] at h3
    obtain ⟨s0, e0, _, z0⟩ := DataW.trod_string Try.underlying9 h0
    obtain ⟨s1, e1, _, z1⟩ := DataW.trod_string Try.underlying9 h1
    obtain ⟨s2, e2, _, z2⟩ := DataW.trod_string Try.underlying9 h2
    obtain ⟨s3, e3, _, z3⟩ := DataW.trod_string Try.underlying9 h3
    simp at e0 e1 e2 e3
    exact ⟨⟨s0, s1, s2, s3⟩, by rw [e0, e1, e2, e3], z0, z1, z2, z3⟩
theorem range_get {α : Type} (f : Nat → α) (n i : Nat) (d : α) (h : i < n) : ((List.range n).map f).getD i d = f i := by simp [List.getD, h]
theorem open_atts {fuel : Nat} {cs : List Value} {y : DataW H × List MemPlace} (h : DataW.trod enc Try.prog W base spare held fuel 49 cs = some y) : ∃ (a : Option Addr) (cap : Nat) (L : List Att), cs = [.slice a L.length cap] ∧ AttsAt W a L := by
  obtain ⟨a, len, cap, rfl, hm, hrow⟩ := open_rows (by decide) Try.underlying49 cells_att h
  by_cases h0 : 0 < len
  · obtain ⟨b, off, ha, hlt, hel⟩ := hrow h0
    have each : ∀ i, i < len → ∃ x : Att, x.fits ∧ W.cell? ⟨b, off + i * 4, none⟩ = some (.string x.pre) ∧ W.cell? ⟨b, off + i * 4 + 1, none⟩ = some (.string x.loc) ∧ W.cell? ⟨b, off + i * 4 + 2, none⟩ = some (.string x.uri) ∧ W.cell? ⟨b, off + i * 4 + 3, none⟩ = some (.string x.val) := fun i hi => by
      obtain ⟨cs', n, y, _, hc, _, hr⟩ := hel i hi
      obtain ⟨x, rfl, hx⟩ := open_att hr
      exact ⟨x, hx, hc 0 (by omega), hc 1 (by omega), hc 2 (by omega), hc 3 (by omega)⟩
    obtain ⟨f, hf⟩ := Deep.choose_lt each
    have hg : ∀ i, i < len → att0 ((List.range len).map f) i = f i := fun i hi => range_get f len i _ hi
    refine ⟨a, cap, (List.range len).map f, by simp, ⟨fun _ => ⟨b, off, ha, hlt, fun i hi => ?_⟩, by simpa using hm, fun i hi => ?_⟩⟩
    · rw [List.length_map, List.length_range] at hi
      rw [hg i hi]
      exact (hf i hi).2
    · rw [List.length_map, List.length_range] at hi
      rw [hg i hi]
      exact (hf i hi).1
  · obtain rfl : len = 0 := by omega
    exact ⟨a, cap, [], rfl, ⟨fun h => absurd h (by simp), by simp, fun i hi => by cases hi⟩⟩
theorem slice_cap {t e : TypeId} {fuel : Nat} {cs : List Value} {x : DataW H × List MemPlace} (ht : Try.prog.underlying t = some (.slice e)) (h : DataW.trod enc Try.prog W base spare held fuel t cs = some x) : ∃ (a : Option Addr) (len cap : Nat), cs = [.slice a len cap] ∧ len ≤ cap := by
  rcases DataW.trod_slice ht h with ⟨rfl, _⟩ | ⟨a, len, cap, elems, rest, n, hfu, rfl, _, _, hl, hm, hlen, hel, _, _⟩
  · exact ⟨none, 0, 0, rfl, Nat.le_refl _⟩
  · exact ⟨some a, len, cap, rfl, hl⟩
set_option maxRecDepth 100000 in
theorem under_node : ∃ f0 f1 f2 f3 f4 f5 f6 f7 : Field, Try.prog.underlying 52 = some (.struct #[f0, f1, f2, f3, f4, f5, f6, f7]) ∧ (f0.offset = 0 ∧ f1.offset = 1 ∧ f2.offset = 2 ∧ f3.offset = 3 ∧ f4.offset = 4 ∧ f5.offset = 5 ∧ f6.offset = 6 ∧ f7.offset = 7) ∧ f0.type = 3 ∧ f1.type = 9 ∧ f2.type = 9 ∧ f3.type = 9 ∧ f4.type = 48 ∧ f5.type = 49 ∧ f6.type = 50 ∧ f7.type = 9 := by
  refine ⟨_, _, _, _, _, _, _, _, Try.underlying52, ⟨rfl, rfl, rfl, rfl, rfl, rfl, rfl, rfl⟩, rfl, rfl, rfl, rfl, rfl, rfl, rfl, rfl⟩
theorem cells_node : Try.prog.cellsOf 52 = 8 := by kernel_rfl
set_option maxRecDepth 100000 in
theorem open_node : ∀ (fuel : Nat) {cs : List Value} {y : DataW H × List MemPlace}, DataW.trod enc Try.prog W base spare held fuel 52 cs = some y → ∃ (t : Tree) (h : Hdr), cs = (vals t h).toList ∧ NodeIn W 0 t h := by
  intro fuel
  induction fuel using Nat.strongRecOn with
  | ind fuel ih =>
  intro cs y h
  obtain ⟨f0, f1, f2, f3, f4, f5, f6, f7, hu, ⟨o0, o1, o2, o3, o4, o5, o6, o7⟩, t0, t1, t2, t3, t4, t5, t6, t7⟩ := under_node
  have c3 : Try.prog.cellsOf 3 = 1 := by kernel_rfl
  have c9 : Try.prog.cellsOf 9 = 1 := by kernel_rfl
  have cd : Try.prog.cellsOf 48 = 1 := by kernel_rfl
  have ca : Try.prog.cellsOf 49 = 1 := by kernel_rfl
  have cn : Try.prog.cellsOf 50 = 1 := by kernel_rfl
  obtain ⟨xs, n, hfu, _, hl, hxl, hf⟩ := DataW.trod_struct hu h
  rw [cells_node] at hl
  match cs, hl, xs, hxl with
  | [v0, v1, v2, v3, v4, v5, v6, v7], _, [y0, y1, y2, y3, y4, y5, y6, y7], _ =>
    have h0 := hf 0 f0 rfl
    have h1 := hf 1 f1 rfl
    have h2 := hf 2 f2 rfl
    have h3 := hf 3 f3 rfl
    have h4 := hf 4 f4 rfl
    have h5 := hf 5 f5 rfl
    have h6 := hf 6 f6 rfl
    have h7 := hf 7 f7 rfl
    rw [t0, o0, c3] at h0
    rw [t1, o1, c9] at h1
    rw [t2, o2, c9] at h2
    rw [t3, o3, c9] at h3
    rw [t4, o4, cd] at h4
    rw [t5, o5, ca] at h5
    rw [t6, o6, cn] at h6
    rw [t7, o7, c9] at h7
    obtain ⟨k, e0, _, z0⟩ := DataW.trod_int Try.underlying3 h0
    obtain ⟨s1, e1, _, z1⟩ := DataW.trod_string Try.underlying9 h1
    obtain ⟨s2, e2, _, z2⟩ := DataW.trod_string Try.underlying9 h2
    obtain ⟨s3, e3, _, z3⟩ := DataW.trod_string Try.underlying9 h3
    obtain ⟨s7, e7, _, z7⟩ := DataW.trod_string Try.underlying9 h7
    obtain ⟨da, dc, ds, e4, hd⟩ := pairs.open_Decl h4
    obtain ⟨aa, ac, ats, e5, hat⟩ := open_atts h5
    obtain ⟨ka, len, kc, e6, hm, hrow⟩ := open_rows (by decide) Try.underlying50 cells_node h6
    have hcap : len ≤ kc := by
      obtain ⟨a', l', c', ec, hc⟩ := slice_cap Try.underlying50 h6
      rw [ec] at e6
      simp at e6
      obtain ⟨_, rfl, rfl⟩ := e6
      exact hc
    simp at e0 e1 e2 e3 e4 e5 e6 e7
    have each : ∀ i, i < len → ∃ q : Tree × Hdr, ∀ b off, ka = some ⟨b, off, none⟩ → NodeIn W 0 q.1 q.2 ∧ ∀ j, j < 8 → W.cell? ⟨b, off + i * 8 + j, none⟩ = (vals q.1 q.2)[j]? := fun i hi => by
      obtain ⟨b, off, ha, hlt, hel⟩ := hrow (by omega)
      obtain ⟨cs', m, y', _, hc, hmf, hr⟩ := hel i hi
      obtain ⟨t, h', rfl, hn⟩ := ih m (by omega) hr
      refine ⟨(t, h'), fun b' off' ha' => ⟨hn, fun j hj => ?_⟩⟩
      rw [ha] at ha'
      cases ha'
      rw [hc j hj]
      simp
    obtain ⟨q, hq⟩ := Deep.choose_lt each
    have hg : ∀ i, i < len → kid ((List.range len).map fun i => (q i).1) i = (q i).1 := fun i hi => range_get _ len i _ hi
    have hlen : ((List.range len).map fun i => (q i).1).length = len := by simp
    have hw : -9223372036854775808 ≤ k ∧ k ≤ 9223372036854775807 := bounds_i64 z0
    refine ⟨.mk k s1 s2 s3 s7 ds ats ((List.range len).map fun i => (q i).1), ⟨da, dc, aa, ac, ka, kc⟩, ?_, ?_⟩
    · rw [e0, e1, e2, e3, e4, e5, e6, e7]
      simp [vals, Tree.kind, Tree.pre, Tree.loc, Tree.uri, Tree.text, Tree.ds, Tree.ats, Tree.kids]
    · rw [NodeIn]
      refine ⟨⟨⟨hw, z1, z2, z3, z7, by simpa [Tree.kids] using hm⟩, by rw [hlen]; exact hcap⟩, ⟨fun _ _ => Nat.zero_le _, fun _ _ => Nat.zero_le _, fun _ _ => Nat.zero_le _⟩, hd, hat, fun h0 => ?_⟩
      rw [hlen] at h0
      obtain ⟨b, off, ha, hlt, hel⟩ := hrow h0
      refine ⟨b, off, ha, hlt, kids_of _ _ fun i hi => ?_⟩
      rw [hlen] at hi
      rw [hg i hi]
      obtain ⟨g1, g2⟩ := hq i hi b off ha
      exact ⟨_, g1, g2⟩
set_option maxRecDepth 100000 in
theorem open_val_node {r : Reach} {b0 : Nat} {v : Value} {d : DataW H} {p : List MemPlace} (hv : Value.okWide Try.prog W r b0 52 v) (h : DataW.Trod enc Try.prog W base spare held 52 v d p) : ∃ (t : Tree) (hd : Hdr), v = .agg (vals t hd) ∧ NodeIn W 0 t hd := by
  obtain ⟨f0, f1, f2, f3, f4, f5, f6, f7, hu, _⟩ := under_node
  obtain ⟨cs, rfl, hsz⟩ := okWide_struct hu hv
  obtain ⟨fuel, hf⟩ := h
  obtain ⟨t, hd, hcs, hn⟩ := open_node fuel hf
  exact ⟨t, hd, by congr 1; exact Array.toList_inj.1 (by simpa [Value.cells] using hcs), hn⟩
theorem open_nodes {fuel : Nat} {cs : List Value} {y : DataW H × List MemPlace} (h : DataW.trod enc Try.prog W base spare held fuel 50 cs = some y) : ∃ (a : Option Addr) (cap : Nat) (L : List Tree), cs = [.slice a L.length cap] ∧ NodesAt W 0 a L := by
  obtain ⟨a, len, cap, rfl, hm, hrow⟩ := open_rows (by decide) Try.underlying50 cells_node h
  have each : ∀ i, i < len → ∃ q : Tree × Hdr, ∀ b off, a = some ⟨b, off, none⟩ → NodeIn W 0 q.1 q.2 ∧ ∀ j, j < 8 → W.cell? ⟨b, off + i * 8 + j, none⟩ = (vals q.1 q.2)[j]? := fun i hi => by
    obtain ⟨b, off, ha, hlt, hel⟩ := hrow (by omega)
    obtain ⟨cs', m, y', _, hc, hmf, hr⟩ := hel i hi
    obtain ⟨t, h', rfl, hn⟩ := open_node m hr
    refine ⟨(t, h'), fun b' off' ha' => ⟨hn, fun j hj => ?_⟩⟩
    rw [ha] at ha'
    cases ha'
    rw [hc j hj]
    simp
  obtain ⟨q, hq⟩ := Deep.choose_lt each
  have hg : ∀ i, i < len → kid ((List.range len).map fun i => (q i).1) i = (q i).1 := fun i hi => range_get _ len i _ hi
  have hlen : ((List.range len).map fun i => (q i).1).length = len := by simp
  refine ⟨a, cap, (List.range len).map fun i => (q i).1, by simp, ⟨fun h0 => ?_, by simpa using hm, fun _ _ => Nat.zero_le _⟩⟩
  rw [hlen] at h0
  obtain ⟨b, off, ha, hlt, hel⟩ := hrow h0
  refine ⟨b, off, ha, hlt, fun i hi => ?_⟩
  rw [hlen] at hi
  rw [hg i hi]
  obtain ⟨g1, g2⟩ := hq i hi b off ha
  exact ⟨_, g1, g2 0 (by omega), g2 1 (by omega), g2 2 (by omega), g2 3 (by omega), g2 4 (by omega), g2 5 (by omega), g2 6 (by omega), g2 7 (by omega)⟩
end
end Go.Proofs.Ytpejcblmglbjfaa.trees
