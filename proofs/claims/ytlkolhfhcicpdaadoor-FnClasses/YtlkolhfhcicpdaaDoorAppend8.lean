/-
  Slices of bytes that a call owns: what append makes of one, whatever its capacity; a slice of bytes as a string.
-/
import Derived.Test.YtlkolhfhcicpdaaDoorRows
import Derived.WalkKit
import Derived.ProofKit
import Derived.OwnWalk
import Derived.Below
import Derived.Laws.BytesArg
import Derived.Laws.IdiomCopy
import Derived.Deep.AppendSrc
import Derived.Deep.Upon
import Derived.Deep.RegionLaw
namespace Go.Proofs.YtlkolhfhcicpdaaDoor.bytes8
open Go.ChangeShapes Go.WideShapes Go.ChangeAt Go.RowKit
set_option linter.unusedVariables false

/-- The block g holds c bytes, of which the first n count; all may be written. -/
structure Row8 (w : World) (g n c : Nat) : Prop where
  here : g < w.heap.size
  fits : n ≤ c
  short : c ≤ maxLen
  cells : ∀ j, j < n → ∃ z : Int, w.cell? ⟨g, j, none⟩ = some (.int .u8 z)
  spare : ∀ j, j < c → (w.cell? ⟨g, j, none⟩).isSome = true ∧ w.frozen? ⟨g, j, none⟩ = false
theorem Row8.stays {w w' : World} {g n c : Nat} (h : Row8 w g n c) (hs : w.heap.size ≤ w'.heap.size) (hb : w'.heap[g]? = w.heap[g]?) : Row8 w' g n c := by
  have e : ∀ o, w'.cell? ⟨g, o, none⟩ = w.cell? ⟨g, o, none⟩ := fun o => World.cell?_of_block (w := w) hb
  have f : ∀ o, w'.frozen? ⟨g, o, none⟩ = w.frozen? ⟨g, o, none⟩ := fun o => World.frozen?_of_block (w := w) hb
  exact ⟨Nat.lt_of_lt_of_le h.here hs, h.fits, h.short, fun j hj => by rw [e]; exact h.cells j hj, fun j hj => by rw [e, f]; exact h.spare j hj⟩

def numAt (w : World) (g j : Nat) : Int := match w.cell? ⟨g, j, none⟩ with | some (.int _ z) => z | _ => 0
theorem numAt_eq {w : World} {g j : Nat} {z : Int} (h : w.cell? ⟨g, j, none⟩ = some (.int .u8 z)) : numAt w g j = z := by unfold numAt; rw [h]
def numsAt (w : World) (g off n : Nat) : List Int := (List.range n).map fun j => numAt w g (off + j)
theorem numsAt_length (w : World) (g off n : Nat) : (numsAt w g off n).length = n := by simp [numsAt]
def strAt (w : World) (g n : Nat) : ByteArray := strOfNums (numsAt w g 0 n)
theorem strAt_size (w : World) (g n : Nat) : (strAt w g n).size = n := by unfold strAt; rw [strOfNums_size, numsAt_length]
/-- string(b), b's cells being bytes. -/
theorem conv_run (w : World) (g n c : Nat) (h : ∀ j, j < n → ∃ z : Int, w.cell? ⟨g, j, none⟩ = some (.int .u8 z)) :
    (convert 22 9 (.slice (some ⟨g, 0, none⟩) n c)).run Tryd.prog w = .ok (.string (strAt w g n)) w :=
  run_convert_bytes_arg w 22 5 Tryd.underlying22 Tryd.underlying5 g 0 n c (numsAt w g 0 n) (numsAt_length _ _ _ _) (fun i hi => by
    obtain ⟨z, hz⟩ := h i hi
    rw [Nat.zero_add, hz]
    simp [numsAt, List.getD, hi, numAt_eq hz]) 9 Tryd.underlying9
theorem upon_of_run {P : Program} {o : Oper} {a : Act} {K : Act → World → Prop} {Q : Exit → Act → World → Prop} {r r' : Result Value} {f : Value → World → Result Next} (h : r = r') (hK : Oper.upon P o a K Q (r'.andThen f)) : Oper.upon P o a K Q (r.andThen f) := by rw [h]; exact hK

/-- What is appended out of a piece of such a block. -/
theorem src_piece (w : World) (g off n c : Nat) (h : ∀ j, j < n → ∃ z : Int, w.cell? ⟨g, off + j, none⟩ = some (.int .u8 z)) :
    Src Tryd.prog 1 22 (.slice (some ⟨g, off, none⟩) n c) n ((numsAt w g off n).map (Value.int .u8)) w := by
  refine Src.ofSlice w Tryd.underlying22 ⟨g, off, none⟩ n c _ (by simp [numsAt]) (fun j u hu => ?_) (fun u hu => ?_)
  · have hj : j < n := by
      have := (List.getElem?_eq_some_iff.1 hu).1
      simpa [numsAt] using this
    obtain ⟨z, hz⟩ := h j hj
    rw [Addr.add_lit, hz]
    simp [numsAt, hj, numAt_eq hz] at hu
    rw [hu]
  · obtain ⟨x, _, rfl⟩ := List.mem_map.1 hu
    rfl
theorem nums_u8 (l : List Int) : ∀ u ∈ l.map (Value.int .u8), ∃ z, u = Value.int .u8 z := by
  intro u hu
  obtain ⟨z, _, rfl⟩ := List.mem_map.1 hu
  exact ⟨z, rfl⟩
theorem bytes_u8 (s : ByteArray) : ∀ u ∈ byteCells s, ∃ z, u = Value.int .u8 z := by
  intro u hu
  obtain ⟨z, _, rfl⟩ := List.mem_map.1 hu
  exact ⟨_, rfl⟩
theorem info5 : (Tryd.prog.info? 5).map (fun i => (i.zero, i.size, i.bytes)) = some (some (.int .u8 0), 1, 1) := by kernel_rfl

theorem size_setCells (b : Nat) : ∀ (vs : List Value) (o : Nat) (w : World), (w.setCells b o vs).heap.size = w.heap.size
  | [], _, _ => rfl
  | v :: r, o, w => by rw [World.setCells, size_setCells b r]; simp [World.setCell]
theorem plain_setCells (b : Nat) : ∀ (vs : List Value) (o : Nat) (w : World), (w.setCells b o vs).os = w.os ∧ (w.setCells b o vs).tape = w.tape ∧ (w.setCells b o vs).output = w.output
  | [], _, _ => ⟨rfl, rfl, rfl⟩
  | v :: r, o, w => by rw [World.setCells]; exact plain_setCells b r (o + 1) _

/-- What an append leaves of the world: but for the row's own block nothing has turned. -/
structure Kept (g : Nat) (w w' : World) : Prop where
  os : w'.os = w.os
  tape : w'.tape = w.tape
  output : w'.output = w.output
  size : w.heap.size ≤ w'.heap.size
  block : ∀ k, k < w.heap.size → k ≠ g → w'.heap[k]? = w.heap[k]?

theorem cell_new (w : World) (C : Array Value) (t : TypeId) (i : Nat) (v : Value) (h : C[i]? = some v) : (w.alloc (.cells C t)).cell? ⟨w.heap.size, i, none⟩ = some v := by simp [h]
theorem frozen_new (w : World) (C : Array Value) (t : TypeId) (i : Nat) : (w.alloc (.cells C t)).frozen? ⟨w.heap.size, i, none⟩ = false := by simp
theorem append_run (w : World) (tx ty : TypeId) (g n c B : Nat) (hB : B ≤ g) (hBw : B ≤ w.heap.size) (hr : Row8 w g n c) (x : Value) (m : Nat) (news : List Value) (hs : Src Tryd.prog 1 tx x m news w) (h8 : ∀ u ∈ news, ∃ z, u = Value.int .u8 z) (hz : n + m ≤ 1000000) :
    ∃ g' c' w', (Builtin.append_ #[22, tx] ty #[.slice (some ⟨g, 0, none⟩) n c, x]).run Tryd.prog w = .ok (.slice (some ⟨g', 0, none⟩) (n + m) c') w' ∧ Row8 w' g' (n + m) c' ∧ B ≤ g' ∧ Kept g w w' := by
  obtain ⟨i0, hi0, hz0, hz1, hz2⟩ := info_parts info5
  have hnl : news.length = m := by have := hs.newsLen; omega
  rw [← hz1] at hs
  by_cases hroom : n + m ≤ c
  · have hrun := run_append_room_src (P := Tryd.prog) w 22 tx ty 5 i0 Tryd.underlying22 hi0 g 0 n c x m news hs hroom
      (fun j hj => by rw [hz1, Nat.mul_one, Nat.zero_add]; exact (hr.spare (n + j) (by omega)).1) (fun j hj => by rw [hz1, Nat.mul_one, Nat.zero_add]; exact (hr.spare (n + j) (by omega)).2)
    rw [hz1, Nat.mul_one, Nat.zero_add] at hrun
    have hin := World.cell?_setCells_in g news n w (fun j hj => (hr.spare (n + j) (by omega)).1)
    obtain ⟨p1, p2, p3⟩ := plain_setCells g news n w
    refine ⟨g, c, _, hrun, ⟨by rw [size_setCells]; exact hr.here, hroom, hr.short, fun j hj => ?_, fun j hj => ?_⟩, hB, ⟨p1, p2, p3, by rw [size_setCells]; exact Nat.le_refl _, fun k hk hne => World.heap_setCells_other w g n news hk hne⟩⟩
    · by_cases hjn : j < n
      · rw [World.cell?_setCells_out g news n w _ (fun _ _ => .inl hjn)]
        exact hr.cells j hjn
      · obtain ⟨i, rfl⟩ : ∃ i, j = n + i := ⟨j - n, by omega⟩
        rw [hin i (by omega)]
        obtain ⟨z, hz⟩ := h8 _ (List.getElem_mem (by omega : i < news.length))
        exact ⟨z, by rw [hz]⟩
    · refine ⟨?_, by rw [World.frozen?_setCells]; exact (hr.spare j hj).2⟩
      by_cases hjn : n ≤ j ∧ j < n + m
      · obtain ⟨i, rfl⟩ : ∃ i, j = n + i := ⟨j - n, by omega⟩
        rw [hin i (by omega)]; rfl
      · rw [World.cell?_setCells_out g news n w _ (fun _ _ => by simp only; omega)]
        exact (hr.spare j hj).1
  · obtain ⟨olds, ho, hol⟩ : ∃ olds : List Value, (Builtin.firstCells i0.size n (.slice (some ⟨g, 0, none⟩) n c)).run Tryd.prog w.drew = .ok olds.toArray w.drew ∧ olds = (numsAt w g 0 n).map (Value.int .u8) := by
      have hsrc := (src_piece w g 0 n c (fun j hj => by rw [Nat.zero_add]; exact hr.cells j hj)).cellsD
      rw [hz1]
      exact ⟨_, hsrc, rfl⟩
    have hmm : n + m ≤ maxLen := by unfold maxLen; omega
    have hrun := run_append_grow_src (P := Tryd.prog) w 22 tx ty 5 i0 (.int .u8 0) Tryd.underlying22 hi0 hz0 (some ⟨g, 0, none⟩) n c olds ho x m news hs (by omega) (by omega) (growslice_fits (by omega) (by rw [hz2]; omega))
    have hge := grownCap_ge w (n + m) c 5
    have hle := grownCap_le_maxLen w (n + m) c 5 hmm
    refine ⟨_, _, _, hrun, ⟨by simp, hge, hle, fun j hj => ?_, fun j hj => ?_⟩, hBw, ⟨rfl, rfl, rfl, by simp, fun k hk _ => Below.heap_alloc w.drew _ k hk⟩⟩
    · have hlo : olds.length = n := by rw [hol]; simp [numsAt]
      have hj2 : j < (olds ++ news).length := by simp; omega
      have hoU : ∀ u ∈ olds, ∃ z, u = Value.int .u8 z := by rw [hol]; exact nums_u8 _
      have hu : ∃ z, (olds ++ news)[j] = Value.int .u8 z := by
        have hmem := List.getElem_mem hj2
        rcases List.mem_append.1 hmem with hm | hm
        · exact hoU _ hm
        · exact h8 _ hm
      obtain ⟨z, hz⟩ := hu
      refine ⟨z, cell_new w.drew _ _ _ _ ?_⟩
      rw [Array.getElem?_append_left (by simpa using hj2), List.getElem?_toArray, List.getElem?_eq_getElem hj2, hz]
    · have hlo : olds.length = n := by rw [hol]; simp [numsAt]
      refine ⟨?_, frozen_new w.drew _ _ _⟩
      have hsz : j < ((olds ++ news).toArray ++ Builtin.zeroCells (Value.cells (.int .u8 0)) (grownCap w (n + m) c 5 - (n + m))).size := by
        rw [Array.size_append, size_zeroCells]
        show j < (olds ++ news).toArray.size + (grownCap w (n + m) c 5 - (n + m)) * 1
        simp
        omega
      have hcn := cell_new w.drew _ 5 j _ (Array.getElem?_eq_getElem hsz)
      exact Option.isSome_iff_exists.2 ⟨_, hcn⟩
/-- append, as a step of a region that draws its order. -/
theorem step_append8 {ops : Array Oper} {o : Oper} {a : Act} {w : World} {K : Act → World → Prop} {Q : Exit → Act → World → Prop} {E : Prop}
    (hg : o.guard = none) (s x : Operand) (tx : TypeId) (hop : o.op = Op.call { callee := Callee.builtin Builtin.append, args := #[s, x], argTypes := #[22, tx] })
    (g n c B : Nat) (vx : Value) (m : Nat) (news : List Value) (hs : a.eval s = .slice (some ⟨g, 0, none⟩) n c) (hx : a.eval x = vx) (hB : B ≤ g) (hBw : B ≤ w.heap.size) (hr : Row8 w g n c) (hsrc : Src Tryd.prog 1 tx vx m news w) (h8 : ∀ u ∈ news, ∃ z, u = Value.int .u8 z) (hz : n + m ≤ 1000000)
    (hK : ∀ g' c' w', Row8 w' g' (n + m) c' → B ≤ g' → Kept g w w' → K (a.put o.dst (.slice (some ⟨g', 0, none⟩) (n + m) c')) w') :
    if Region.wanted o (yielded ops a.tmps) = true then Oper.wp Tryd.prog o a w K Q else E := by
  have hw : Region.wanted o (yielded ops a.tmps) = true := by simp [Region.wanted, hg]
  rw [if_pos hw]
  obtain ⟨g', c', w', hrun, r1, r2, r3⟩ := append_run w tx o.type g n c B hB hBw hr vx m news hsrc h8 hz
  unfold Oper.wp
  simp [execOp, hop, resolve, invoke, builtin, hs, hx, hrun, Result.andThen]
  exact hK g' c' w' r1 r2 r3
end Go.Proofs.YtlkolhfhcicpdaaDoor.bytes8
