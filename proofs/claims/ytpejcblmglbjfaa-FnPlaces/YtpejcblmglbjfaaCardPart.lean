/-
  For every draw the law FnPlaces returns true: each place of a tree leads to a node, and there are as many places as nodes that are no Attrs. No condition.
  The frame is after the kit's own program (proof-skeleton.mjs); the walk is ours.
  (Texts of ours laid as one: IntMarks, PathFns, DrawRow, LawFnPlaces.)
-/
import Derived.Test.YtpejcblmglbjfaaIntFns
import Derived.Test.YtpejcblmglbjfaaReadPart
import Derived.Test.YtpejcblmglbjfaaDraw2
import Derived.OpenShut
import Derived.Test.YtpejcblmglbjfaaRows
import Derived.Test.YtpejcblmglbjfaaDrawPart
import Derived.Test.YtpejcblmglbjfaaCalmTail
import Derived.WalkKit
import Derived.ProofKit
import Derived.ShutString
import Derived.ChangeOld
import Derived.Below
import Derived.LaidMore
import Derived.OpenVars
namespace Go.Proofs.Ytpejcblmglbjfaa.ints
open Go.ChangeShapes Go.WideShapes Go.ChangeAt Go.RowKit
open trees (Bset Inc Apart Out Rng)
set_option linter.unusedVariables false
/-- What becomes of a block when marks are laid in some of its cells. -/
structure MarkedI (cur cur' : Array Value) (off n k : Nat) : Prop where
  size : cur'.size = cur.size
  done : ∀ j, j < n → cur'[off + j]? = some (.int .i64 ((k + j : Nat) : Int))
  rest : ∀ j, (j < off ∨ off + n ≤ j) → cur'[j]? = cur[j]?
theorem MarkedI.nil (cur : Array Value) (off k : Nat) : MarkedI cur cur off 0 k := ⟨rfl, fun j hj => by omega, fun _ _ => rfl⟩
theorem MarkedI.next {cur cur' : Array Value} {off n k : Nat} (h : MarkedI cur cur' off n k) (hs : off + n < cur.size) : MarkedI cur (cur'.setIfInBounds (off + n) (.int .i64 ((k + n : Nat) : Int))) off (n + 1) k := by
  refine ⟨by rw [Array.size_setIfInBounds]; exact h.size, fun j hj => ?_, fun j hj => ?_⟩
  · by_cases e : j = n
    · subst e
      rw [Array.getElem?_setIfInBounds_self_of_lt (by rw [h.size]; exact hs)]
    · rw [Array.getElem?_setIfInBounds_ne (by omega)]
      exact h.done j (by omega)
  · rw [Array.getElem?_setIfInBounds_ne (by omega)]
    exact h.rest j (by omega)
set_option maxRecDepth 100000 in
theorem mark_emp (a : Option Addr) (cap k : Nat) (w : World) : Calls Try.prog 36 #[.slice a 0 cap, .int .i64 k] w fun e w' => e = .returned (.int .i64 k) ∧ w' = w := by
  go_enter Try.func36, Try.ntmps36
  go_wp2
  go_loop [1, 5] (fun q t => q = .int .i64 (k : Int) ∧ t = .int .i64 0) (fun _ _ => 0)
  case atStart => exact ⟨rfl, rfl⟩
  case round =>
    obtain ⟨rfl, rfl⟩ := hrel
    go_wp2
    go_ret
    exact ⟨rfl, rfl⟩
set_option maxRecDepth 100000 in
set_option maxHeartbeats 2000000 in
theorem mark_row (w : World) (g off n cap k : Nat) (cur : Array Value) (ty : TypeId) (hn : n ≤ 4000000) (hk : k ≤ 8796093022208) (hg : Hid (w.heap[g]? = some (.cells cur ty (0, 0)))) (hs : off + n ≤ cur.size) :
    Calls Try.prog 36 #[.slice (some ⟨g, off, none⟩) n cap, .int .i64 k] w fun e w' => e = .returned (.int .i64 ((k + n : Nat) : Int)) ∧ (∃ cur', w'.heap[g]? = some (.cells cur' ty (0, 0)) ∧ MarkedI cur cur' off n k) ∧ w.grownBy w' (some g) := by
  have HS : Hid (off + n ≤ cur.size) := hs
  clear hs
  have HM0 : Hid (MarkedI cur cur off 0 k) := MarkedI.nil cur off k
  have HG0 : Hid (w.grownBy w (some g)) := pairs.grown_refl w g
  go_enter Try.func36, Try.ntmps36
  go_wp2
  go_loopw [1, 5] (fun q t wr => ∃ (i : Nat) (cu : Array Value), i ≤ n ∧ t = .int .i64 i ∧ q = .int .i64 ((k + i : Nat) : Int) ∧ Hid (wr.heap[g]? = some (.cells cu ty (0, 0))) ∧ Hid (MarkedI cur cu off i k) ∧ Hid (w.grownBy wr (some g))) (fun _ t _ => n - (intOf t).toNat)
  case atStart => exact ⟨0, cur, Nat.zero_le _, rfl, by simp, hg, HM0, HG0⟩
  case round =>
    obtain ⟨i, cu, hi, rfl, rfl, hcu, hm, hgr⟩ := hrel
    by_cases hlt : i < n
    · have hsz : off + i < cu.size := by have := HS.out; have := hm.out.size; omega
      obtain ⟨x0, x1⟩ := pairs.blk_cell hcu.out hsz
      generalize cu[off + i] = c at x0
      have HC : Hid ((wr.setCell ⟨g, off + i, none⟩ (.int .i64 ((k + i : Nat) : Int))).heap[g]? = _) := pairs.block_set _ hcu.out
      have HN : Hid (MarkedI cur (cu.setIfInBounds (off + i) (.int .i64 ((k + i : Nat) : Int))) off (i + 1) k) := hm.out.next (by have := HS.out; omega)
      clear hsz
      go_wp2
      go_roundw
      case rel => exact ⟨i + 1, _, by omega, by go_num, by go_num, HC, HN, pairs.grown_trans hgr.out (pairs.grown_set wr g (off + i) _)⟩
      case measure => simp [intOf]; omega
    · obtain rfl : i = n := by omega
      go_wp2
      go_ret
      exact ⟨rfl, ⟨cu, hcu.out, hm.out⟩, hgr.out⟩
/-- Marks in a row that is owned: how many, and that nothing else has turned. -/
theorem mark_own {w : World} {a : Option Addr} {L : List Int} {cap k q : Nat} {F : Bset} (hn : L.length ≤ 4000000) (hk : k ≤ 100000000) (hq : k + L.length = q) (hL : OwnI w a L F) :
    Calls Try.prog 36 #[.slice a L.length cap, .int .i64 k] w fun e w' => e = .returned (.int .i64 (q : Int)) ∧ Out F w w' := by
  subst hq
  by_cases h0 : 0 < L.length
  · obtain ⟨g, rfl, hg, cur, ty, h1, h2, h3⟩ := hL h0
    exact (mark_row w g 0 L.length cap k cur ty hn (by omega) h1 (by omega)).mono fun e w' ⟨he, _, hgr⟩ => ⟨he, Out.grown hgr hg⟩
  · have e0 : L = [] := List.length_eq_zero_iff.1 (by omega)
    subst e0
    exact (mark_emp a cap k w).mono fun e w' ⟨he, hw⟩ => ⟨he, hw ▸ Out.refl _ _⟩
set_option maxRecDepth 100000 in
theorem held_emp (a : Option Addr) (cap k : Nat) (w : World) : Calls Try.prog 79 #[.slice a 0 cap, .int .i64 k] w fun e w' => e = .returned (.int .i64 k) ∧ w' = w := by
  go_enter Try.func79, Try.ntmps79
  go_wp2
  go_loop [1, 5] (fun q t => q = .int .i64 (k : Int) ∧ t = .int .i64 0) (fun _ _ => 0)
  case atStart => exact ⟨rfl, rfl⟩
  case round =>
    obtain ⟨rfl, rfl⟩ := hrel
    go_wp2
    go_ret
    exact ⟨rfl, rfl⟩
set_option maxRecDepth 100000 in
set_option maxHeartbeats 2000000 in
theorem held_row (w : World) (g off n cap k : Nat) (hn : n ≤ 4000000) (hk : k ≤ 8796093022208) (hlt : g < w.heap.size) (hg : Hid (∀ j, j < n → w.cell? ⟨g, off + j, none⟩ = some (.int .i64 ((k + j : Nat) : Int)))) :
    Calls Try.prog 79 #[.slice (some ⟨g, off, none⟩) n cap, .int .i64 k] w fun e w' => e = .returned (.int .i64 ((k + n : Nat) : Int)) ∧ Below w.heap.size w w' := by
  go_enter Try.func79, Try.ntmps79
  go_wp2
  go_loopw [1, 5] (fun q t wr => ∃ (i : Nat), i ≤ n ∧ t = .int .i64 i ∧ q = .int .i64 ((k + i : Nat) : Int) ∧ Hid (Below w.heap.size w wr)) (fun _ t _ => n - (intOf t).toNat)
  case atStart => exact ⟨0, Nat.zero_le _, rfl, by simp, Below.refl _ _⟩
  case round =>
    obtain ⟨i, hi, rfl, rfl, hbw⟩ := hrel
    by_cases hlt : i < n
    · have hc : wr.cell? ⟨g, off + i, none⟩ = some (.int .i64 ((k + i : Nat) : Int)) := (hbw.out.cell (p := ⟨g, off + i, none⟩) ‹_›).trans (hg.out i hlt)
      have hxx : (((k + i : Nat) : Int) != ((k + i : Nat) : Int)) = false := by simp
      go_wp2
      go_roundw
      case rel => exact ⟨i + 1, by omega, by go_num, by go_num, hbw⟩
      case measure => simp [intOf]; omega
    · obtain rfl : i = n := by omega
      go_wp2
      go_ret
      exact ⟨rfl, hbw.out⟩
end Go.Proofs.Ytpejcblmglbjfaa.ints
namespace Go.Proofs.Ytpejcblmglbjfaa.places
open Go.ChangeShapes Go.WideShapes Go.ChangeAt Go.RowKit
open trees (Tree Hdr vals noTree kid nsz nszs tsize ksize NodeIn NodesAt Bset Inc Apart Out Rng)
open ints (int0 okI IFit IntsAt MadeI)
set_option linter.unusedVariables false
def LFit (L : List (List Int)) : Prop := L.length ≤ 1048577 ∧ (∀ q, q ∈ L → PFit q) ∧ L.flatten.length ≤ 4398046511104
theorem fit_all {t : Tree} (hz : nsz t ≤ 1048576) : LFit (pathsT [] t) := by
  have h1 := paths_len [] t
  have h2 := flat_len [] t
  have h3 := nums_small (d := 0) (t := t) (by omega)
  refine ⟨by omega, fun q hq => paths_fit 0 [] t (by simpa using hz) (Nat.le_refl _) ⟨by simp, fun x hx => by cases hx⟩ q hq, ?_⟩
  rw [h2]
  exact h3
theorem LFit.path {L : List (List Int)} (h : LFit L) {i : Nat} (hi : i < L.length) : PFit (path0 L i) := by
  refine h.2.1 _ ?_
  unfold path0
  rw [List.getD_eq_getElem?_getD, List.getElem?_eq_getElem hi]
  exact List.getElem_mem hi
/-- A row of paths, all blocks in F. -/
structure ShowV (w : World) (g : Nat) (L : List (List Int)) (F : Bset) : Prop where
  inF : F g
  row : ∃ cur ty, w.heap[g]? = some (.cells cur ty (0, 0)) ∧ ∀ i, i < L.length → ∃ a c, cur[i]? = some (.slice a (path0 L i).length c) ∧ (0 < (path0 L i).length → ∃ b off cur2 t2, a = some ⟨b, off, none⟩ ∧ F b ∧ w.heap[b]? = some (.cells cur2 t2 (0, 0)) ∧ ∀ j, j < (path0 L i).length → cur2[off + j]? = some (.int .i64 (int0 (path0 L i) j)))
theorem ShowV.out {w w' : World} {g : Nat} {L : List (List Int)} {F G : Bset} (h : ShowV w g L F) (ho : Out G w w') (hd : Apart F G) : ShowV w' g L F := by
  obtain ⟨cur, ty, h1, h2⟩ := h.row
  refine ⟨h.inF, cur, ty, (ho.block g (pairs.lt_heap h1) (hd g h.inF)).trans h1, fun i hi => ?_⟩
  obtain ⟨a, c, e1, e2⟩ := h2 i hi
  refine ⟨a, c, e1, fun h0 => ?_⟩
  obtain ⟨b, off, cur2, t2, f1, f2, f3, f4⟩ := e2 h0
  exact ⟨b, off, cur2, t2, f1, f2, (ho.block b (pairs.lt_heap f3) (hd b f2)).trans f3, f4⟩
theorem ShowV.below {w w' : World} {g : Nat} {L : List (List Int)} {F : Bset} (h : ShowV w g L F) (hb : Below w.heap.size w w') : ShowV w' g L F := h.out (G := fun _ => False) (Out.of_below hb) (fun _ _ h => h)
/-- What one finds there. -/
theorem ShowV.find {w : World} {g : Nat} {L : List (List Int)} {F : Bset} (h : ShowV w g L F) (hf : LFit L) {i : Nat} (hi : i < L.length) : ∃ a c, w.cell? ⟨g, i, none⟩ = some (.slice a (path0 L i).length c) ∧ IntsAt w a (path0 L i) := by
  obtain ⟨cur, ty, h1, h2⟩ := h.row
  obtain ⟨a, c, e1, e2⟩ := h2 i hi
  have hp := (hf.path hi).at
  refine ⟨a, c, by simp [World.cell?, h1, e1], fun h0 => ?_, hp.1, hp.2⟩
  obtain ⟨b, off, cur2, t2, f1, f2, f3, f4⟩ := e2 h0
  exact ⟨b, off, f1, pairs.lt_heap f3, fun j hj => by simp [World.cell?, f3, f4 j hj]⟩
/-- The program's: the paths lie in one room. -/
structure LaidV (w : World) (g rb : Nat) (L : List (List Int)) (F : Bset) : Prop where
  inF : F g ∧ F rb ∧ g ≠ rb
  row : ∃ cur ty, w.heap[g]? = some (.cells cur ty (0, 0)) ∧ ∀ i, i < L.length → cur[i]? = some (pv rb (L.take i).flatten.length (path0 L i))
  room : ∃ cur ty, w.heap[rb]? = some (.cells cur ty (0, 0)) ∧ ∀ j, j < L.flatten.length → cur[j]? = some (.int .i64 (int0 L.flatten j))
theorem LaidV.out {w w' : World} {g rb : Nat} {L : List (List Int)} {F G : Bset} (h : LaidV w g rb L F) (ho : Out G w w') (hd : Apart F G) : LaidV w' g rb L F := by
  obtain ⟨cur, ty, h1, h2⟩ := h.row
  obtain ⟨cur2, ty2, h3, h4⟩ := h.room
  exact ⟨h.inF, ⟨cur, ty, (ho.block g (pairs.lt_heap h1) (hd g h.inF.1)).trans h1, h2⟩, cur2, ty2, (ho.block rb (pairs.lt_heap h3) (hd rb h.inF.2.1)).trans h3, h4⟩
theorem LaidV.below {w w' : World} {g rb : Nat} {L : List (List Int)} {F : Bset} (h : LaidV w g rb L F) (hb : Below w.heap.size w w') : LaidV w' g rb L F := h.out (G := fun _ => False) (Out.of_below hb) (fun _ _ h => h)
theorem flat_cut (L : List (List Int)) {i : Nat} (hi : i < L.length) : L.flatten = (L.take i).flatten ++ (path0 L i ++ (L.drop (i + 1)).flatten) := by
  have h : L = L.take i ++ (path0 L i :: L.drop (i + 1)) := by
    unfold path0
    rw [List.getD_eq_getElem?_getD, List.getElem?_eq_getElem hi]
    simp
  conv => lhs; rw [h]
  rw [List.flatten_append, List.flatten_cons]
theorem LaidV.shows {w : World} {g rb : Nat} {L : List (List Int)} {F : Bset} (h : LaidV w g rb L F) : ShowV w g L F := by
  obtain ⟨cur, ty, h1, h2⟩ := h.row
  obtain ⟨cur2, ty2, h3, h4⟩ := h.room
  refine ⟨h.inF.1, cur, ty, h1, fun i hi => ?_⟩
  obtain ⟨a, c, ha⟩ := pv_slice rb (L.take i).flatten.length (path0 L i)
  refine ⟨a, c, by rw [h2 i hi, ha], fun h0 => ?_⟩
  unfold pv at ha
  rw [if_neg (by omega)] at ha
  have h5 := flat_cut L hi
  refine ⟨rb, (L.take i).flatten.length, cur2, ty2, ?_, h.inF.2.1, h3, fun j hj => ?_⟩
  · injection ha with e1 _ _
    exact e1.symm
  · rw [h4 _ (by rw [h5, List.length_append, List.length_append]; omega), h5, int_mid hj]
/-- Marked: the room bears 1, 2, .. -/
structure MarkV (w : World) (g rb : Nat) (L : List (List Int)) (F : Bset) : Prop where
  inF : F g ∧ F rb ∧ g ≠ rb
  row : ∃ cur ty, w.heap[g]? = some (.cells cur ty (0, 0)) ∧ ∀ i, i < L.length → cur[i]? = some (pv rb (L.take i).flatten.length (path0 L i))
  room : ∃ cur ty, w.heap[rb]? = some (.cells cur ty (0, 0)) ∧ ∀ j, j < L.flatten.length → cur[j]? = some (.int .i64 ((1 + j : Nat) : Int))
theorem MarkV.out {w w' : World} {g rb : Nat} {L : List (List Int)} {F G : Bset} (h : MarkV w g rb L F) (ho : Out G w w') (hd : Apart F G) : MarkV w' g rb L F := by
  obtain ⟨cur, ty, h1, h2⟩ := h.row
  obtain ⟨cur2, ty2, h3, h4⟩ := h.room
  exact ⟨h.inF, ⟨cur, ty, (ho.block g (pairs.lt_heap h1) (hd g h.inF.1)).trans h1, h2⟩, cur2, ty2, (ho.block rb (pairs.lt_heap h3) (hd rb h.inF.2.1)).trans h3, h4⟩
theorem MarkV.below {w w' : World} {g rb : Nat} {L : List (List Int)} {F : Bset} (h : MarkV w g rb L F) (hb : Below w.heap.size w w') : MarkV w' g rb L F := h.out (G := fun _ => False) (Out.of_below hb) (fun _ _ h => h)
theorem laid_of {w w' : World} {g c rb : Nat} {L : List (List Int)} (h : Laid w w' g c rb L) : LaidV w' g rb L (Rng w w') := by
  obtain ⟨cr, h1, h2, h3⟩ := h.room.ex
  rcases h.row.2 with ⟨e, _⟩ | ⟨g', cap, cur, e, k0, k1, k2, k3, k4, k5⟩
  · cases e
  · cases e
    refine ⟨⟨⟨k0, pairs.lt_heap k1⟩, ⟨h.rl, pairs.lt_heap h1⟩, fun e => ?_⟩, ⟨cur, _, k1, fun i hi => ?_⟩, cr, _, h1, h3⟩
    · subst e
      rw [k1] at h1
      exact absurd (Obj.cells.inj (Option.some.inj h1)).2.1 (by decide)
    · have h6 := slv_at rb L 0 i hi
      rw [← k5, List.getElem?_take, if_pos (by omega)] at h6
      rw [Nat.zero_add] at h6
      simpa using h6
theorem show_of {w w' : World} {g c : Nat} {S : List Value} {L : List (List Int)} (hr : RowQ w' w.heap.size g L.length c S) (hp : PathsIn w' w.heap.size S L) : ShowV w' g L (Rng w w') := by
  obtain ⟨cur, e1, e2, e3⟩ := hr.cells
  refine ⟨⟨hr.lt.1, hr.lt.2⟩, cur, _, e1, fun i hi => ?_⟩
  obtain ⟨v, h1, b, c', cur2, rfl, h2, h3, h4, h5⟩ := hp.all i hi
  refine ⟨_, _, by rw [e3 i hi, h1], fun _ => ⟨b, 0, cur2, _, rfl, ⟨h2, pairs.lt_heap h3⟩, h3, fun j hj => ?_⟩⟩
  rw [Nat.zero_add]
  exact h5 j hj
theorem take_flat (L : List (List Int)) {i : Nat} (hi : i < L.length) : (L.take (i + 1)).flatten.length = (L.take i).flatten.length + (path0 L i).length := by
  rw [List.take_succ_eq_append_getElem hi, List.flatten_append, List.flatten_singleton, List.length_append]
  unfold path0
  rw [List.getD_eq_getElem?_getD, List.getElem?_eq_getElem hi]
  rfl
theorem take_flat_le (L : List (List Int)) (i : Nat) : (L.take i).flatten.length ≤ L.flatten.length := by
  conv => rhs; rw [← List.take_append_drop i L]
  rw [List.flatten_append, List.length_append]
  omega
set_option maxRecDepth 100000 in
set_option maxHeartbeats 4000000 in
theorem eq_rows (w : World) (g g' : Nat) (L : List (List Int)) (c c' : Nat) (F F' : Bset) (hf : Hid (LFit L)) (hL : Hid (ShowV w g L F)) (hL' : Hid (ShowV w g' L F')) :
    Calls Try.prog 43 #[.slice (some ⟨g, 0, none⟩) L.length c, .slice (some ⟨g', 0, none⟩) L.length c'] w fun e w' => e = .returned (.bool true) ∧ Below w.heap.size w w' := by
  have hlen := hf.out.1
  go_enter Try.func43, Try.ntmps43
  go_wp2
  go_loopw [5] (fun t wr => ∃ (k : Nat), k ≤ L.length ∧ t = .int .i64 k ∧ Hid (Below w.heap.size w wr)) (fun t _ => L.length - (intOf t).toNat)
  case atStart => exact ⟨0, Nat.zero_le _, rfl, Below.refl _ _⟩
  case round =>
    obtain ⟨k, hk, rfl, hbw⟩ := hrel
    by_cases hlt : k < L.length
    · obtain ⟨a, cp, hc, hi⟩ := (hL.out.below hbw.out).find hf.out hlt
      obtain ⟨a', cp', hc', hi'⟩ := (hL'.out.below hbw.out).find hf.out hlt
      have hE := fun W (h : Below wr.heap.size wr W) => ints.eq_ints W a a' (path0 L k) cp cp' (hi.below (Nat.le_refl _) h) (hi'.below (Nat.le_refl _) h)
      have hg1 := World.block_lt_of_cell? wr _ hc
      have hg2 := World.block_lt_of_cell? wr _ hc'
      have hl : ∀ W, Below wr.heap.size wr W → W.cell? ⟨g, k, none⟩ = some (.slice a (path0 L k).length cp) := fun W h => (h.cell (p := ⟨g, k, none⟩) hg1).trans hc
      have hl' : ∀ W, Below wr.heap.size wr W → W.cell? ⟨g', k, none⟩ = some (.slice a' (path0 L k).length cp') := fun W h => (h.cell (p := ⟨g', k, none⟩) hg2).trans hc'
      clear hc hc' hi hi' hg1 hg2
      generalize path0 L k = x at hl hl' hE
      go_wp2_with fail
      refine quiets.wp_region_below (by kernel_rfl) (by kernel_rfl) ?_
      repeat (go_big_quiet_step ((first | (intro hq; rfl) | (intro hq; simp [go_sem, hl _ hq]; rfl) | (intro hq; simp [go_sem, hl' _ hq]; rfl) | (intro hq; exact quiets.below_call (hE _ hq) hq))))
      refine wpQuiet_nil ?_
      intro w6 hb6
      have HB6 : Hid _ := hbw.out.trans (hb6.mono hbw.out.size)
      clear hb6 hl hl' hE
      go_wp2
      go_roundw
      case rel => exact ⟨k + 1, by omega, by go_num, HB6.out⟩
      case measure => simp [intOf]; omega
    · go_wp2
      go_ret
      exact ⟨rfl, hbw.out⟩
theorem marked_more {cur cu cu' : Array Value} {o n k : Nat} (h : ints.MarkedI cur cu 0 o k) (h' : ints.MarkedI cu cu' o n (k + o)) : ints.MarkedI cur cu' 0 (o + n) k := by
  refine ⟨h'.size.trans h.size, fun j hj => ?_, fun j hj => ?_⟩
  · rw [Nat.zero_add]
    by_cases e : j < o
    · rw [h'.rest j (.inl e)]
      have := h.done j e
      rwa [Nat.zero_add] at this
    · have := h'.done (j - o) (by omega)
      rw [show o + (j - o) = j by omega, show k + o + (j - o) = k + j by omega] at this
      exact this
  · rw [h'.rest j (by omega)]
    exact h.rest j (by omega)
set_option maxRecDepth 100000 in
set_option maxHeartbeats 4000000 in
theorem mark_rows (w : World) (g rb : Nat) (L : List (List Int)) (c q : Nat) (F : Bset) (hf : Hid (LFit L)) (hq : 1 + L.flatten.length = q) (hL : Hid (LaidV w g rb L F)) :
    Calls Try.prog 44 #[.slice (some ⟨g, 0, none⟩) L.length c, .int .i64 1] w fun e w' => (e = .returned (.int .i64 (q : Int)) ∧ MarkV w' g rb L F) ∧ Out F w w' := by
  have hlen := hf.out.1
  have HT : Hid (L.flatten.length ≤ 4398046511104) := hf.out.2.2
  obtain ⟨cur, ty, hb1, hb2⟩ := hL.out.row
  obtain ⟨cr, ty2, hr1, hr2⟩ := hL.out.room
  have HSZ : Hid (L.flatten.length ≤ cr.size) := by
    show _ ≤ _
    by_cases h0 : L.flatten.length = 0
    · omega
    · have := (Array.getElem?_eq_some_iff.1 (hr2 (L.flatten.length - 1) (by omega))).1
      omega
  have HG : Hid (w.heap[g]? = some (.cells cur ty (0, 0))) := hb1
  have HC : Hid (∀ i, i < L.length → cur[i]? = some (pv rb (L.take i).flatten.length (path0 L i))) := hb2
  have HR : Hid (w.heap[rb]? = some (.cells cr ty2 (0, 0))) := hr1
  have HNE : Hid (g ≠ rb) := hL.out.inF.2.2
  have HM0 : Hid (ints.MarkedI cr cr 0 0 1) := ints.MarkedI.nil cr 0 1
  have HG0 : Hid (w.grownBy w (some rb)) := pairs.grown_refl w rb
  clear hb1 hb2 hr1 hr2
  go_enter Try.func44, Try.ntmps44
  go_wp2
  go_loopw [1, 5] (fun z t wr => ∃ (i o : Nat) (cu : Array Value), i ≤ L.length ∧ o ≤ 4398046511104 ∧ t = .int .i64 i ∧ z = .int .i64 ((1 + o : Nat) : Int) ∧ Hid ((L.take i).flatten.length = o) ∧ Hid (wr.heap[rb]? = some (.cells cu ty2 (0, 0))) ∧ Hid (ints.MarkedI cr cu 0 o 1) ∧ Hid (w.grownBy wr (some rb))) (fun _ t _ => L.length - (intOf t).toNat)
  case atStart => exact ⟨0, 0, cr, Nat.zero_le _, Nat.zero_le _, rfl, rfl, by show _ = _; rfl, HR, HM0, HG0⟩
  case round =>
    obtain ⟨i, o, cu, hi, ho, rfl, rfl, hO, hcu, hm, hgr⟩ := hrel
    by_cases hlt : i < L.length
    · have hg : wr.heap[g]? = some (.cells cur ty (0, 0)) := (hgr.out.block g (pairs.lt_heap HG.out) (fun e => HNE.out (by cases e; rfl))).trans HG.out
      obtain ⟨p, hp⟩ : ∃ p, path0 L i = p := ⟨_, rfl⟩
      obtain ⟨a, cp, hpv⟩ := pv_slice rb o p
      have hcell : wr.cell? ⟨g, i, none⟩ = some (.slice a p.length cp) := by
        have h1 := HC.out i hlt
        rw [hO.out, hp, hpv] at h1
        simp [World.cell?, hg, h1]
      have htf := take_flat L hlt
      have hle := take_flat_le L (i + 1)
      rw [hO.out, hp] at htf
      have hpl : p.length ≤ 1048576 := by rw [← hp]; exact (hf.out.path hlt).1
      have HO : Hid ((L.take (i + 1)).flatten.length = o + p.length) := htf
      have hop : o + p.length ≤ 4398046511104 := by have := HT.out; omega
      have hos : o + p.length ≤ cr.size := by have := HSZ.out; omega
      have HCALL : Hid (Calls Try.prog 36 #[.slice a p.length cp, .int .i64 ((1 + o : Nat) : Int)] wr fun e w' => e = .returned (.int .i64 ((1 + (o + p.length) : Nat) : Int)) ∧ (∃ cu', w'.heap[rb]? = some (.cells cu' ty2 (0, 0)) ∧ ints.MarkedI cr cu' 0 (o + p.length) 1) ∧ wr.grownBy w' (some rb)) := by
        unfold pv at hpv
        by_cases h0 : p.length = 0
        · rw [if_pos h0] at hpv
          injection hpv with e1 e2 e3
          have := ints.mark_emp a cp (1 + o) wr
          rw [h0]
          refine this.mono fun e w' ⟨he, hw⟩ => ?_
          subst hw
          exact ⟨by rw [he]; rfl, ⟨cu, hcu.out, hm.out⟩, pairs.grown_refl _ _⟩
        · rw [if_neg h0] at hpv
          injection hpv with e1 e2 e3
          subst e1
          have := ints.mark_row wr rb o p.length cp (1 + o) cu ty2 (by omega) (by omega) hcu (by have := hm.out.size; omega)
          refine this.mono fun e w' ⟨he, ⟨cu', h1, h2⟩, h3⟩ => ?_
          exact ⟨by rw [he, Nat.add_assoc], ⟨cu', h1, marked_more hm.out h2⟩, h3⟩
      clear hg hpv htf hle hp hos
      go_wp2_with fail
      refine Calls.mono HCALL.out ?_
      rintro e w5 ⟨rfl, ⟨cu', h1, h2⟩, h3⟩
      have HH1 : Hid _ := h1
      have HH2 : Hid _ := h2
      have HH3 : Hid _ := pairs.grown_trans hgr.out h3
      clear h1 h2 h3 HCALL
      go_wp2
      go_roundw
      case rel => exact ⟨i + 1, o + p.length, cu', by omega, hop, by go_num, rfl, HO.out, HH1.out, HH2.out, HH3.out⟩
      case measure => simp [intOf]; omega
    · obtain rfl : i = L.length := by omega
      have HOT : Hid (L.flatten.length = o) := by have := hO.out; rwa [List.take_length] at this
      go_wp2
      go_ret
      refine ⟨⟨by rw [← hq, HOT.out]; rfl, hL.out.inF, ⟨cur, ty, (hgr.out.block g (pairs.lt_heap HG.out) (fun e => HNE.out (by cases e; rfl))).trans HG.out, HC.out⟩, cu, ty2, hcu.out, fun j hj => ?_⟩, Out.grown hgr.out hL.out.inF.2.1⟩
      have := hm.out.done j (by have := HOT.out; omega)
      rwa [Nat.zero_add] at this
set_option maxRecDepth 100000 in
set_option maxHeartbeats 4000000 in
theorem held_rows (w : World) (g rb : Nat) (L : List (List Int)) (c q : Nat) (F : Bset) (hf : Hid (LFit L)) (hq : 1 + L.flatten.length = q) (hL : Hid (MarkV w g rb L F)) :
    Calls Try.prog 45 #[.slice (some ⟨g, 0, none⟩) L.length c, .int .i64 1] w fun e w' => e = .returned (.int .i64 (q : Int)) ∧ Below w.heap.size w w' := by
  have hlen := hf.out.1
  have HT : Hid (L.flatten.length ≤ 4398046511104) := hf.out.2.2
  go_enter Try.func45, Try.ntmps45
  go_wp2
  go_loopw [1, 5] (fun z t wr => ∃ (i o : Nat), i ≤ L.length ∧ o ≤ 4398046511104 ∧ t = .int .i64 i ∧ z = .int .i64 ((1 + o : Nat) : Int) ∧ Hid ((L.take i).flatten.length = o) ∧ Hid (Below w.heap.size w wr)) (fun _ t _ => L.length - (intOf t).toNat)
  case atStart => exact ⟨0, 0, Nat.zero_le _, Nat.zero_le _, rfl, rfl, by show _ = _; rfl, Below.refl _ _⟩
  case round =>
    obtain ⟨i, o, hi, ho, rfl, rfl, hO, hbw⟩ := hrel
    by_cases hlt : i < L.length
    · obtain ⟨cur, ty, hb1, hb2⟩ := (hL.out.below hbw.out).row
      obtain ⟨cr, ty2, hr1, hr2⟩ := (hL.out.below hbw.out).room
      obtain ⟨p, hp⟩ : ∃ p, path0 L i = p := ⟨_, rfl⟩
      obtain ⟨a, cp, hpv⟩ := pv_slice rb o p
      have hcell : wr.cell? ⟨g, i, none⟩ = some (.slice a p.length cp) := by
        have h1 := hb2 i hlt
        rw [hO.out, hp, hpv] at h1
        simp [World.cell?, hb1, h1]
      have htf := take_flat L hlt
      have hle := take_flat_le L (i + 1)
      rw [hO.out, hp] at htf
      have hpl : p.length ≤ 1048576 := by rw [← hp]; exact (hf.out.path hlt).1
      have HO : Hid ((L.take (i + 1)).flatten.length = o + p.length) := htf
      have hop : o + p.length ≤ 4398046511104 := by have := HT.out; omega
      have hneg : ¬ (1 + ((o : Int) + (p.length : Int)) < 0) := by omega
      have HCALL : Hid (Calls Try.prog 79 #[.slice a p.length cp, .int .i64 ((1 + o : Nat) : Int)] wr fun e w' => e = .returned (.int .i64 ((1 + (o + p.length) : Nat) : Int)) ∧ Below wr.heap.size wr w') := by
        unfold pv at hpv
        by_cases h0 : p.length = 0
        · rw [if_pos h0] at hpv
          injection hpv with e1 e2 e3
          have := ints.held_emp a cp (1 + o) wr
          rw [h0]
          refine this.mono fun e w' ⟨he, hw⟩ => ?_
          subst hw
          exact ⟨by rw [he]; rfl, Below.refl _ _⟩
        · rw [if_neg h0] at hpv
          injection hpv with e1 e2 e3
          subst e1
          have := ints.held_row wr rb o p.length cp (1 + o) (by omega) (by omega) (pairs.lt_heap hr1) (show ∀ j, j < p.length → _ from fun j hj => by
            have h2 := hr2 (o + j) (by omega)
            rw [← Nat.add_assoc] at h2
            simp [World.cell?, hr1, h2])
          refine this.mono fun e w' ⟨he, h3⟩ => ?_
          exact ⟨by rw [he, Nat.add_assoc], h3⟩
      clear hpv htf hle hp hb1 hb2 hr1 hr2
      go_wp2_with fail
      refine Calls.mono HCALL.out ?_
      rintro e w5 ⟨rfl, h3⟩
      have HH3 : Hid _ := hbw.out.trans (h3.mono hbw.out.size)
      clear h3 HCALL
      go_wp2
      go_roundw
      case rel => exact ⟨i + 1, o + p.length, by omega, hop, by go_num, rfl, HO.out, HH3.out⟩
      case measure => simp [intOf]; omega
    · obtain rfl : i = L.length := by omega
      have HOT : Hid (L.flatten.length = o) := by have := hO.out; rwa [List.take_length] at this
      go_wp2
      go_ret
      exact ⟨by rw [← hq, HOT.out]; rfl, hbw.out⟩
end Go.Proofs.Ytpejcblmglbjfaa.places
namespace Go.Proofs.Ytpejcblmglbjfaa.draws
open Go.ChangeShapes Go.WideShapes Go.ChangeAt Go.RowKit
set_option linter.unusedVariables false
/-- A slice of bytes that came in, as the law's frame tells it. -/
theorem rowAt_of {w : World} {a : Option Addr} {len cap : Nat} {zs : List Int}
    (h : (a = none ∧ len = 0 ∧ cap = 0 ∧ zs = []) ∨ ∃ x, a = some x ∧ len ≤ cap ∧ cap ≤ maxLen ∧ zs.length = cap ∧ (∀ i, i < zs.length → w.cell? (x.add i) = some (.int .u8 (zs.getD i 0))) ∧ ∀ n ∈ zs, (Lit.int .u8 n).wf = true) : RowAt w a len := by
  rcases h with ⟨rfl, rfl, rfl, rfl⟩ | ⟨x, rfl, hl, hm, hz, hcell, hwz⟩
  · exact ⟨Nat.zero_le _, fun h => by omega⟩
  · refine ⟨Nat.le_trans hl hm, fun h0 => ?_⟩
    obtain ⟨b, off, spot⟩ := x
    have hc := hcell 0 (by omega)
    have hspot : spot = none := by simpa [Addr.add] using World.cell?_spot hc
    subst hspot
    have hpl : ∀ i, (⟨b, off, none⟩ : Addr).add i = ⟨b, off + i, none⟩ := fun i => Addr.add_lit _ _ _
    refine ⟨b, off, rfl, ?_, fun j hj => ⟨zs.getD j 0, by rw [← hpl]; exact hcell j (by omega), ?_⟩⟩
    · rcases Nat.lt_or_ge b w.heap.size with h1 | h1
      · exact h1
      · simp [World.cell?, Addr.add, Array.getElem?_eq_none h1] at hc
    · have hmem : zs.getD j 0 ∈ zs := by
        have hj' : j < zs.length := by omega
        simp [List.getD, List.getElem?_eq_getElem hj']
      exact bounds_u8 (hwz _ hmem)
end Go.Proofs.Ytpejcblmglbjfaa.draws
namespace Go.Proofs.Ytpejcblmglbjfaa.fnPlaces
open Go.ChangeShapes Go.WideShapes Go.ChangeAt Go.RowKit Go.WideMaps Go.WideElems
open Go.ChangeMaps (open_string shut_string)
set_option linter.unusedVariables false

theorem own : ownKnob Try.prog.godebug = none := by kernel_rfl
theorem laidOut : laidOutB Try.prog = true := by kernel_rfl

/-- What the walk is told of a slice of bytes that came in. -/
def IsRow (k : IntKind) (w : World) (a : Option Addr) (len cap : Nat) (zs : List Int) : Prop :=
  (a = none ∧ len = 0 ∧ cap = 0 ∧ zs = []) ∨
  ∃ x, a = some x ∧ len ≤ cap ∧ cap ≤ maxLen ∧ zs.length = cap ∧ (∀ i, i < zs.length → w.cell? (x.add i) = some (.int k (zs.getD i 0))) ∧ ∀ n ∈ zs, (Lit.int k n).wf = true

theorem bx_below {w w' : World} {b : Nat} {o : Obj} (h : w.heap[b]? = some o) (hb : Below w.heap.size w w') : w'.heap[b]? = some o := (hb.block b (pairs.lt_heap h)).trans h
theorem big_no (w : World) (a : Option Addr) (len cap : Nat) (h : len ≤ 1048576) : Calls Try.prog 9 #[.slice a len cap] w fun e w' => e = .returned (.bool false) ∧ w' = w := by
  have h' : ¬ (1048576 : Int) < len := by omega
  go_enter Try.func9, Try.ntmps9
  go_wp2
  go_ret
  exact ⟨by simp, rfl⟩
theorem big_yes (w : World) (a : Option Addr) (len cap : Nat) (h : ¬ len ≤ 1048576) : Calls Try.prog 9 #[.slice a len cap] w fun e w' => e = .returned (.bool true) ∧ w' = w := by
  have h' : (1048576 : Int) < len := by omega
  go_enter Try.func9, Try.ntmps9
  go_wp2
  go_ret
  exact ⟨by simp, rfl⟩
/-- A drawn tree and a path. -/
structure NP (w : World) (t : trees.Tree) (h : trees.Hdr) (g c : Nat) (L : List Int) : Prop where
  tree : places.TreeAt w t h
  path : ints.IntsAt w (some ⟨g, 0, none⟩) L
theorem NP.below {w w' : World} {t : trees.Tree} {h : trees.Hdr} {g c : Nat} {L : List Int} (n : NP w t h g c L) (hb : Below w.heap.size w w') : NP w' t h g c L := ⟨n.tree.below hb, n.path.below (Nat.le_refl _) hb⟩
/-- Two drawn paths. -/
structure PP (w : World) (g c : Nat) (A : List Int) (g2 c2 : Nat) (B : List Int) : Prop where
  p1 : ints.IntsAt w (some ⟨g, 0, none⟩) A
  p2 : ints.IntsAt w (some ⟨g2, 0, none⟩) B
  cap : A.length ≤ c
theorem PP.below {w w' : World} {g c g2 c2 : Nat} {A B : List Int} (n : PP w g c A g2 c2 B) (hb : Below w.heap.size w w') : PP w' g c A g2 c2 B := ⟨n.p1.below (Nat.le_refl _) hb, n.p2.below (Nat.le_refl _) hb, n.cap⟩
theorem c_tree {w : World} {len cap : Nat} {a : Option Addr} (hz : len ≤ 1048576) (hr : Hid (draws.RowAt w a len)) : Calls Try.prog 10 #[.slice a len cap] w fun e w' => (∃ t h, e = .returned (.agg #[.int .i64 t.kind, .string t.pre, .string t.loc, .string t.uri, .slice h.da t.ds.length h.dc, .slice h.aa t.ats.length h.ac, .slice h.ka t.kids.length h.kc, .string t.text]) ∧ places.TreeAt w' t h) ∧ Below w.heap.size w w' :=
  (places.drawTree w len cap a hz hr).mono fun e w' ⟨t, h, he, ht, hb⟩ => ⟨⟨t, h, he, ht⟩, hb⟩
theorem c_node {w : World} {len cap : Nat} {a : Option Addr} (hz : len ≤ 1048576) (hr : Hid (draws.RowAt w a len)) : Calls Try.prog 12 #[.slice a len cap] w fun e w' => (∃ t h g c L, e = .returned (.tuple #[.agg #[.int .i64 t.kind, .string t.pre, .string t.loc, .string t.uri, .slice h.da t.ds.length h.dc, .slice h.aa t.ats.length h.ac, .slice h.ka t.kids.length h.kc, .string t.text], .slice (some ⟨g, 0, none⟩) L.length c]) ∧ NP w' t h g c L) ∧ Below w.heap.size w w' := by
  refine (places.drawNodeAt w len cap a hz hr).mono fun e w' ⟨t, h, g, n, c, L, he, ht, hp, hb⟩ => ?_
  obtain ⟨h1, h2, h3⟩ := hp.ints
  subst h2
  exact ⟨⟨t, h, g, c, L, he, ht, h1⟩, hb⟩
theorem c_same2 {w : World} {len cap : Nat} {a : Option Addr} (hz : len ≤ 1048576) (hr : Hid (draws.RowAt w a len)) : Calls Try.prog 15 #[.slice a len cap] w fun e w' => (∃ g c A g2 c2 B, e = .returned (.tuple #[.slice (some ⟨g, 0, none⟩) A.length c, .slice (some ⟨g2, 0, none⟩) B.length c2]) ∧ PP w' g c A g2 c2 B) ∧ Below w.heap.size w w' := by
  refine (places.drawSamePath w len cap a hz hr).mono fun e w' ⟨g, n, c, A, g2, n2, c2, B, he, h1, h2, hb⟩ => ?_
  obtain ⟨p1, l1, k1⟩ := h1.ints
  obtain ⟨p2, l2, k2⟩ := h2.ints
  subst l1 l2
  exact ⟨⟨g, c, A, g2, c2, B, he, p1, p2, k1⟩, hb⟩
theorem c_under2 {w : World} {len cap : Nat} {a : Option Addr} (hz : len ≤ 1048576) (hr : Hid (draws.RowAt w a len)) : Calls Try.prog 16 #[.slice a len cap] w fun e w' => (∃ g c A g2 c2 B, e = .returned (.tuple #[.slice (some ⟨g, 0, none⟩) A.length c, .slice (some ⟨g2, 0, none⟩) B.length c2]) ∧ PP w' g c A g2 c2 B) ∧ Below w.heap.size w w' := by
  refine (places.drawUnder w len cap a hz hr).mono fun e w' ⟨g, n, c, A, g2, n2, c2, B, he, h1, h2, hb⟩ => ?_
  obtain ⟨p1, l1, k1⟩ := h1.ints
  obtain ⟨p2, l2, k2⟩ := h2.ints
  subst l1 l2
  exact ⟨⟨g, c, A, g2, c2, B, he, p1, p2, k1⟩, hb⟩
theorem c_places {w : World} {t : trees.Tree} {h : trees.Hdr} {I : List (List Int)} (hI : places.pathsT [] t = I) (ht : places.TreeAt w t h) : Calls Try.prog 11 #[.agg #[.int .i64 t.kind, .string t.pre, .string t.loc, .string t.uri, .slice h.da t.ds.length h.dc, .slice h.aa t.ats.length h.ac, .slice h.ka t.kids.length h.kc, .string t.text]] w fun e w' => (∃ (g : Nat) (c : Nat) (rb : Nat), e = .returned (.slice (some ⟨g, 0, none⟩) I.length c) ∧ places.LaidV w' g rb I (trees.Rng w w')) ∧ Below w.heap.size w w' := by
  have := places.impl_all 0 t h w (Nat.le_trans ht.sz (by decide)) ht.node
  rw [hI] at this
  exact this.mono fun e w' ⟨⟨g, c, rb, he, hr⟩, hb⟩ => ⟨⟨g, c, rb, he, places.laid_of hr⟩, hb⟩
theorem c_iat {w : World} {t r : trees.Tree} {h : trees.Hdr} {a : Option Addr} {c : Nat} {L : List Int} {ok : Bool} (hR : paths.atR t L = (r, ok)) (ht : places.TreeAt w t h) (hp : ints.IntsAt w a L) : Calls Try.prog 13 #[.agg #[.int .i64 t.kind, .string t.pre, .string t.loc, .string t.uri, .slice h.da t.ds.length h.dc, .slice h.aa t.ats.length h.ac, .slice h.ka t.kids.length h.kc, .string t.text], .slice a L.length c] w fun e w' => (∃ h' : trees.Hdr, e = .returned (.tuple #[.agg #[.int .i64 r.kind, .string r.pre, .string r.loc, .string r.uri, .slice h'.da r.ds.length h'.dc, .slice h'.aa r.ats.length h'.ac, .slice h'.ka r.kids.length h'.kc, .string r.text], .bool ok]) ∧ trees.NodeAt w' 0 r h') ∧ Below w.heap.size w w' := by
  have := paths.impl_nodeAt 0 t h L a c w (Nat.le_trans ht.sz (by decide)) ht.node hp
  unfold paths.AtOk paths.AtAns at this
  rw [hR] at this
  exact this.mono fun e w' ⟨⟨h', he, ho⟩, hb⟩ => ⟨⟨h', he, ⟨ho.in⟩⟩, hb⟩
theorem c_sat {w : World} {t r : trees.Tree} {h : trees.Hdr} {a : Option Addr} {c : Nat} {L : List Int} {ok : Bool} (hR : paths.atR t L = (r, ok)) (ht : places.TreeAt w t h) (hp : ints.IntsAt w a L) : Calls Try.prog 14 #[.agg #[.int .i64 t.kind, .string t.pre, .string t.loc, .string t.uri, .slice h.da t.ds.length h.dc, .slice h.aa t.ats.length h.ac, .slice h.ka t.kids.length h.kc, .string t.text], .slice a L.length c] w fun e w' => (∃ h' : trees.Hdr, e = .returned (.tuple #[.agg #[.int .i64 r.kind, .string r.pre, .string r.loc, .string r.uri, .slice h'.da r.ds.length h'.dc, .slice h'.aa r.ats.length h'.ac, .slice h'.ka r.kids.length h'.kc, .string r.text], .bool ok]) ∧ trees.NodeAt w' 0 r h') ∧ Below w.heap.size w w' := by
  have := paths.spec_nodeAt 0 t h L a c w (Nat.le_trans ht.sz (by decide)) ht.node hp
  unfold paths.AtOk paths.AtAns at this
  rw [hR] at this
  exact this.mono fun e w' ⟨⟨h', he, ho⟩, hb⟩ => ⟨⟨h', he, ⟨ho.in⟩⟩, hb⟩
theorem c_same {w : World} {r : trees.Tree} {h h2 : trees.Hdr} (hn : trees.NodeAt w 0 r h) (hn2 : trees.NodeAt w 0 r h2) : Calls Try.prog 17 #[.agg #[.int .i64 r.kind, .string r.pre, .string r.loc, .string r.uri, .slice h.da r.ds.length h.dc, .slice h.aa r.ats.length h.ac, .slice h.ka r.kids.length h.kc, .string r.text], .agg #[.int .i64 r.kind, .string r.pre, .string r.loc, .string r.uri, .slice h2.da r.ds.length h2.dc, .slice h2.aa r.ats.length h2.ac, .slice h2.ka r.kids.length h2.kc, .string r.text]] w fun e w' => e = .returned (.bool true) ∧ Below w.heap.size w w' := by
  have := trees.impl_same_node 0 0 _ r r h h2 w (Nat.lt_succ_self _) hn.node hn2.node
  unfold trees.ImplSameOk at this
  rw [trees.same_yes rfl] at this
  exact this
theorem c_nodes {w : World} {t : trees.Tree} {h : trees.Hdr} {I : List (List Int)} (hI : places.pathsT [] t = I) (ht : places.TreeAt w t h) : Calls Try.prog 22 #[.agg #[.int .i64 t.kind, .string t.pre, .string t.loc, .string t.uri, .slice h.da t.ds.length h.dc, .slice h.aa t.ats.length h.ac, .slice h.ka t.kids.length h.kc, .string t.text]] w fun e w' => e = .returned (.int .i64 (I.length : Int)) ∧ Below w.heap.size w w' := by
  have := places.spec_nodes 0 _ t h w (Nat.lt_succ_self _) (Nat.le_trans ht.sz (by decide)) ht.node
  unfold places.NodesOk at this
  rw [← places.nodes_len, hI] at this
  exact this
theorem c_count {w : World} {t : trees.Tree} {h : trees.Hdr} {q : Nat} (hq : trees.cnt t = q) (ht : places.TreeAt w t h) : Calls Try.prog 23 #[.agg #[.int .i64 t.kind, .string t.pre, .string t.loc, .string t.uri, .slice h.da t.ds.length h.dc, .slice h.aa t.ats.length h.ac, .slice h.ka t.kids.length h.kc, .string t.text]] w fun e w' => e = .returned (.int .i64 (q : Int)) ∧ Below w.heap.size w w' := by
  have := trees.impl_cnt_node 0 _ t h w (Nat.lt_succ_self _) (Nat.le_trans ht.sz (by decide)) ht.node
  unfold trees.ImplCntOk at this
  rw [hq] at this
  exact this
theorem c_ispath {w : World} {a a' : Option Addr} {c c' : Nat} {A B : List Int} {u : Bool} (hu : paths.sameB A B = u) (h1 : ints.IntsAt w a A) (h2 : ints.IntsAt w a' B) : Calls Try.prog 18 #[.slice a A.length c, .slice a' B.length c'] w fun e w' => e = .returned (.bool u) ∧ Below w.heap.size w w' := by rw [← hu]; exact paths.impl_same w a a' A B c c' h1 h2
theorem c_sspath {w : World} {a a' : Option Addr} {c c' : Nat} {A B : List Int} {u : Bool} (hu : paths.sameB A B = u) (h1 : ints.IntsAt w a A) (h2 : ints.IntsAt w a' B) : Calls Try.prog 19 #[.slice a A.length c, .slice a' B.length c'] w fun e w' => e = .returned (.bool u) ∧ Below w.heap.size w w' := by rw [← hu]; exact paths.spec_same w a a' A B c c' h1 h2
theorem c_iunder {w : World} {a a' : Option Addr} {c c' : Nat} {A B : List Int} {u : Bool} (hu : paths.underB A B = u) (hc : A.length ≤ c) (h1 : ints.IntsAt w a A) (h2 : ints.IntsAt w a' B) : Calls Try.prog 20 #[.slice a A.length c, .slice a' B.length c'] w fun e w' => e = .returned (.bool u) ∧ Below w.heap.size w w' := by rw [← hu]; exact paths.impl_under w a a' A B c c' hc h1 h2
theorem c_sunder {w : World} {a a' : Option Addr} {c c' : Nat} {A B : List Int} {u : Bool} (hu : paths.underB A B = u) (h1 : ints.IntsAt w a A) (h2 : ints.IntsAt w a' B) : Calls Try.prog 21 #[.slice a A.length c, .slice a' B.length c'] w fun e w' => e = .returned (.bool u) ∧ Below w.heap.size w w' := by rw [← hu]; exact paths.spec_under w a a' A B c c' h1 h2
theorem laid_find {w : World} {g rb : Nat} {I : List (List Int)} {F : trees.Bset} (h : places.LaidV w g rb I F) (hf : places.LFit I) {i : Nat} (hi : i < I.length) : ∃ a c, w.cell? ⟨g, i, none⟩ = some (.slice a (places.path0 I i).length c) ∧ ints.IntsAt w a (places.path0 I i) ∧ (places.path0 I i).length ≤ c := by
  obtain ⟨a, c, h1, h2⟩ := h.shows.find hf hi
  refine ⟨a, c, h1, h2, ?_⟩
  obtain ⟨cur, ty, k1, k2⟩ := h.row
  have k3 := k2 i hi
  have k4 : w.cell? ⟨g, i, none⟩ = some (places.pv rb (I.take i).flatten.length (places.path0 I i)) := by simp [World.cell?, k1, k3]
  rw [h1] at k4
  have k5 := Option.some.inj k4
  unfold places.pv at k5
  split at k5
  · injection k5 with _ e2 e3
    omega
  · injection k5 with _ e2 e3
    omega

/-! ### The walk: the law returns true, and nothing that was there has turned -/
set_option maxRecDepth 100000 in
set_option maxHeartbeats 16000000 in
theorem walk (a0 : Option Addr) (len0 cap0 : Nat) (z0 : List Int) (w : World) (w0 : IsRow .u8 w a0 len0 cap0 z0) :
    Calls Try.prog 3 #[.slice a0 len0 cap0] w fun e w' => e = .returned (.bool true) ∧ Below w.heap.size w w' := by
  have hr : Hid (draws.RowAt w a0 len0) := draws.rowAt_of w0
  clear w0
  by_cases hz : len0 ≤ 1048576
  case neg =>
    go_enter Try.func3, Try.ntmps3
    go_wp2_with fail
    refine (big_yes _ _ _ _ hz).mono ?_
    rintro e w' ⟨rfl, hw'⟩
    have hw2 := hw'.symm
    clear hw'
    subst hw2
    go_wp2
    go_ret
    exact ⟨rfl, Below.refl _ _⟩
  have HRW : Hid (∀ W, Below w.heap.size w W → Hid (draws.RowAt W a0 len0)) := fun W hb => hr.out.stays hb.size (fun _ b off _ h => hb.block b h)
  clear hr
  go_enter Try.func3, Try.ntmps3
  go_wp2_with fail
  refine (big_no _ _ _ _ hz).mono ?_
  rintro e z0 ⟨rfl, hw'⟩
  have HB0 : Hid (Below w.heap.size w z0) := by rw [hw']; exact Below.refl _ _
  clear hw'
  go_wp2_with fail
  refine Calls.mono (c_tree hz (HRW.out _ HB0.out)) ?_
  rintro e z1 ⟨⟨t, h, rfl, ho⟩, hb⟩
  have HB1 : Hid (Below w.heap.size w z1) := HB0.out.trans (hb.mono HB0.out.size)
  have HL_1 : Hid (z0.heap.size ≤ z1.heap.size) := hb.size
  have HT_1 : Hid _ := ho
  clear hb  ho
  obtain ⟨I, hI⟩ : ∃ I, places.pathsT [] t = I := ⟨_, rfl⟩
  have HI : Hid _ := hI
  clear hI
  have HF : Hid (places.LFit I) := by have := places.fit_all (Nat.le_trans HT_1.out.sz (by decide)); rwa [HI.out] at this
  have hil : I.length ≤ 1048577 := HF.out.1
  obtain ⟨n0, n1, n2, n3, n4, n5, n6, n7⟩ := trees.box8 (heap_alloc_new z1 (.cells #[.int .i64 t.kind, .string t.pre, .string t.loc, .string t.uri, .slice h.da t.ds.length h.dc, .slice h.aa t.ats.length h.ac, .slice h.ka t.kids.length h.kc, .string t.text] 28))
  go_wp2_with fail
  clear n0 n1 n2 n3 n4 n5 n6 n7
  obtain ⟨z2, hz⟩ : ∃ z, z1.alloc (.cells #[.int .i64 t.kind, .string t.pre, .string t.loc, .string t.uri, .slice h.da t.ds.length h.dc, .slice h.aa t.ats.length h.ac, .slice h.ka t.kids.length h.kc, .string t.text] 28) = z := ⟨_, rfl⟩
  have hb : Below z1.heap.size z1 z2 := hz ▸ (Below.refl _ _).alloc (Nat.le_refl _) _
  have HBT_2 : Hid (z2.heap[z1.heap.size]? = _) := hz ▸ heap_alloc_new z1 (.cells #[.int .i64 t.kind, .string t.pre, .string t.loc, .string t.uri, .slice h.da t.ds.length h.dc, .slice h.aa t.ats.length h.ac, .slice h.ka t.kids.length h.kc, .string t.text] 28)
  have HB2 : Hid (Below w.heap.size w z2) := HB1.out.trans (hb.mono HB1.out.size)
  have HL_2 : Hid (z1.heap.size + 1 ≤ z2.heap.size) := by show _ ≤ _; rw [← hz]; simp
  have HT_2 : Hid _ := places.TreeAt.below HT_1.out hb
  first | rw [hz] | skip
  clear hb hz HT_1
  refine Calls.mono (c_places HI.out HT_2.out) ?_
  rintro e z3 ⟨⟨gI, cI, rI, rfl, ho⟩, hb⟩
  have HB3 : Hid (Below w.heap.size w z3) := HB2.out.trans (hb.mono HB2.out.size)
  have HL_3 : Hid (z2.heap.size ≤ z3.heap.size) := hb.size
  have HT_3 : Hid _ := places.TreeAt.below HT_2.out hb
  have HBT_3 : Hid _ := bx_below HBT_2.out hb
  have HL_3 : Hid _ := ho
  clear hb HT_2 HBT_2 ho
  go_wp2_with fail
  refine Calls.mono (c_node hz (HRW.out _ HB3.out)) ?_
  rintro e z4 ⟨⟨t1, h1, gP, cP, P, rfl, ho⟩, hb⟩
  have HB4 : Hid (Below w.heap.size w z4) := HB3.out.trans (hb.mono HB3.out.size)
  have HL_4 : Hid (z3.heap.size ≤ z4.heap.size) := hb.size
  have HT_4 : Hid _ := places.TreeAt.below HT_3.out hb
  have HBT_4 : Hid _ := bx_below HBT_3.out hb
  have HL_4 : Hid _ := places.LaidV.below HL_3.out hb
  have HN_4 : Hid _ := ho
  clear hb HT_3 HBT_3 HL_3 ho
  obtain ⟨r, ok, hR⟩ : ∃ r ok, paths.atR t1 P = (r, ok) := ⟨_, _, rfl⟩
  have HR : Hid _ := hR
  have hoo : (ok != ok) = false := by cases ok <;> rfl
  clear hR
  obtain ⟨n0, n1, n2, n3, n4, n5, n6, n7⟩ := trees.box8 (heap_alloc_new z4 (.cells #[.int .i64 t1.kind, .string t1.pre, .string t1.loc, .string t1.uri, .slice h1.da t1.ds.length h1.dc, .slice h1.aa t1.ats.length h1.ac, .slice h1.ka t1.kids.length h1.kc, .string t1.text] 28))
  go_wp2_with fail
  clear n0 n1 n2 n3 n4 n5 n6 n7
  obtain ⟨z5, hz⟩ : ∃ z, z4.alloc (.cells #[.int .i64 t1.kind, .string t1.pre, .string t1.loc, .string t1.uri, .slice h1.da t1.ds.length h1.dc, .slice h1.aa t1.ats.length h1.ac, .slice h1.ka t1.kids.length h1.kc, .string t1.text] 28) = z := ⟨_, rfl⟩
  have hb : Below z4.heap.size z4 z5 := hz ▸ (Below.refl _ _).alloc (Nat.le_refl _) _
  have HBN_5 : Hid (z5.heap[z4.heap.size]? = _) := hz ▸ heap_alloc_new z4 (.cells #[.int .i64 t1.kind, .string t1.pre, .string t1.loc, .string t1.uri, .slice h1.da t1.ds.length h1.dc, .slice h1.aa t1.ats.length h1.ac, .slice h1.ka t1.kids.length h1.kc, .string t1.text] 28)
  have HB5 : Hid (Below w.heap.size w z5) := HB4.out.trans (hb.mono HB4.out.size)
  have HL_5 : Hid (z4.heap.size + 1 ≤ z5.heap.size) := by show _ ≤ _; rw [← hz]; simp
  have HT_5 : Hid _ := places.TreeAt.below HT_4.out hb
  have HBT_5 : Hid _ := bx_below HBT_4.out hb
  have HL_5 : Hid _ := places.LaidV.below HL_4.out hb
  have HN_5 : Hid _ := NP.below HN_4.out hb
  first | rw [hz] | skip
  clear hb hz HT_4 HBT_4 HL_4 HN_4
  refine Calls.mono (c_iat HR.out HN_5.out.tree HN_5.out.path) ?_
  rintro e z6 ⟨⟨hX, rfl, ho⟩, hb⟩
  have HB6 : Hid (Below w.heap.size w z6) := HB5.out.trans (hb.mono HB5.out.size)
  have HL_6 : Hid (z5.heap.size ≤ z6.heap.size) := hb.size
  have HT_6 : Hid _ := places.TreeAt.below HT_5.out hb
  have HBT_6 : Hid _ := bx_below HBT_5.out hb
  have HL_6 : Hid _ := places.LaidV.below HL_5.out hb
  have HN_6 : Hid _ := NP.below HN_5.out hb
  have HBN_6 : Hid _ := bx_below HBN_5.out hb
  have HX_6 : Hid _ := ho
  clear hb HT_5 HBT_5 HL_5 HN_5 HBN_5 ho
  obtain ⟨n0, n1, n2, n3, n4, n5, n6, n7⟩ := trees.box8 (bx_below HBN_6.out ((Below.refl z6.heap.size z6).alloc (Nat.le_refl _) (.cells #[.int .i64 r.kind, .string r.pre, .string r.loc, .string r.uri, .slice hX.da r.ds.length hX.dc, .slice hX.aa r.ats.length hX.ac, .slice hX.ka r.kids.length hX.kc, .string r.text] 28)))
  go_wp2_with fail
  clear n0 n1 n2 n3 n4 n5 n6 n7
  obtain ⟨z7, hz⟩ : ∃ z, z6.alloc (.cells #[.int .i64 r.kind, .string r.pre, .string r.loc, .string r.uri, .slice hX.da r.ds.length hX.dc, .slice hX.aa r.ats.length hX.ac, .slice hX.ka r.kids.length hX.kc, .string r.text] 28) = z := ⟨_, rfl⟩
  have hb : Below z6.heap.size z6 z7 := hz ▸ (Below.refl _ _).alloc (Nat.le_refl _) _
  have HBX_7 : Hid (z7.heap[z6.heap.size]? = _) := hz ▸ heap_alloc_new z6 (.cells #[.int .i64 r.kind, .string r.pre, .string r.loc, .string r.uri, .slice hX.da r.ds.length hX.dc, .slice hX.aa r.ats.length hX.ac, .slice hX.ka r.kids.length hX.kc, .string r.text] 28)
  have HB7 : Hid (Below w.heap.size w z7) := HB6.out.trans (hb.mono HB6.out.size)
  have HL_7 : Hid (z6.heap.size + 1 ≤ z7.heap.size) := by show _ ≤ _; rw [← hz]; simp
  have HT_7 : Hid _ := places.TreeAt.below HT_6.out hb
  have HBT_7 : Hid _ := bx_below HBT_6.out hb
  have HL_7 : Hid _ := places.LaidV.below HL_6.out hb
  have HN_7 : Hid _ := NP.below HN_6.out hb
  have HBN_7 : Hid _ := bx_below HBN_6.out hb
  have HX_7 : Hid _ := trees.NodeAt.below HX_6.out hb
  first | rw [hz] | skip
  clear hb hz HT_6 HBT_6 HL_6 HN_6 HBN_6 HX_6
  refine Calls.mono (c_sat HR.out HN_7.out.tree HN_7.out.path) ?_
  rintro e z8 ⟨⟨hY, rfl, ho⟩, hb⟩
  have HB8 : Hid (Below w.heap.size w z8) := HB7.out.trans (hb.mono HB7.out.size)
  have HL_8 : Hid (z7.heap.size ≤ z8.heap.size) := hb.size
  have HT_8 : Hid _ := places.TreeAt.below HT_7.out hb
  have HBT_8 : Hid _ := bx_below HBT_7.out hb
  have HL_8 : Hid _ := places.LaidV.below HL_7.out hb
  have HN_8 : Hid _ := NP.below HN_7.out hb
  have HBN_8 : Hid _ := bx_below HBN_7.out hb
  have HX_8 : Hid _ := trees.NodeAt.below HX_7.out hb
  have HBX_8 : Hid _ := bx_below HBX_7.out hb
  have HY_8 : Hid _ := ho
  clear hb HT_7 HBT_7 HL_7 HN_7 HBN_7 HX_7 HBX_7 ho
  clear HBN_8
  clear HN_8
  go_wp2_with fail
  obtain ⟨z9, hz⟩ : ∃ z, z8.alloc (.cells #[.int .i64 r.kind, .string r.pre, .string r.loc, .string r.uri, .slice hY.da r.ds.length hY.dc, .slice hY.aa r.ats.length hY.ac, .slice hY.ka r.kids.length hY.kc, .string r.text] 28) = z := ⟨_, rfl⟩
  have hb : Below z8.heap.size z8 z9 := hz ▸ (Below.refl _ _).alloc (Nat.le_refl _) _
  have HBY_9 : Hid (z9.heap[z8.heap.size]? = _) := hz ▸ heap_alloc_new z8 (.cells #[.int .i64 r.kind, .string r.pre, .string r.loc, .string r.uri, .slice hY.da r.ds.length hY.dc, .slice hY.aa r.ats.length hY.ac, .slice hY.ka r.kids.length hY.kc, .string r.text] 28)
  have HB9 : Hid (Below w.heap.size w z9) := HB8.out.trans (hb.mono HB8.out.size)
  have HL_9 : Hid (z8.heap.size + 1 ≤ z9.heap.size) := by show _ ≤ _; rw [← hz]; simp
  have HT_9 : Hid _ := places.TreeAt.below HT_8.out hb
  have HBT_9 : Hid _ := bx_below HBT_8.out hb
  have HL_9 : Hid _ := places.LaidV.below HL_8.out hb
  have HX_9 : Hid _ := trees.NodeAt.below HX_8.out hb
  have HBX_9 : Hid _ := bx_below HBX_8.out hb
  have HY_9 : Hid _ := trees.NodeAt.below HY_8.out hb
  first | rw [hz] | skip
  clear hb hz HT_8 HBT_8 HL_8 HX_8 HBX_8 HY_8
  refine Calls.mono (c_same2 hz (HRW.out _ HB9.out)) ?_
  rintro e z10 ⟨⟨gA, cA, A, gB, cB, B, rfl, ho⟩, hb⟩
  have HB10 : Hid (Below w.heap.size w z10) := HB9.out.trans (hb.mono HB9.out.size)
  have HL_10 : Hid (z9.heap.size ≤ z10.heap.size) := hb.size
  have HT_10 : Hid _ := places.TreeAt.below HT_9.out hb
  have HBT_10 : Hid _ := bx_below HBT_9.out hb
  have HL_10 : Hid _ := places.LaidV.below HL_9.out hb
  have HX_10 : Hid _ := trees.NodeAt.below HX_9.out hb
  have HBX_10 : Hid _ := bx_below HBX_9.out hb
  have HY_10 : Hid _ := trees.NodeAt.below HY_9.out hb
  have HBY_10 : Hid _ := bx_below HBY_9.out hb
  have HS_10 : Hid _ := ho
  clear hb HT_9 HBT_9 HL_9 HX_9 HBX_9 HY_9 HBY_9 ho
  go_wp2_with fail
  refine Calls.mono (c_under2 hz (HRW.out _ HB10.out)) ?_
  rintro e z11 ⟨⟨gC, cC, C, gE, cE, D, rfl, ho⟩, hb⟩
  have HB11 : Hid (Below w.heap.size w z11) := HB10.out.trans (hb.mono HB10.out.size)
  have HL_11 : Hid (z10.heap.size ≤ z11.heap.size) := hb.size
  have HT_11 : Hid _ := places.TreeAt.below HT_10.out hb
  have HBT_11 : Hid _ := bx_below HBT_10.out hb
  have HL_11 : Hid _ := places.LaidV.below HL_10.out hb
  have HX_11 : Hid _ := trees.NodeAt.below HX_10.out hb
  have HBX_11 : Hid _ := bx_below HBX_10.out hb
  have HY_11 : Hid _ := trees.NodeAt.below HY_10.out hb
  have HBY_11 : Hid _ := bx_below HBY_10.out hb
  have HS_11 : Hid _ := PP.below HS_10.out hb
  have HU_11 : Hid _ := ho
  clear hb HT_10 HBT_10 HL_10 HX_10 HBX_10 HY_10 HBY_10 HS_10 ho
  obtain ⟨u, hu⟩ : ∃ u, paths.sameB A B = u := ⟨_, rfl⟩
  have HU : Hid _ := hu
  have huu : (u != u) = false := by cases u <;> rfl
  obtain ⟨v, hv⟩ : ∃ v, paths.underB C D = v := ⟨_, rfl⟩
  have HV : Hid _ := hv
  have hvv : (v != v) = false := by cases v <;> rfl
  clear hu hv
  obtain ⟨n0, n1, n2, n3, n4, n5, n6, n7⟩ := trees.box8 HBX_11.out
  obtain ⟨m0, m1, m2, m3, m4, m5, m6, m7⟩ := trees.box8 HBY_11.out
  go_wp2_with fail
  clear n0 n1 n2 n3 n4 n5 n6 n7 m0 m1 m2 m3 m4 m5 m6 m7
  refine Calls.mono (c_same HX_11.out HY_11.out) ?_
  rintro e z12 ⟨rfl, hb⟩
  have HB12 : Hid (Below w.heap.size w z12) := HB11.out.trans (hb.mono HB11.out.size)
  have HL_12 : Hid (z11.heap.size ≤ z12.heap.size) := hb.size
  have HT_12 : Hid _ := places.TreeAt.below HT_11.out hb
  have HBT_12 : Hid _ := bx_below HBT_11.out hb
  have HL_12 : Hid _ := places.LaidV.below HL_11.out hb
  have HX_12 : Hid _ := trees.NodeAt.below HX_11.out hb
  have HBX_12 : Hid _ := bx_below HBX_11.out hb
  have HY_12 : Hid _ := trees.NodeAt.below HY_11.out hb
  have HBY_12 : Hid _ := bx_below HBY_11.out hb
  have HS_12 : Hid _ := PP.below HS_11.out hb
  have HU_12 : Hid _ := PP.below HU_11.out hb
  clear hb HT_11 HBT_11 HL_11 HX_11 HBX_11 HY_11 HBY_11 HS_11 HU_11
  clear HBX_12
  clear HBY_12
  clear HX_12
  clear HY_12
  go_wp2_with fail
  refine Calls.mono (c_ispath HU.out HS_12.out.p1 HS_12.out.p2) ?_
  rintro e z13 ⟨rfl, hb⟩
  have HB13 : Hid (Below w.heap.size w z13) := HB12.out.trans (hb.mono HB12.out.size)
  have HL_13 : Hid (z12.heap.size ≤ z13.heap.size) := hb.size
  have HT_13 : Hid _ := places.TreeAt.below HT_12.out hb
  have HBT_13 : Hid _ := bx_below HBT_12.out hb
  have HL_13 : Hid _ := places.LaidV.below HL_12.out hb
  have HS_13 : Hid _ := PP.below HS_12.out hb
  have HU_13 : Hid _ := PP.below HU_12.out hb
  clear hb HT_12 HBT_12 HL_12 HS_12 HU_12
  go_wp2_with fail
  refine Calls.mono (c_sspath HU.out HS_13.out.p1 HS_13.out.p2) ?_
  rintro e z14 ⟨rfl, hb⟩
  have HB14 : Hid (Below w.heap.size w z14) := HB13.out.trans (hb.mono HB13.out.size)
  have HL_14 : Hid (z13.heap.size ≤ z14.heap.size) := hb.size
  have HT_14 : Hid _ := places.TreeAt.below HT_13.out hb
  have HBT_14 : Hid _ := bx_below HBT_13.out hb
  have HL_14 : Hid _ := places.LaidV.below HL_13.out hb
  have HS_14 : Hid _ := PP.below HS_13.out hb
  have HU_14 : Hid _ := PP.below HU_13.out hb
  clear hb HT_13 HBT_13 HL_13 HS_13 HU_13
  clear HS_14
  go_wp2_with fail
  refine Calls.mono (c_iunder HV.out HU_14.out.cap HU_14.out.p1 HU_14.out.p2) ?_
  rintro e z15 ⟨rfl, hb⟩
  have HB15 : Hid (Below w.heap.size w z15) := HB14.out.trans (hb.mono HB14.out.size)
  have HL_15 : Hid (z14.heap.size ≤ z15.heap.size) := hb.size
  have HT_15 : Hid _ := places.TreeAt.below HT_14.out hb
  have HBT_15 : Hid _ := bx_below HBT_14.out hb
  have HL_15 : Hid _ := places.LaidV.below HL_14.out hb
  have HU_15 : Hid _ := PP.below HU_14.out hb
  clear hb HT_14 HBT_14 HL_14 HU_14
  go_wp2_with fail
  refine Calls.mono (c_sunder HV.out HU_15.out.p1 HU_15.out.p2) ?_
  rintro e z16 ⟨rfl, hb⟩
  have HB16 : Hid (Below w.heap.size w z16) := HB15.out.trans (hb.mono HB15.out.size)
  have HL_16 : Hid (z15.heap.size ≤ z16.heap.size) := hb.size
  have HT_16 : Hid _ := places.TreeAt.below HT_15.out hb
  have HBT_16 : Hid _ := bx_below HBT_15.out hb
  have HL_16 : Hid _ := places.LaidV.below HL_15.out hb
  have HU_16 : Hid _ := PP.below HU_15.out hb
  clear hb HT_15 HBT_15 HL_15 HU_15
  clear HU_16
  obtain ⟨n0, n1, n2, n3, n4, n5, n6, n7⟩ := trees.box8 HBT_16.out
  go_wp2_with fail
  clear n0 n1 n2 n3 n4 n5 n6 n7
  refine Calls.mono (c_nodes HI.out HT_16.out) ?_
  rintro e z17 ⟨rfl, hb⟩
  have HB17 : Hid (Below w.heap.size w z17) := HB16.out.trans (hb.mono HB16.out.size)
  have HL_17 : Hid (z16.heap.size ≤ z17.heap.size) := hb.size
  have HT_17 : Hid _ := places.TreeAt.below HT_16.out hb
  have HBT_17 : Hid _ := bx_below HBT_16.out hb
  have HL_17 : Hid _ := places.LaidV.below HL_16.out hb
  clear hb HT_16 HBT_16 HL_16
  go_wp2_with fail
  obtain ⟨K, hK⟩ : ∃ K, places.nodesT t = K := ⟨_, rfl⟩
  have HK : Hid _ := hK
  have HKL : Hid (K.length = I.length) := by show _ = _; rw [← HK.out, ← HI.out]; exact (places.nodes_len t).symm
  have HAT : Hid (∀ i, i < I.length → paths.atR t (places.path0 I i) = (trees.kid K i, true)) := fun i hi => by
    have h1 := places.place_at t (i := i) (by rw [HI.out]; exact hi)
    rw [HI.out, HK.out] at h1
    show _ = _
    unfold paths.atR places.path0
    rw [h1]
  have HSC : Hid (places.sumA K = trees.cnt t) := by show _ = _; rw [← HK.out]; exact places.sum_cnt t
  have HCL : Hid (trees.cnt t ≤ 200001) := by have h1 := trees.cnt_le t; have h2 := HT_17.out.sz; show _ ≤ _; omega
  have HDF : Hid (∀ i, i + 1 < I.length → paths.sameB (places.path0 I i) (places.path0 I (i + 1)) = false) := fun i hi => by have h1 := places.places_differ t (i := i) (by rw [HI.out]; exact hi); rw [HI.out] at h1; exact h1
  have HFP : Hid (places.path0 I 0 = [] ∧ 0 < I.length) := by have h1 := places.first_place t; rw [HI.out] at h1; exact h1
  clear hK
  go_loopw [15, 16] (fun q s wr => ∃ (i c : Nat), i ≤ I.length ∧ c ≤ 200001 ∧ s = .int .i64 i ∧ q = .int .i64 c ∧ Hid (places.sumA (K.take i) = c) ∧ Hid (Below z17.heap.size z17 wr)) (fun _ s _ => I.length - (intOf s).toNat)
  case atStart => exact ⟨0, 0, Nat.zero_le _, Nat.zero_le _, rfl, rfl, by show _ = _; rfl, Below.refl _ _⟩
  case round =>
    obtain ⟨i, c, hi, hc, rfl, rfl, hC, hbw⟩ := hrel
    have HBW : Hid (Below w.heap.size w wr) := HB17.out.trans (hbw.out.mono HB17.out.size)
    have HTW : Hid _ := HT_17.out.below hbw.out
    have HLW : Hid _ := HL_17.out.below hbw.out
    have HBT : Hid _ := bx_below HBT_17.out hbw.out
    by_cases hlt : i < I.length
    · obtain ⟨a, cp, hcell, hints, hcap⟩ := laid_find HLW.out HF.out hlt
      obtain ⟨p, hp⟩ : ∃ p, places.path0 I i = p := ⟨_, rfl⟩
      have HPI : Hid (places.path0 I i = p) := hp
      rw [hp] at hcell hints hcap
      have hat := HAT.out i hlt
      rw [hp] at hat
      obtain ⟨y, hy⟩ : ∃ y, trees.kid K i = y := ⟨_, rfl⟩
      rw [hy] at hat
      have HAY : Hid _ := hat
      have HSN : Hid (places.sumA (K.take (i + 1)) = c + 1 + y.ats.length) := by show _ = _; rw [places.sum_next (by rw [HKL.out]; exact hlt), hy, hC.out]
      have hcn : c + 1 + y.ats.length ≤ 200001 := by have h1 := HSN.out; have h2 := places.sum_take K (i + 1); have h3 := HSC.out; have h4 := HCL.out; omega
      have HINT : Hid (ints.IntsAt wr a p) := hints
      have hglt := World.block_lt_of_cell? wr _ hcell
      have hlc : ∀ W, Below wr.heap.size wr W → W.cell? ⟨gI, i, none⟩ = some (.slice a p.length cp) := fun W hb => (hb.cell (p := ⟨gI, i, none⟩) hglt).trans hcell
      have HLC : Hid _ := hlc
      have hmb := fun W (hb : Below wr.heap.size wr W) => trees.box8 (bx_below HBT.out hb)
      have hiz : i ≤ 1048577 := by omega
      have HCA : Hid (∀ W, Below wr.heap.size wr W → _) := fun W (hb : Below wr.heap.size wr W) => c_iat (a := a) (c := cp) HAY.out (HTW.out.below hb) (HINT.out.below (Nat.le_refl _) hb)
      obtain ⟨n0, n1, n2, n3, n4, n5, n6, n7⟩ := trees.box8 HBT.out
      have hBA : Below wr.heap.size wr (wr.alloc (.cells #[.int .i64 0, .string ⟨#[]⟩, .string ⟨#[]⟩, .string ⟨#[]⟩, .slice none 0 0, .slice none 0 0, .slice none 0 0, .string ⟨#[]⟩] 28)) := (Below.refl wr.heap.size wr).alloc (Nat.le_refl _) _
      obtain ⟨m0, m1, m2, m3, m4, m5, m6, m7⟩ := trees.box8 (bx_below HBT.out hBA)
      have hcell2 := HLC.out _ hBA
      clear hy hat hp hints hmb hlc hBA
      go_upto_region 16 with fail
      go_cut [17, 18] from 92 to 100 (fun s17 s18 wx => ∃ (zb : Nat) (h' : trees.Hdr), s17 = .pointer (some ⟨zb, 0, none⟩) ∧ s18 = .bool true ∧ Hid (wx.heap[zb]? = some (.cells #[.int .i64 y.kind, .string y.pre, .string y.loc, .string y.uri, .slice h'.da y.ds.length h'.dc, .slice h'.aa y.ats.length h'.ac, .slice h'.ka y.kids.length h'.kc, .string y.text] 28 (0, 0))) ∧ Hid (Below wr.heap.size wr wx))
      case first =>
        go_region_with (go_at_call 13; refine Calls.mono (HCA.out _ (by first | exact (Below.refl _ _).drew | exact ((Below.refl wr.heap.size wr).alloc (Nat.le_refl _) _).drew)) ?_; rintro e w6 ⟨⟨h', rfl, ho⟩, hb6⟩; first | (have hzb : w6.heap[wr.heap.size]? = _ := (hb6.block wr.heap.size (by show wr.heap.size < (wr.alloc _).heap.size; simp)).trans (heap_alloc_new wr _); have HZB : Hid _ := hzb; obtain ⟨x0, x1, x2, x3, x4, x5, x6, x7⟩ := trees.box8 hzb; obtain ⟨f0, f1, f2, f3, f4, f5, f6, f7⟩ := trees.box_froz hzb; have HB6 : Hid (Below wr.heap.size wr w6) := ((Below.refl wr.heap.size wr).alloc (Nat.le_refl _) _).drew.trans (hb6.mono (by show wr.heap.size ≤ (wr.alloc _).heap.size; simp)); clear hzb hb6 ho) | (have HB6 : Hid (Below wr.heap.size wr w6) := (Below.refl wr.heap.size wr).drew.trans hb6; clear hb6 ho))
        all_goals go_wp2_with fail
        all_goals go_meet
        all_goals first
          | exact ⟨wr.heap.size, h', rfl, rfl, places.put8 HZB.out _ _ _ _ _ _ _ _, trees.Out.below (places.out8 _ _ _ _ _ _ _ _ _ _) HB6.out (fun b (e : b = wr.heap.size) => by omega) HB6.out.size⟩
          | exact ⟨w6.heap.size, h', rfl, rfl, heap_alloc_new w6 _, HB6.out.alloc HB6.out.size _⟩
      case rest =>
        obtain ⟨zb, h', rfl, rfl, HZ, HBC⟩ := hcut
        clear n0 n1 n2 n3 n4 n5 n6 n7 m0 m1 m2 m3 m4 m5 m6 m7 hcell2
        have HBX : Hid (Below z17.heap.size z17 wc) := hbw.out.trans (HBC.out.mono hbw.out.size)
        have hzl : zb < wc.heap.size := pairs.lt_heap HZ.out
        have hlc : ∀ W, Below wc.heap.size wc W → W.cell? ⟨gI, i, none⟩ = some (.slice a p.length cp) := fun W hb => HLC.out W (HBC.out.trans (hb.mono HBC.out.size))
        have HUN : Hid (∀ W b c, Below wc.heap.size wc W → ints.IntsAt W b [] → _) := fun W b c (hb : Below wc.heap.size wc W) (hn : ints.IntsAt W b []) => c_iunder (c' := c) (places.under_none p) hcap (HINT.out.below (Nat.le_refl _) (HBC.out.trans (hb.mono HBC.out.size))) hn
        go_wp2_with fail
        by_cases hi0 : i = 0
        · subst hi0
          apply quiets.wp_region_mask wc (Below.refl _ _) [true, true, true, true, true, true, true, true, true, true, true, true, true, true, true, true, true, true, true, true, true, true, true] (hm := by kernel_rfl) (hB := by kernel_rfl) (hwalk := ?walkB) (htail := ?tailB)
          case walkB =>
            intro C hC0 hC1
            simp only [quiets.onB, cond_true]
            repeat (go_big_quiet_step ((first | (intro hq; rfl) | (intro hq; simp [go_sem, hlc _ (hC0 _ hq)]; rfl))))
            exact wpQuiet_nil rfl
          clear hlc
          intro v1 hb1
          have HD1 : Hid (Below wc.heap.size wc v1) := hb1
          clear hb1
          simp only [quiets.offB, cond_true]
          refine quiets.tail_cons fun v2 hb => ?_
          have HD2 : Hid (Below wc.heap.size wc v2) := HD1.out.trans (hb.mono HD1.out.size)
          clear hb HD1
          go_wp2_with fail
          have HA2 : Hid (Below wc.heap.size wc (v2.alloc (.cells #[] 3))) := HD2.out.alloc HD2.out.size _
          refine ⟨HA2.out, ?_⟩
          refine quiets.tail_cons fun v3 hb => ?_
          have HD3 : Hid (Below wc.heap.size wc v3) := HA2.out.trans (hb.mono HA2.out.size)
          clear hb
          have HU3 : Hid _ := HUN.out v3 (some ⟨v2.heap.size, 0, none⟩) 0 HD3.out ⟨fun h => absurd h (by simp), by simp, fun i hi => absurd hi (by simp)⟩
          go_wp2_with fail
          refine Calls.mono HU3.out ?_
          rintro e v4 ⟨rfl, hb⟩
          have HD4 : Hid (Below wc.heap.size wc v4) := HD3.out.trans (hb.mono HD3.out.size)
          clear hb HU3
          go_wp2_with fail
          refine ⟨HD4.out, ?_⟩
          refine quiets.tail_cons fun v5 hb => ?_
          have HD5 : Hid (Below wc.heap.size wc v5) := HD4.out.trans (hb.mono HD4.out.size)
          clear hb
          go_wp2_with fail
          refine ⟨HD5.out, ?_⟩
          refine quiets.tail_cons fun v6 hb => ?_
          have HD6 : Hid (Below wc.heap.size wc v6) := HD5.out.trans (hb.mono HD5.out.size)
          clear hb
          go_wp2_with fail
          refine ⟨HD6.out, ?_⟩
          refine quiets.tail_nil fun v7 hb => ?_
          have HD7 : Hid (Below wc.heap.size wc v7) := HD6.out.trans (hb.mono HD6.out.size)
          clear hb HD6 HD5 HD4 HD3 HA2 HD2
          have hzx := (HD7.out.block zb hzl).trans HZ.out
          obtain ⟨n0, n1, n2, n3, n4, n5, n6, n7⟩ := trees.box8 hzx
          clear hzx
          go_wp2
          go_roundw
          case rel => exact ⟨0 + 1, c + 1 + y.ats.length, by omega, hcn, by go_num, by go_num, HSN.out, HBX.out.trans (HD7.out.mono HBX.out.size)⟩
          case measure => simp [intOf]; omega
        · obtain ⟨j, rfl⟩ : ∃ j, i = j + 1 := ⟨i - 1, by omega⟩
          obtain ⟨a', cp', hcj, hij, _⟩ := laid_find HLW.out HF.out (i := j) (by omega)
          have hdf := HDF.out j hlt
          rw [HPI.out] at hdf
          obtain ⟨p', hp'⟩ : ∃ p', places.path0 I j = p' := ⟨_, rfl⟩
          rw [hp'] at hcj hij hdf
          have hgj := World.block_lt_of_cell? wr _ hcj
          have hlj : ∀ W, Below wc.heap.size wc W → W.cell? ⟨gI, j, none⟩ = some (.slice a' p'.length cp') := fun W hb => ((HBC.out.trans (hb.mono HBC.out.size)).cell (p := ⟨gI, j, none⟩) hgj).trans hcj
          have HSP : Hid (∀ W, Below wc.heap.size wc W → _) := fun W (hb : Below wc.heap.size wc W) => c_ispath (c := cp') (c' := cp) hdf (hij.below (Nat.le_refl _) (HBC.out.trans (hb.mono HBC.out.size))) (HINT.out.below (Nat.le_refl _) (HBC.out.trans (hb.mono HBC.out.size)))
          have hgt : (0 : Int) < (j : Int) + 1 := by omega
          have hwr : IntKind.i64.wrap ((j : Int) + 1 - 1) = (j : Int) := by rw [IntKind.wrap_i64]; omega
          have hwr2 : IntKind.i64.wrap (j : Int) = (j : Int) := by rw [IntKind.wrap_i64]; omega
          have hj : j < I.length := by omega
          have hlc2 : ∀ W, Below wc.heap.size wc W → W.cell? ⟨gI, j + 1, none⟩ = some (.slice a p.length cp) := hlc
          clear hcj hij hdf hp' hgj
          apply quiets.wp_region_mask wc (Below.refl _ _) [true, true, true, true, true, true, true, true, true, true, true, true, true, true, true, true, true, true, true, true, true, true, true] (hm := by kernel_rfl) (hB := by kernel_rfl) (hwalk := ?walkC) (htail := ?tailC)
          case walkC =>
            intro C hC0 hC1
            simp only [quiets.onB, cond_true]
            repeat (go_big_quiet_step ((first | (intro hq; rfl) | (intro hq; simp [go_sem, hlj _ (hC0 _ hq)]; rfl) | (intro hq; simp [go_sem, hlc2 _ (hC0 _ hq)]; rfl) | (intro hq; exact quiets.calm_call hC1 hq (HSP.out _ (hC0 _ hq))))))
            exact wpQuiet_nil rfl
          clear hlc hlc2 hlj
          intro v1 hb1
          have HD1 : Hid (Below wc.heap.size wc v1) := hb1
          clear hb1
          simp only [quiets.offB, cond_true]
          refine quiets.tail_cons fun v2 hb => ?_
          have HD2 : Hid (Below wc.heap.size wc v2) := HD1.out.trans (hb.mono HD1.out.size)
          clear hb HD1
          go_wp2_with fail
          have HA2 : Hid (Below wc.heap.size wc (v2.alloc (.cells #[] 3))) := HD2.out.alloc HD2.out.size _
          refine ⟨HA2.out, ?_⟩
          refine quiets.tail_cons fun v3 hb => ?_
          have HD3 : Hid (Below wc.heap.size wc v3) := HA2.out.trans (hb.mono HA2.out.size)
          clear hb
          have HU3 : Hid _ := HUN.out v3 (some ⟨v2.heap.size, 0, none⟩) 0 HD3.out ⟨fun h => absurd h (by simp), by simp, fun i hi => absurd hi (by simp)⟩
          go_wp2_with fail
          refine Calls.mono HU3.out ?_
          rintro e v4 ⟨rfl, hb⟩
          have HD4 : Hid (Below wc.heap.size wc v4) := HD3.out.trans (hb.mono HD3.out.size)
          clear hb HU3
          go_wp2_with fail
          refine ⟨HD4.out, ?_⟩
          refine quiets.tail_cons fun v5 hb => ?_
          have HD5 : Hid (Below wc.heap.size wc v5) := HD4.out.trans (hb.mono HD4.out.size)
          clear hb
          go_wp2_with fail
          refine ⟨HD5.out, ?_⟩
          refine quiets.tail_cons fun v6 hb => ?_
          have HD6 : Hid (Below wc.heap.size wc v6) := HD5.out.trans (hb.mono HD5.out.size)
          clear hb
          go_wp2_with fail
          refine ⟨HD6.out, ?_⟩
          refine quiets.tail_nil fun v7 hb => ?_
          have HD7 : Hid (Below wc.heap.size wc v7) := HD6.out.trans (hb.mono HD6.out.size)
          clear hb HD6 HD5 HD4 HD3 HA2 HD2
          have hzx := (HD7.out.block zb hzl).trans HZ.out
          obtain ⟨n0, n1, n2, n3, n4, n5, n6, n7⟩ := trees.box8 hzx
          clear hzx
          go_wp2
          go_roundw
          case rel => exact ⟨j + 1 + 1, c + 1 + y.ats.length, by omega, hcn, by go_num, by go_num, HSN.out, HBX.out.trans (HD7.out.mono HBX.out.size)⟩
          case measure => simp [intOf]; omega
    · obtain rfl : i = I.length := by omega
      have hcq : trees.cnt t = c := by
        have h1 := hC.out
        rw [← HKL.out, List.take_length, HSC.out] at h1
        exact h1
      have HCQ : Hid _ := hcq
      obtain ⟨a, cp, hcell, _, _⟩ := laid_find HLW.out HF.out (i := 0) HFP.out.2
      rw [HFP.out.1] at hcell
      have HCELL : Hid (wr.cell? ⟨gI, 0, none⟩ = some (.slice a 0 cp)) := hcell
      have hglt := World.block_lt_of_cell? wr _ hcell
      have hpos : 0 < I.length := HFP.out.2
      have hcc : ((c : Int) == (c : Int)) = true := by simp
      obtain ⟨n0, n1, n2, n3, n4, n5, n6, n7⟩ := trees.box8 HBT.out
      clear hcell hcq
      go_wp2_with fail
      refine Calls.mono (c_count HCQ.out HTW.out) ?_
      rintro e v1 ⟨rfl, hb⟩
      have hcell : v1.cell? ⟨gI, 0, none⟩ = some (.slice a 0 cp) := (hb.cell (p := ⟨gI, 0, none⟩) hglt).trans HCELL.out
      have HBV : Hid (Below w.heap.size w v1) := HBW.out.trans (hb.mono HBW.out.size)
      clear hb n0 n1 n2 n3 n4 n5 n6 n7
      go_wp2
      go_ret
      exact ⟨rfl, HBV.out⟩

/-! ### The row -/
set_option maxRecDepth 100000 in
theorem lifted (os : Os) (started : os.Started) (H : Type) (enc : TypeId × Value → H) :
    ReturnsInHanded {} Try.checked os 3 .any (Rows.fnPlacesSpec.pre6 enc Try.prog Try.f3 Rows.fnPlacesRow.domain false) (Rows.fnPlacesSpec.post enc Try.prog Try.f3 false true false false) := by
  refine returnsInHanded_of_change (C := Try.checked) own started (by kernel_rfl) Try.func3
    (ChangeSpec.witness6 (enc := enc) (C := Try.checked) false ⟨#[], #[.slice none 0 0], []⟩ 8 (by kernel_rfl) (by kernel_rfl) (by kernel_rfl) (by kernel_rfl)) ?_
  intro W base args ds gs before hval0 hW hcnd _
  have hval : ∀ (j : Nat) t v, Try.f3.params[j]? = some t → args[j]? = some v → Value.okWide Try.prog W .any base t v := hval0
  have hW' := hW
  obtain ⟨p, q, hA0, hV, rfl, hfz, hnd⟩ := hW
  have hA : DataW.TrodAll enc Try.prog W 0 (fun _ => true) true Try.f3.params.toList args.toList ds p := hA0
  rw [Try.params3] at hA hval
  obtain ⟨v0, vs0, d0, ds0, p0, q0, hargs, rfl, rfl, h0, r0⟩ := trodAll_cons hA
  obtain ⟨rfl, rfl, rfl⟩ := trodAll_nil r0
  obtain rfl : args = #[v0] := by cases args; simp_all
  obtain ⟨rfl, rfl⟩ := trodVars_none hV
  obtain ⟨a0, len0, cap0, rfl⟩ := okWide_slice Try.underlying22 (hval 0 22 v0 rfl rfl)
  have k0 := h0
  have lt0 : ∀ x ∈ p0, x.block < W.heap.size := by obtain ⟨m, hm⟩ := k0; exact DataW.trod_lt m _ _ _ hm
  obtain ⟨z0, w0⟩ : ∃ zs, IsRow .u8 W a0 len0 cap0 zs := by
    obtain ⟨fuel, hf⟩ := h0
    rcases open_ints Try.underlying22 Try.underlying5 (by kernel_rfl) hf with ⟨hcs, _⟩ | ⟨x, l, c, zs, hcs, _, hl, hm, hz, _, hcell, hwz⟩
    · simp [Value.cells] at hcs
      obtain ⟨rfl, rfl, rfl⟩ := hcs
      exact ⟨[], .inl ⟨rfl, rfl, rfl, rfl⟩⟩
    · simp [Value.cells] at hcs
      obtain ⟨rfl, rfl, rfl⟩ := hcs
      exact ⟨zs, .inr ⟨_, rfl, hl, hm, by simpa using hz, hcell, hwz⟩⟩
  clear hA0 hval0
  simp only [List.append_nil] at hW'
  refine (walk a0 len0 cap0 z0 W w0).mono fun e W' ⟨he, bel⟩ => ?_
  subst he
  exact ⟨_, rfl, _, _, _, [], _, [], hW', (trodAll_cons_mk (shut_bool Try.underlying4 _) trodAll_mk0), (trodAll_cons_mk (Below.trod laidOut (by kernel_rfl) (of_decide_eq_true (by kernel_rfl)) k0 bel lt0) trodAll_mk0), rfl, bel.frame _, fun h => by cases h⟩

/-- The statement. -/
theorem proved : Rows.FnPlacesSaid :=
  OpenClaim.holds_of_wide 3 Try.f3 rfl rfl rfl rfl rfl rfl rfl ⟨rfl, rfl, rfl, rfl, rfl⟩ rfl rfl rfl rfl rfl (by kernel_rfl) Try.func3 (by kernel_rfl)
    (of_decide_eq_true (by kernel_rfl)) (by unfold Func.isWrapper; first | (rw [if_pos (by decide +kernel)]; kernel_rfl) | (rw [if_neg (by decide +kernel)]; exact ⟨rfl, rfl⟩))
    (fun os started H enc _ => lifted os started H enc)
#print axioms proved
end Go.Proofs.Ytpejcblmglbjfaa.fnPlaces
