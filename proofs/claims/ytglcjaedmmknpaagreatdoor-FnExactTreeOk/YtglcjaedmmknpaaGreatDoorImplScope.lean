/-
  What the program's SpaceOf answers: what holds is walked through from the inside by a range over a function.
-/
import Derived.Test.YtglcjaedmmknpaaGreatDoorScopeP
import Derived.RangeFuncFrom
import Derived.RangeFuncNested
import Derived.RangeFuncBound
import Derived.RangeFuncCalls
import Derived.RangeFuncLeaves
import Derived.Shelf.Abstract
import Derived.Shelf.RegionOpen
import Derived.OwnWalkIn
import Derived.TacticsInMore
import Derived.LoopNIn
import Derived.LoopIn
namespace Go.Proofs.YtglcjaedmmknpaaGreatDoor.scopes
open Go.ChangeShapes Go.WideShapes Go.ChangeAt Go.RowKit Go.Shelf
open pairs (Pair at0 PairsAt)
set_option linter.unusedVariables false
attribute [local go_sem] Oper.semAt_some
/-! ### What comes from the inside -/
def downs (L : List Pair) (k : Nat) : List Pair := (List.range k).map fun j => at0 L (L.length - 1 - j)
theorem downs_succ (L : List Pair) (k : Nat) : downs L (k + 1) = downs L k ++ [at0 L (L.length - 1 - k)] := by simp [downs, List.range_succ]
theorem downs_length (L : List Pair) (k : Nat) : (downs L k).length = k := by simp [downs]
theorem last_downs (L : List Pair) (p : ByteArray) : ∀ m, m ≤ L.length → (∀ y ∈ downs L m, (y.1.toList == p.toList) = false) → lastTo L p L.length = lastTo L p (L.length - m)
  | 0, _, _ => rfl
  | m + 1, hm, h => by
    rw [last_downs L p m (by omega) (fun y hy => h y (by rw [downs_succ]; exact List.mem_append.2 (.inl hy)))]
    have h1 := h (at0 L (L.length - 1 - m)) (by rw [downs_succ]; exact List.mem_append.2 (.inr (by simp)))
    rw [show L.length - m = (L.length - 1 - m) + 1 by omega, last_no h1, show L.length - 1 - m = L.length - (m + 1) by omega]
theorem space_done {L : List Pair} {p : ByteArray} (h : ∀ y ∈ downs L L.length, (y.1.toList == p.toList) = false) : spaceR L p = (⟨#[]⟩, p.toList.isEmpty) :=
  space_none (by rw [last_downs L p _ (Nat.le_refl _) h, Nat.sub_self]; rfl)
theorem space_stop {L q : List Pair} {x : Pair} {p : ByteArray} {k : Nat} (hk : k ≤ L.length) (he : downs L k = q ++ [x]) (h : ∀ y ∈ q, (y.1.toList == p.toList) = false) (hx : (x.1.toList == p.toList) = true) : spaceR L p = (x.2, true) := by
  obtain ⟨m, rfl⟩ : ∃ m, k = m + 1 := ⟨k - 1, by have := congrArg List.length he; rw [downs_length] at this; simp at this; omega⟩
  rw [downs_succ] at he
  obtain ⟨rfl, h2⟩ := List.append_inj' he rfl
  obtain rfl : at0 L (L.length - 1 - m) = x := by simpa using h2
  refine space_some (i := L.length - 1 - m) ?_
  rw [last_downs L p m (by omega) h, show L.length - m = (L.length - 1 - m) + 1 by omega, last_yes hx]
/-- A slice of just these pairs, all below n₀. -/
structure PairsB (n₀ : Nat) (w : World) (a : Option Addr) (L : List Pair) : Prop where
  row : 0 < L.length → ∃ b off, a = some ⟨b, off, none⟩ ∧ b < n₀ ∧ ∀ i, i < L.length → w.cell? ⟨b, off + i * 2, none⟩ = some (.string (at0 L i).1) ∧ w.cell? ⟨b, off + i * 2 + 1, none⟩ = some (.string (at0 L i).2)
theorem PairsB.below {n₀ : Nat} {w w' : World} {a : Option Addr} {L : List Pair} (h : PairsB n₀ w a L) (hb : Below n₀ w w') : PairsB n₀ w' a L :=
  ⟨fun h0 => by
    obtain ⟨b, off, ha, hlt, hc⟩ := h.row h0
    refine ⟨b, off, ha, hlt, fun i hi => ?_⟩
    rw [hb.cell (p := ⟨b, off + i * 2, none⟩) hlt, hb.cell (p := ⟨b, off + i * 2 + 1, none⟩) hlt]
    exact hc i hi⟩
theorem PairsB.of {n₀ : Nat} {w w' : World} {a : Option Addr} {L : List Pair} (h : PairsAt w a L) (hb : Below w.heap.size w w') (hn : w.heap.size ≤ n₀) : PairsB n₀ w' a L :=
  ⟨fun h0 => by
    obtain ⟨b, off, ha, hlt, hc⟩ := (h.below (Nat.le_refl _) hb).row h0
    obtain ⟨b', off', ha', hlt', hc'⟩ := h.row h0
    rw [ha] at ha'
    cases ha'
    exact ⟨b, off, ha, by omega, hc⟩⟩
theorem keep_obj {A B : World} {row : Option Nat} {b : Nat} {o : Obj} (h : A.heap[b]? = some o) (ho : o.isCells = true) (hg : A.grownBy B row) (hr : ∀ r, row = some r → ∃ o : Obj, A.heap[r]? = some o ∧ o.isCells = false) : B.heap[b]? = some o :=
  (hg.block b (Array.getElem?_eq_some_iff.1 h).1 (fun e => by
    obtain ⟨o', h1, h2⟩ := hr b e.symm
    rw [h] at h1
    cases h1
    rw [ho] at h2
    cases h2)).trans h
set_option maxRecDepth 100000 in
set_option maxHeartbeats 2000000 in
theorem inside1_in (F : Fence) (n : Nat) (hf : F.fn 71) (hro : F.round = none) (hn : 1 ≤ n) (l Bs n₀ cap : Nat) (a : Option Addr) (L : List Pair) (hlen : L.length ≤ 9223372036854775807) (hBl : Bs < n₀) (J Jx : List Pair → World → Prop)
    (hY : ∀ pre x W, J pre W → pre.length < L.length → YieldAt F (n - 1) Tryz.prog l #[.agg #[.string x.1, .string x.2]] W fun e W' =>
      (e = .returned (.bool true) ∧ J (pre ++ [x]) W' ∧ Below n₀ W W') ∨ (e = .returned (.bool false) ∧ Jx (pre ++ [x]) W'))
    (W : World) (hBs : W.cell? ⟨Bs, 0, none⟩ = some (.slice a L.length cap)) (hL : Hid (PairsB n₀ W a L)) (h0 : J [] W) :
    CallsIn F n Tryz.prog 71 #[.func (.yield l) #[] #[], .pointer (some ⟨Bs, 0, none⟩)] W fun e W' => (∃ v, e = .returned v) ∧
      ((∃ ys, ys = downs L L.length ∧ J ys W') ∨ (∃ pre, (∃ k, k ≤ L.length ∧ pre = downs L k) ∧ Jx pre W')) := by
  refine callsIn_of_wp Tryz.func71 rfl hf ?_ hro
  simp only [Tryz.ntmps71, List.size_toArray, List.length_cons, List.length_nil, Nat.reduceAdd, Nat.reduceSub, Array.replicate_succ, Array.replicate_zero, List.push_toArray, List.append_toArray, List.nil_append, List.cons_append]
  gi_wp2
  gi_loopw [3] (fun i wr => ∃ k : Nat, k ≤ L.length ∧ i = .int .i64 ((L.length : Int) - 1 - (k : Int)) ∧ J (downs L k) wr ∧ Hid (Below n₀ W wr))
    (fun i _ => ((intOf i) + 1).toNat)
  case atStart => exact ⟨0, Nat.zero_le _, by simp, h0, Below.refl _ _⟩
  case round =>
    obtain ⟨k, hk, rfl, hJs, hnx⟩ := hrel
    by_cases hlt : k < L.length
    · obtain ⟨i, hi⟩ : ∃ i, i = L.length - 1 - k := ⟨_, rfl⟩
      have ei : (L.length : Int) - 1 - (k : Int) = (i : Int) := by omega
      obtain ⟨b, off, ha, hblt, hc⟩ := (hL.out.below hnx.out).row (by omega)
      obtain ⟨hc1, hc2⟩ := hc i (by omega)
      have hBr : wr.cell? ⟨Bs, 0, none⟩ = some (.slice a L.length cap) := (hnx.out.cell (p := ⟨Bs, 0, none⟩) hBl).trans hBs
      obtain ⟨fn, tmps, assign, body, hy, hR⟩ := hY _ (at0 L i) wr hJs (by rw [downs_length]; exact hlt)
      have hds : downs L (k + 1) = downs L k ++ [at0 L i] := by rw [downs_succ, hi]
      have HD : Hid _ := hds
      subst ha
      generalize at0 L i = x at hc1 hc2 hy hR HD
      obtain ⟨n, v⟩ := x
      dsimp only at hc1 hc2 hy
      rw [ei]
      have hilt : (i : Int) < L.length := by omega
      have HI : Hid _ := hi
      clear hc hds hi
      gi_wp2
      refine hR.mono ?_
      rintro e W3 (⟨rfl, hJ3, hk3⟩ | ⟨rfl, hJx3⟩)
      · gi_wp2
        go_roundw
        case rel => exact ⟨k + 1, by omega, (by have := HI.out; congr 1; omega), by rw [HD.out]; exact hJ3, hnx.out.trans hk3⟩
        case measure => simp [intOf]
      · gi_wp2
        refine bodyPost_ret (results_none rfl _ _ _) rfl ?_
        exact ⟨⟨_, rfl⟩, .inr ⟨_, ⟨k + 1, by omega, rfl⟩, by rw [HD.out]; exact hJx3⟩⟩
    · obtain rfl : k = L.length := by omega
      have ei : (L.length : Int) - 1 - (L.length : Int) = -1 := by omega
      rw [ei]
      gi_wp2
      go_end0
      exact ⟨⟨_, rfl⟩, .inl ⟨_, rfl, hJs⟩⟩
set_option maxHeartbeats 1000000 in
theorem inside_in (F : Fence) (n : Nat) (hf : F.fn 55) (hro : F.round = none) (a : Option Addr) (len cap : Nat) (w : World) :
    CallsIn F n Tryz.prog 55 #[.slice a len cap] w fun e w' => e = .returned (.func (.func 71) #[] #[.pointer (some ⟨w.heap.size, 0, none⟩)]) ∧ w' = w.alloc (.cells #[.slice a len cap] 29) := by
  refine callsIn_of_wp Tryz.func55 rfl hf ?_ hro
  simp only [Tryz.ntmps55, List.size_toArray, List.length_cons, List.length_nil, Nat.reduceAdd, Nat.reduceSub, Array.replicate_succ, Array.replicate_zero, List.push_toArray, List.append_toArray, List.nil_append, List.cons_append]
  gi_wp2
  go_ret
  exact ⟨rfl, rfl⟩
theorem inside_stops (F : Fence) (n : Nat) (hf : F.fn 71) (hro : F.round = none) (hn : 1 ≤ n) (Bs n₀ cap : Nat) (a : Option Addr) (L : List Pair) (hlen : L.length ≤ 9223372036854775807) (w : World) (hBs : Bs < n₀) (hn₀ : n₀ ≤ w.heap.size)
    (hc : w.cell? ⟨Bs, 0, none⟩ = some (.slice a L.length cap)) (hL : PairsB n₀ w a L) :
    SeqStopsK F n Tryz.prog 71 #[.pointer (some ⟨Bs, 0, none⟩)] (fun x : Pair => #[Value.agg #[.string x.1, .string x.2]]) (Below n₀) (fun ys => ys = downs L L.length) (fun pre => ∃ k, k ≤ L.length ∧ pre = downs L k) L.length w := fun l J Jx W hW _ _ hY h0 =>
  inside1_in F n hf hro hn l Bs n₀ cap a L hlen hBs J Jx hY W ((hW.cell (p := ⟨Bs, 0, none⟩) (Nat.lt_of_lt_of_le hBs hn₀)).trans hc) (hL.below (hW.mono hn₀)) h0
set_option maxRecDepth 100000 in
set_option maxHeartbeats 2000000 in
theorem space_in (F : Fence) (n : Nat) (h1f : F.fn 40) (h2f : F.fn 55) (h3f : F.fn 71) (hro : F.round = none) (hn : 3 ≤ n) (a : Option Addr) (L : List Pair) (cap : Nat) (p : ByteArray) (w : World) (hL : Hid (PairsAt w a L)) :
    CallsIn F n Tryz.prog 40 #[.slice a L.length cap, .string p] w fun e w' => e = .returned (sb (spaceR L p)) ∧ Below w.heap.size w w' := by
  have hlen : L.length ≤ 9223372036854775807 := hL.out.short
  have h1 : 1 ≤ n := by omega
  refine callsIn_of_wp_marks Tryz.func40 rfl h1f ?_ hro
  simp only [Tryz.ntmps40, List.size_toArray, List.length_cons, List.length_nil, Nat.reduceAdd, Nat.reduceSub, Array.replicate_succ, Array.replicate_zero, List.push_toArray, List.append_toArray, List.nil_append, List.cons_append]
  gi_wp2_with (gi_at_call 55; refine (inside_in F (n - 1) h2f hro _ _ _ _).mono ?_; rintro e w' ⟨rfl, rfl⟩)
  obtain ⟨W0, hW0⟩ : ∃ W0, (((w.alloc (.cells #[.string p] 9)).alloc (.cells #[.string ⟨#[]⟩] 9)).alloc (.cells #[.bool false] 4)).alloc (.cells #[.slice a L.length cap] 29) = W0 := ⟨_, rfl⟩
  have hB0 : Below w.heap.size w W0 := by rw [← hW0]; exact ((((Below.refl _ w).alloc (Nat.le_refl _) _).alloc (by simp) _).alloc (by simp; omega) _).alloc (by simp; omega) _
  have hs0 : W0.heap.size = w.heap.size + 4 := by rw [← hW0]; simp
  have b0 : Boxed W0 w.heap.size 9 (.string p) := by rw [← hW0]; exact (((Boxed.new w 9 (.string p)).alloc _).alloc _).alloc _
  have b1 : Boxed W0 (w.heap.size + 1) 9 (.string ⟨#[]⟩) := by
    rw [← hW0]
    have := Boxed.new (w.alloc (.cells #[.string p] 9)) 9 (.string ⟨#[]⟩)
    rw [World.size_alloc] at this
    exact (this.alloc _).alloc _
  have b2 : Boxed W0 (w.heap.size + 1 + 1) 4 (.bool false) := by
    rw [← hW0]
    have := Boxed.new ((w.alloc (.cells #[.string p] 9)).alloc (.cells #[.string ⟨#[]⟩] 9)) 4 (.bool false)
    rw [World.size_alloc, World.size_alloc] at this
    exact this.alloc _
  have b3 : Boxed W0 (w.heap.size + 1 + 1 + 1) 29 (.slice a L.length cap) := by
    rw [← hW0]
    have := Boxed.new (((w.alloc (.cells #[.string p] 9)).alloc (.cells #[.string ⟨#[]⟩] 9)).alloc (.cells #[.bool false] 4)) 29 (.slice a L.length cap)
    rw [World.size_alloc, World.size_alloc, World.size_alloc] at this
    exact this
  have hPB : PairsB (w.heap.size + 4) W0 a L := PairsB.of hL.out hB0 (by omega)
  rw [hW0]
  clear hW0
  refine wpIn_rangeFunc_ownH hro h1 (gf := 71) (lb := #[.pointer (some ⟨w.heap.size + 1 + 1 + 1, 0, none⟩)]) rfl h3f (enters_of Tryz.func71 (by kernel_rfl) rfl)
    (inside_stops F (n - 1) h3f hro (by omega) (w.heap.size + 1 + 1 + 1) (w.heap.size + 4) cap a L hlen W0 (by omega) (by omega) b3.cell hPB) belowK_t (belowK_b (by omega)) (Below.refl _ _) (fun _ => rfl)
    (fun pre W => ((∀ y ∈ pre, (y.1.toList == p.toList) = false) ∧ Boxed W w.heap.size 9 (.string p) ∧ Boxed W (w.heap.size + 1) 9 (.string ⟨#[]⟩) ∧ Boxed W (w.heap.size + 1 + 1) 4 (.bool false) ∧ w.heap.size + 4 ≤ W.heap.size) ∧ Below w.heap.size w W)
    (fun c pre W => (c = .ret ∧ ∃ q x, pre = q ++ [x] ∧ (∀ y ∈ q, (y.1.toList == p.toList) = false) ∧ (x.1.toList == p.toList) = true ∧ Boxed W (w.heap.size + 1) 9 (.string x.2) ∧ Boxed W (w.heap.size + 1 + 1) 4 (.bool true)) ∧ Below w.heap.size w W)
    ?hI ?hIx ⟨⟨by simp, b0, b1, b2, by omega⟩, hB0⟩
    (fun x a' W => ∃ Bx, w.heap.size + 4 ≤ Bx ∧ W.heap[Bx]? = some (.cells #[.string x.1, .string x.2] 59 (0, 0)) ∧ a' = { tmps := #[.slice a L.length cap, .string p, undef, .pointer (some ⟨w.heap.size, 0, none⟩), .pointer (some ⟨w.heap.size + 1, 0, none⟩), .pointer (some ⟨w.heap.size + 1 + 1, 0, none⟩), .pointer (some ⟨Bx, 0, none⟩), .slice a L.length cap, .func (.func 71) #[] #[.pointer (some ⟨w.heap.size + 1 + 1 + 1, 0, none⟩)], .agg #[.string x.1, .string x.2], undef, undef, undef, undef, undef, undef, undef, undef], defers := [] })
    ?hAx ?assign ?body ?done ?stop
  case hI =>
    refine OwnFrom.and (Own.from (fun s A B row hs hg hr => ⟨hs.1, ?_, ?_, ?_, ?_⟩) _) (ownFrom_below (Nat.le_refl _) (by omega))
    · exact keep_obj hs.2.1 rfl hg hr
    · exact keep_obj hs.2.2.1 rfl hg hr
    · exact keep_obj hs.2.2.2.1 rfl hg hr
    · exact Nat.le_trans hs.2.2.2.2 hg.size
  case hIx =>
    intro c
    refine OwnFrom.and (Own.from (fun s A B row hs hg hr => ?_) _) (ownFrom_below (Nat.le_refl _) (by omega))
    obtain ⟨rfl, q, x, rfl, h1, h2, h3, h4⟩ := hs
    exact ⟨rfl, q, x, rfl, h1, h2, keep_obj h3 rfl hg hr, keep_obj h4 rfl hg hr⟩
  case hAx =>
    rintro x a' _ A B row ⟨Bx, h1, h2, h3⟩ hg hr
    exact ⟨Bx, h1, keep_obj h2 rfl hg (fun r e => (hr r e).2), h3⟩
  case assign =>
    rintro l pre x W K ⟨⟨hp, c0, c1, c2, hsz⟩, hB⟩ hK
    gi_wp2
    exact hK _ _ ((KeepsOthers.alloc _ _).from _) ((Below.refl _ W).alloc hsz _) ⟨⟨hp, c0.alloc _, c1.alloc _, c2.alloc _, by simp; omega⟩, hB.alloc hB.size _⟩ ⟨W.heap.size, hsz, World.alloc_heap_new W _, rfl⟩
  case body =>
    rintro l pre x a' W hl ⟨r, hr⟩ ⟨⟨hp, c0, c1, c2, hsz⟩, hB⟩ ⟨Bx, hBx, bX, rfl⟩ hlt
    have hx1 : W.cell? ⟨Bx, 0, none⟩ = some (.string x.1) := by simp [World.cell?, bX]
    have hx2 : W.cell? ⟨Bx, 1, none⟩ = some (.string x.2) := by simp [World.cell?, bX]
    have d0 := c0.cell
    have d1 := c1.cell
    have d2 := c2.cell
    have f1 := c1.frozen
    have f2 := c2.frozen
    cases hq : (x.1.toList == p.toList)
    · gi_wp2
      exact ⟨(KeepsOthers.refl _).from _, Below.refl _ _, ⟨fun y hy => (List.mem_append.1 hy).elim (hp y) (fun e => by simp at e; subst e; exact hq), c0, c1, c2, hsz⟩, hB⟩
    · gi_wp2
      exact ⟨((KeepsOthers.setCell _ _ _).trans (KeepsOthers.setCell _ _ _)).from _, ⟨rfl, pre, x, rfl, hp, hq, (c1.set _).other (by omega) _, Boxed.set _ (c2.other (by omega) _)⟩, (hB.setCell (p := ⟨w.heap.size + 1, 0, none⟩) (by simp) _).setCell (p := ⟨w.heap.size + 1 + 1, 0, none⟩) (by simp; omega) _⟩
  case done =>
    rintro D ys W hD rfl ⟨⟨hp, c0, c1, c2, hsz⟩, hB⟩ hK
    have HF : Hid _ := space_done hp
    have d0 := c0.cell
    have d1 := c1.cell
    have d2 := c2.cell
    have f1 := c1.frozen
    have f2 := c2.frozen
    clear hp
    clear b0 b1 b2 b3 hPB
    gi_wp2
    gi_region
    all_goals
      have HK : Hid (((W.setCell ⟨w.heap.size + 1, 0, none⟩ (.string ⟨#[]⟩)).setCell ⟨w.heap.size + 1 + 1, 0, none⟩ (.bool p.toList.isEmpty)).drew.heap[D]? = some (.deferred (some []))) := (((KeepsOthers.setCell _ _ _).trans (KeepsOthers.setCell _ _ _)).same D _ hK rfl : ((W.setCell ⟨w.heap.size + 1, 0, none⟩ (.string ⟨#[]⟩)).setCell ⟨w.heap.size + 1 + 1, 0, none⟩ (.bool p.toList.isEmpty)).heap[D]? = _)
      have HB : Hid (Below w.heap.size w ((W.setCell ⟨w.heap.size + 1, 0, none⟩ (.string ⟨#[]⟩)).setCell ⟨w.heap.size + 1 + 1, 0, none⟩ (.bool p.toList.isEmpty)).drew) := ((hB.setCell (p := ⟨w.heap.size + 1, 0, none⟩) (by simp) _).setCell (p := ⟨w.heap.size + 1 + 1, 0, none⟩) (by simp; omega) _).drew
      have g1 : Boxed ((W.setCell ⟨w.heap.size + 1, 0, none⟩ (.string ⟨#[]⟩)).setCell ⟨w.heap.size + 1 + 1, 0, none⟩ (.bool p.toList.isEmpty)).drew (w.heap.size + 1) 9 (.string ⟨#[]⟩) := (c1.set _).other (by omega) _
      have g2 : Boxed ((W.setCell ⟨w.heap.size + 1, 0, none⟩ (.string ⟨#[]⟩)).setCell ⟨w.heap.size + 1 + 1, 0, none⟩ (.bool p.toList.isEmpty)).drew (w.heap.size + 1 + 1) 4 (.bool p.toList.isEmpty) := Boxed.set _ (c2.other (by omega) _)
      have HG1 : Hid _ := g1
      have HG2 : Hid _ := g2
      clear g1 g2
      generalize ((W.setCell ⟨w.heap.size + 1, 0, none⟩ (.string ⟨#[]⟩)).setCell ⟨w.heap.size + 1 + 1, 0, none⟩ (.bool p.toList.isEmpty)).drew = W5 at HK HB HG1 HG2 ⊢
      clear hK hB c0 c1 c2 d0 d1 d2 f1 f2
      gi_wp2
      refine ⟨by simp, .inl ⟨_, _, rfl, run_takeDeferred HK.out, ?_⟩⟩
      have e1 := Boxed.cell (keep_obj HG1.out rfl (grownBy_putObj' _ D (.deferred none)) (fun r e => by cases e; exact ⟨_, HK.out, rfl⟩))
      have e2 := Boxed.cell (keep_obj HG2.out rfl (grownBy_putObj' _ D (.deferred none)) (fun r e => by cases e; exact ⟨_, HK.out, rfl⟩))
      refine ⟨.tuple #[.string ⟨#[]⟩, .bool p.toList.isEmpty], ?_, ret_sb HF.out, HB.out.trans (belowK_b (w := w) (Nat.le_refl _) W5 D _ _ (by omega) HK.out rfl rfl)⟩
      simp [results, Tryz.f40, go_sem, e1, e2]
  case stop =>
    rintro D c pre W hD ⟨k, hk, rfl⟩ ⟨⟨rfl, q, x, he, hq, hx, c1, c2⟩, hB⟩ hK
    have HF : Hid _ := space_stop hk he hq hx
    have d1 := c1.cell
    have d2 := c2.cell
    gi_wp2
    refine ⟨by simp, .inl ⟨_, _, rfl, run_takeDeferred hK, ?_⟩⟩
    have e1 := Boxed.cell (keep_obj c1 rfl (grownBy_putObj' _ D (.deferred none)) (fun r e => by cases e; exact ⟨_, hK, rfl⟩))
    have e2 := Boxed.cell (keep_obj c2 rfl (grownBy_putObj' _ D (.deferred none)) (fun r e => by cases e; exact ⟨_, hK, rfl⟩))
    refine ⟨.tuple #[.string x.2, .bool true], ?_, ret_sb HF.out, hB.trans (belowK_b (w := w) (Nat.le_refl _) W D _ _ (by omega) hK rfl rfl)⟩
    simp [results, Tryz.f40, go_sem, e1, e2]
theorem impl_space (a : Option Addr) (L : List Pair) (cap : Nat) (p : ByteArray) (w : World) (hL : PairsAt w a L) : Calls Tryz.prog 40 #[.slice a L.length cap, .string p] w fun e w' => e = .returned (sb (spaceR L p)) ∧ Below w.heap.size w w' :=
  (callsIn_wide (n := 3)).1 (space_in Fence.wide 3 trivial trivial trivial rfl (Nat.le_refl _) a L cap p w hL)
end Go.Proofs.YtglcjaedmmknpaaGreatDoor.scopes
