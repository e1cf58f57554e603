/-
  Rows of Defs that are owned; the laws' marks in them: laid, and found again.
-/
import Derived.Test.YtdpbiaomhndpcaaDoorDefFns
import Derived.Test.YtdpbiaomhndpcaaDoorOwnB
import Derived.Test.YtdpbiaomhndpcaaDoorPairMarkL
namespace Go.Proofs.YtdpbiaomhndpcaaDoor.heads
open Go.ChangeShapes Go.WideShapes Go.ChangeAt Go.RowKit
open marks (markT)
open trees (Bset Out Inc Apart)
set_option linter.unusedVariables false
def DFit (L : List Df) : Prop := L.length ≤ maxLen ∧ ∀ i, i < L.length → (df0 L i).fits
def OwnF (w : World) (a : Option Addr) (L : List Df) (F : Bset) : Prop := 0 < L.length → ∃ g, a = some ⟨g, 0, none⟩ ∧ F g ∧ MadeF w g L L.length
theorem madeF_out {w w' : World} {G : Bset} {g : Nat} {L : List Df} {k : Nat} (h : MadeF w g L k) (ho : Out G w w') (hg : ¬ G g) : MadeF w' g L k := by
  obtain ⟨cur, t, h1, h2, h3⟩ := h.all
  exact ⟨cur, t, (ho.block g (pairs.lt_heap h1) hg).trans h1, h2, h3⟩
theorem OwnF.out {w w' : World} {a : Option Addr} {L : List Df} {F G : Bset} (h : OwnF w a L F) (ho : Out G w w') (hd : Apart F G) : OwnF w' a L F := fun h0 => by
  obtain ⟨g, ha, hf, hm⟩ := h h0
  exact ⟨g, ha, hf, madeF_out hm ho (hd g hf)⟩
theorem OwnF.sub {w : World} {a : Option Addr} {L : List Df} {F G : Bset} (h : OwnF w a L F) (hs : Inc F G) : OwnF w a L G := fun h0 => by
  obtain ⟨g, ha, hf, hm⟩ := h h0
  exact ⟨g, ha, hs g hf, hm⟩
theorem OwnF.at {w : World} {a : Option Addr} {L : List Df} {F : Bset} (h : OwnF w a L F) (hf : DFit L) : DfsAt w a L := by
  by_cases h0 : 0 < L.length
  · obtain ⟨g, rfl, _, hm⟩ := h h0
    exact hm.dfs hf.1 hf.2
  · exact ⟨fun h => absurd h h0, hf.1, hf.2⟩
theorem DfsAt.fit {w : World} {a : Option Addr} {L : List Df} (h : DfsAt w a L) : DFit L := ⟨h.short, h.texts⟩
/-! ### Marks -/
theorem mark_m (k : Nat) (z : Int) (hz : z = k) (hk : k ≤ 1000000000) (w : World) : Calls Tryd.prog 38 #[.int .i64 z] w fun e w' => e = .returned (.string (markT k)) ∧ Below w.heap.size w w' := by subst hz; exact marks.mark_text k w hk
def bit (k : Nat) : Bool := ((k : Int) % 3 == 0)
def markF (k : Nat) : Df := ⟨markT k, markT (k + 1), bit (k + 2), bit (k + 3), markT (k + 4)⟩
def marksF (k n : Nat) : List Df := (List.range n).map fun i => markF (k + 5 * i)
theorem marksF_len (k n : Nat) : (marksF k n).length = n := by simp [marksF]
theorem marksF_at (k n i : Nat) (hi : i < n) : df0 (marksF k n) i = markF (k + 5 * i) := by simp [marksF, df0, List.getD, hi]
/-- The first i of a row of Defs are marks. -/
structure AtF (w : World) (g n k i : Nat) (cur : Array Value) (t : TypeId) : Prop where
  blk : w.heap[g]? = some (.cells cur t (0, 0))
  room : n * 5 ≤ cur.size
  done : ∀ j, j < i → cur[j * 5]? = some (.string (markT (k + 5 * j))) ∧ cur[j * 5 + 1]? = some (.string (markT (k + 5 * j + 1))) ∧ cur[j * 5 + 2]? = some (.bool (bit (k + 5 * j + 2))) ∧ cur[j * 5 + 3]? = some (.bool (bit (k + 5 * j + 3))) ∧ cur[j * 5 + 4]? = some (.string (markT (k + 5 * j + 4)))
theorem AtF.below {w w' : World} {g n k i : Nat} {cur : Array Value} {t : TypeId} (h : AtF w g n k i cur t) (hb : Below w.heap.size w w') : AtF w' g n k i cur t := ⟨(hb.block g (pairs.lt_heap h.blk)).trans h.blk, h.room, h.done⟩
theorem AtF.set {w : World} {g n k i : Nat} {cur : Array Value} {t : TypeId} (h : AtF w g n k i cur t) (q : Nat) (u : Value) : AtF (w.setCell ⟨g, i * 5 + q, none⟩ u) g n k i (cur.setIfInBounds (i * 5 + q) u) t := by
  refine ⟨pairs.block_set _ h.blk, by simpa using h.room, fun j hj => ?_⟩
  obtain ⟨a1, a2, a3, a4, a5⟩ := h.done j hj
  exact ⟨by rw [Array.getElem?_setIfInBounds_ne (by omega)]; exact a1, by rw [Array.getElem?_setIfInBounds_ne (by omega)]; exact a2, by rw [Array.getElem?_setIfInBounds_ne (by omega)]; exact a3, by rw [Array.getElem?_setIfInBounds_ne (by omega)]; exact a4, by rw [Array.getElem?_setIfInBounds_ne (by omega)]; exact a5⟩
theorem AtF.five {w : World} {g n k i : Nat} {cur : Array Value} {t : TypeId} (hi : i < n) (h : AtF w g n k i (((((cur.setIfInBounds (i * 5) (.string (markT (k + 5 * i)))).setIfInBounds (i * 5 + 1) (.string (markT (k + 5 * i + 1)))).setIfInBounds (i * 5 + 2) (.bool (bit (k + 5 * i + 2)))).setIfInBounds (i * 5 + 3) (.bool (bit (k + 5 * i + 3)))).setIfInBounds (i * 5 + 4) (.string (markT (k + 5 * i + 4)))) t) : ∃ cur', AtF w g n k (i + 1) cur' t := by
  refine ⟨_, h.blk, h.room, fun j hj => ?_⟩
  have hr := h.room
  simp only [Array.size_setIfInBounds] at hr
  by_cases e : j = i
  · subst e
    refine ⟨?_, ?_, ?_, ?_, ?_⟩
    all_goals
      repeat rw [Array.getElem?_setIfInBounds_ne (by omega)]
      rw [Array.getElem?_setIfInBounds_self_of_lt (by first | omega | (simp only [Array.size_setIfInBounds]; omega))]
  · exact h.done j (by omega)
set_option maxRecDepth 100000 in
set_option maxHeartbeats 8000000 in
theorem mark_rowF (w : World) (g n cap k : Nat) (cur : Array Value) (ty : TypeId) (hn : n ≤ 4000000) (hk : k ≤ 100000000) (hM : AtF w g n k 0 cur ty) :
    Calls Tryd.prog 37 #[.slice (some ⟨g, 0, none⟩) n cap, .int .i64 k] w fun e w' => e = .returned (.int .i64 ((k + 5 * n : Nat) : Int)) ∧ (∃ cur', AtF w' g n k n cur' ty) ∧ w.grownBy w' (some g) := by
  have HM : Hid _ := hM
  clear hM
  go_enter Tryd.func37, Tryd.ntmps37
  go_wp2
  go_loopw [1, 5] (fun q t wr => ∃ (i : Nat) (c : Array Value), i ≤ n ∧ t = .int .i64 i ∧ q = .int .i64 ((k + 5 * i : Nat) : Int) ∧ Hid (AtF wr g n k i c ty) ∧ Hid (w.grownBy wr (some g))) (fun _ t _ => n - (intOf t).toNat)
  case atStart => exact ⟨0, _, Nat.zero_le _, rfl, rfl, HM, pairs.grown_refl _ _⟩
  case round =>
    obtain ⟨i, c, hi, rfl, rfl, hm, hgr⟩ := hrel
    by_cases hlt : i < n
    · have hr := hm.out.room
      go_wp2_with fail
      refine (mark_m (k + 5 * i) _ (by omega) (by omega) _).mono ?_
      rintro e w2 ⟨rfl, hb2⟩
      have H2 : Hid _ := hm.out.below hb2
      have G2 : Hid _ := pairs.grown_trans hgr.out (pairs.grown_below (g := g) hb2)
      obtain ⟨hc, hf⟩ := pairs.blk_cell (i := i * 5) H2.out.blk (by omega)
      have S2 : Hid _ := H2.out.set 0 (.string (markT (k + 5 * i)))
      have T2 : Hid _ := pairs.grown_trans G2.out (pairs.grown_set w2 g (i * 5) (.string (markT (k + 5 * i))))
      clear hb2 H2 G2
      go_wp2_with fail
      refine (mark_m (k + 5 * i + 1) _ (by omega) (by omega) _).mono ?_
      rintro e w3 ⟨rfl, hb3⟩
      have H3 : Hid _ := S2.out.below hb3
      have G3 : Hid _ := pairs.grown_trans T2.out (pairs.grown_below (g := g) hb3)
      clear hc hf
      obtain ⟨hc, hf⟩ := pairs.blk_cell (i := i * 5 + 1) H3.out.blk (by simp; omega)
      have S3 : Hid _ := H3.out.set 1 (.string (markT (k + 5 * i + 1)))
      have T3 : Hid _ := pairs.grown_trans G3.out (pairs.grown_set w3 g (i * 5 + 1) (.string (markT (k + 5 * i + 1))))
      obtain ⟨y2, hy2⟩ : ∃ y, bit (k + 5 * i + 2) = y := ⟨_, rfl⟩
      obtain ⟨y3, hy3⟩ : ∃ y, bit (k + 5 * i + 3) = y := ⟨_, rfl⟩
      have q2 : (((k : Int) + 5 * (i : Int) + 1 + 1) % 3 == 0) = y2 := by rw [← hy2]; unfold bit; rw [show ((k + 5 * i + 2 : Nat) : Int) = (k : Int) + 5 * (i : Int) + 1 + 1 by omega]
      have q3 : (((k : Int) + 5 * (i : Int) + 1 + 1 + 1) % 3 == 0) = y3 := by rw [← hy3]; unfold bit; rw [show ((k + 5 * i + 3 : Nat) : Int) = (k : Int) + 5 * (i : Int) + 1 + 1 + 1 by omega]
      have HY : Hid (bit (k + 5 * i + 2) = y2 ∧ bit (k + 5 * i + 3) = y3) := ⟨hy2, hy3⟩
      have S4 : Hid _ := S3.out.set 2 (.bool y2)
      have T4 : Hid _ := pairs.grown_trans T3.out (pairs.grown_set _ g (i * 5 + 2) (.bool y2))
      have S5 : Hid _ := S4.out.set 3 (.bool y3)
      have T5 : Hid _ := pairs.grown_trans T4.out (pairs.grown_set _ g (i * 5 + 3) (.bool y3))
      obtain ⟨hc2, hf2⟩ := pairs.blk_cell (i := i * 5 + 2) S3.out.blk (by simp; omega)
      obtain ⟨hc3, hf3⟩ := pairs.blk_cell (i := i * 5 + 3) S4.out.blk (by simp; omega)
      clear hb3 H3 G3 S2 T2 S3 T3 S4 T4 hy2 hy3
      go_wp2_with fail
      refine (mark_m (k + 5 * i + 4) _ (by omega) (by omega) _).mono ?_
      rintro e w4 ⟨rfl, hb4⟩
      have H4 : Hid _ := S5.out.below hb4
      have G4 : Hid _ := pairs.grown_trans T5.out (pairs.grown_below (g := g) hb4)
      clear hc hf hc2 hf2 hc3 hf3
      obtain ⟨hc, hf⟩ := pairs.blk_cell (i := i * 5 + 4) H4.out.blk (by simp; omega)
      have S6 : Hid _ := H4.out.set 4 (.string (markT (k + 5 * i + 4)))
      have T6 : Hid _ := pairs.grown_trans G4.out (pairs.grown_set w4 g (i * 5 + 4) (.string (markT (k + 5 * i + 4))))
      clear hb4 H4 G4 S5 T5
      obtain ⟨c', hc'⟩ := AtF.five hlt (by rw [HY.out.1, HY.out.2]; exact S6.out)
      have HC : Hid _ := hc'
      clear hc' S6
      go_wp2
      go_roundw
      case rel => exact ⟨i + 1, c', by omega, by go_num, (by congr 1), HC.out, T6.out⟩
      case measure => simp [intOf]; omega
    · obtain rfl : i = n := by omega
      go_wp2
      go_ret
      exact ⟨rfl, ⟨_, hm.out⟩, hgr.out⟩
set_option maxRecDepth 100000 in
theorem mark_empF (a : Option Addr) (cap k : Nat) (w : World) : Calls Tryd.prog 37 #[.slice a 0 cap, .int .i64 k] w fun e w' => e = .returned (.int .i64 k) ∧ w' = w := by
  go_enter Tryd.func37, Tryd.ntmps37
  go_wp2
  go_loop [1, 5] (fun q t => q = .int .i64 (k : Int) ∧ t = .int .i64 0) (fun _ _ => 0)
  case atStart => exact ⟨rfl, rfl⟩
  case round =>
    obtain ⟨rfl, rfl⟩ := hrel
    go_wp2
    go_ret
    exact ⟨rfl, rfl⟩
/-- Marks in an owned row of Defs. -/
theorem mark_ownF (w : World) (a : Option Addr) (L : List Df) (cap k : Nat) (z : Int) (F : Bset) (hz : z = k) (hn : L.length ≤ 4000000) (hk : k ≤ 100000000) (hL : OwnF w a L F) :
    Calls Tryd.prog 37 #[.slice a L.length cap, .int .i64 z] w fun e w' => e = .returned (.int .i64 ((k + 5 * L.length : Nat) : Int)) ∧ OwnF w' a (marksF k L.length) F ∧ Out F w w' := by
  subst hz
  by_cases h0 : 0 < L.length
  · obtain ⟨g, rfl, hg, hm⟩ := hL h0
    obtain ⟨cur, ty, h1, h2, h3⟩ := hm.all
    refine (mark_rowF w g L.length cap k cur ty hn hk ⟨h1, h2, fun j hj => by omega⟩).mono ?_
    rintro e w' ⟨rfl, ⟨cur', hm⟩, hgr⟩
    refine ⟨rfl, fun _ => ⟨g, rfl, hg, cur', ty, hm.blk, by rw [marksF_len]; exact hm.room, fun j hj => ?_⟩, Out.grown hgr hg⟩
    rw [marksF_len] at hj
    rw [marksF_at _ _ _ hj]
    exact hm.done j hj
  · have e0 : L = [] := List.length_eq_zero_iff.1 (by omega)
    subst e0
    refine (mark_empF a cap k w).mono ?_
    rintro e w' ⟨rfl, rfl⟩
    exact ⟨rfl, fun h => absurd h (by simp [marksF]), Out.refl _ _⟩
end Go.Proofs.YtdpbiaomhndpcaaDoor.heads
