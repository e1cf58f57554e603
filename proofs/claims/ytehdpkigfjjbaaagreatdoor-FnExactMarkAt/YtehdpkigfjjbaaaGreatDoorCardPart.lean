/-
  At every text, place and list the law FnExactMarkAt returns true: MarkAt answers as its specification at every argument, writes nothing into the list, keeps nothing of it, and its answer owns its memory, the program's tables being what its text lays, utf8's table what Go pins (the tied card). No condition.
  The frame is after the kit's guide (MapyProofs, UptoLaidToy); the walk is ours.
  (Texts of ours laid as one: PairRaw, PairMarkL, PairMarksRaw, MarkFns, ErrLaid, PairEnt, PairMarksEnt, CardMarkAt.)
-/
import Derived.Test.YtehdpkigfjjbaaaGreatDoorPairs
import Derived.Test.YtehdpkigfjjbaaaGreatDoorQuiet
import Derived.Deep.SlicePairs
import Derived.Lib.SmallJoins
import Derived.Test.YtehdpkigfjjbaaaGreatDoorMarkText
import Derived.Test.YtehdpkigfjjbaaaGreatDoorSpecPart
import Derived.Test.YtehdpkigfjjbaaaGreatDoorParseUint
import Derived.Stop.LaidErr
import Derived.Test.YtehdpkigfjjbaaaGreatDoorCards
import Derived.Test.YtehdpkigfjjbaaaGreatDoorTie
import Derived.Test.YtehdpkigfjjbaaaGreatDoorReadPart
import Derived.WalkKit
import Derived.ProofKit
import Derived.OpenShut
import Derived.ShutString
import Derived.ChangeOld
import Derived.Below
import Derived.LaidMore
import Derived.OpenVars
import Derived.Stop.Joined
namespace Go.Proofs.YtehdpkigfjjbaaaGreatDoor.pairs
open Go.ChangeShapes Go.WideShapes Go.ChangeAt Go.RowKit
set_option linter.unusedVariables false
set_option maxHeartbeats 1000000 in
theorem eq_Raw (n v : ByteArray) (w : World) : Calls Tryz.prog 47 #[.agg #[.string n, .string v], .agg #[.string n, .string v]] w fun e w' => e = .returned (.bool true) ∧ Below w.heap.size w w' := by
  go_enter Tryz.func47, Tryz.ntmps47
  go_wp2
  go_ret
  exact ⟨rfl, ((Below.refl _ _).alloc (Nat.le_refl _) _).alloc (by simp) _⟩
set_option maxRecDepth 100000 in
set_option maxHeartbeats 2000000 in
theorem eq_RawS (w : World) (a a' : Option Addr) (L : List Pair) (cap cap' : Nat) (hL : Hid (PairsAt w a L)) (hL' : Hid (PairsAt w a' L)) :
    Calls Tryz.prog 22 #[.slice a L.length cap, .slice a' L.length cap'] w fun e w' => e = .returned (.bool true) ∧ Below w.heap.size w w' := by
  have hlen := hL.out.short
  unfold maxLen at hlen
  go_enter Tryz.func22, Tryz.ntmps22
  go_wp2
  go_loopw [5] (fun t wr => ∃ (k : Nat), k ≤ L.length ∧ t = .int .i64 k ∧ Hid (Below w.heap.size w wr)) (fun t _ => L.length - (intOf t).toNat)
  case atStart => exact ⟨0, Nat.zero_le _, rfl, Below.refl _ _⟩
  case round =>
    obtain ⟨k, hk, rfl, hbw⟩ := hrel
    by_cases hlt : k < L.length
    · obtain ⟨b, off, ha, hblt, hc⟩ := (hL.out.below (Nat.le_refl _) hbw.out).row (by omega)
      obtain ⟨b', off', ha', hblt', hc'⟩ := (hL'.out.below (Nat.le_refl _) hbw.out).row (by omega)
      obtain ⟨hc1, hc2⟩ := hc k hlt
      obtain ⟨hc1', hc2'⟩ := hc' k hlt
      subst ha ha'
      generalize (at0 L k).1 = n at hc1 hc1'
      generalize (at0 L k).2 = v at hc2 hc2'
      clear hc hc'
      have hl : ∀ W, Below wr.heap.size wr W → W.cell? ⟨b, off + k * 2, none⟩ = some (.string n) ∧ W.cell? ⟨b, off + k * 2 + 1, none⟩ = some (.string v) := fun W h => ⟨(h.cell (p := ⟨b, off + k * 2, none⟩) hblt).trans hc1, (h.cell (p := ⟨b, off + k * 2 + 1, none⟩) hblt).trans hc2⟩
      have hl' : ∀ W, Below wr.heap.size wr W → W.cell? ⟨b', off' + k * 2, none⟩ = some (.string n) ∧ W.cell? ⟨b', off' + k * 2 + 1, none⟩ = some (.string v) := fun W h => ⟨(h.cell (p := ⟨b', off' + k * 2, none⟩) hblt').trans hc1', (h.cell (p := ⟨b', off' + k * 2 + 1, none⟩) hblt').trans hc2'⟩
      go_wp2_with fail
      refine quiets.wp_region_below (by kernel_rfl) (by kernel_rfl) ?_
      repeat (go_big_quiet_step ((first | (intro hq; rfl) | (intro hq; simp [go_sem, (hl _ hq).1, (hl _ hq).2]; rfl) | (intro hq; simp [go_sem, (hl' _ hq).1, (hl' _ hq).2]; rfl) | (intro hq; exact quiets.below_call (eq_Raw _ _ _) hq))))
      refine wpQuiet_nil ?_
      intro w6 hb6
      have HB6 : Hid _ := hbw.out.trans (hb6.mono hbw.out.size)
      clear hb6 hl hl'
      go_wp2
      go_roundw
      case rel => exact ⟨k + 1, by omega, by go_num, HB6.out⟩
      case measure => simp [intOf]; omega
    · go_wp2
      go_ret
      exact ⟨rfl, hbw.out⟩
end Go.Proofs.YtehdpkigfjjbaaaGreatDoor.pairs
namespace Go.Proofs.YtehdpkigfjjbaaaGreatDoor.pairs
open Go.ChangeShapes Go.WideShapes Go.ChangeAt Go.RowKit
open marks (markT)
set_option linter.unusedVariables false
def marksL (k n : Nat) : List Pair := (List.range n).map fun i => (markT (k + 2 * i), markT (k + 2 * i + 1))
theorem marks_len (k n : Nat) : (marksL k n).length = n := by simp [marksL]
theorem marks_at (k n i : Nat) (hi : i < n) : at0 (marksL k n) i = (markT (k + 2 * i), markT (k + 2 * i + 1)) := by simp [marksL, at0, List.getD, hi]
theorem mark_next (k i : Nat) (h : k + 2 * i + 1 ≤ 1000000000) (w : World) : Calls Tryz.prog 24 #[.int .i64 ((k : Int) + 2 * (i : Int) + 1)] w fun e w' => e = .returned (.string (markT (k + 2 * i + 1))) ∧ Below w.heap.size w w' := by
  have := marks.mark_text (k + 2 * i + 1) w h
  rw [show ((k + 2 * i + 1 : Nat) : Int) = (k : Int) + 2 * (i : Int) + 1 by omega] at this
  exact this
theorem mark_first (k i : Nat) (h : k + 2 * i ≤ 1000000000) (w : World) : Calls Tryz.prog 24 #[.int .i64 ((k : Int) + 2 * (i : Int))] w fun e w' => e = .returned (.string (markT (k + 2 * i))) ∧ Below w.heap.size w w' := by
  have := marks.mark_text (k + 2 * i) w h
  rw [show ((k + 2 * i : Nat) : Int) = (k : Int) + 2 * (i : Int) by omega] at this
  exact this
theorem made_marks {w : World} {g n k i : Nat} {cur : Array Value} {t : TypeId} (hg : w.heap[g]? = some (.cells cur t (0, 0))) (hs : n * 2 ≤ cur.size) (hi : i < n) (hj : ∀ j, j < i → cur[j * 2]? = some (.string (at0 (marksL k n) j).1) ∧ cur[j * 2 + 1]? = some (.string (at0 (marksL k n) j).2))
    (h1 : cur[i * 2]? = some (.string (markT (k + 2 * i)))) : Made (w.setCell ⟨g, i * 2 + 1, none⟩ (.string (markT (k + 2 * i + 1)))) g (marksL k n) (i + 1) := by
  refine ⟨_, t, block_set _ hg, by rw [marks_len]; simpa using hs, fun j hj' => ?_⟩
  by_cases e : j = i
  · subst e
    rw [marks_at k n j hi]
    exact ⟨by rw [Array.getElem?_setIfInBounds_ne (by omega)]; exact h1, by rw [Array.getElem?_setIfInBounds_self_of_lt (by omega)]⟩
  · obtain ⟨a1, a2⟩ := hj j (by omega)
    exact ⟨by rw [Array.getElem?_setIfInBounds_ne (by omega)]; exact a1, by rw [Array.getElem?_setIfInBounds_ne (by omega)]; exact a2⟩
theorem set_keeps {cur : Array Value} {n k i : Nat} {u : Value} (hj : ∀ j, j < i → cur[j * 2]? = some (.string (at0 (marksL k n) j).1) ∧ cur[j * 2 + 1]? = some (.string (at0 (marksL k n) j).2)) : ∀ j, j < i → (cur.setIfInBounds (i * 2) u)[j * 2]? = some (.string (at0 (marksL k n) j).1) ∧ (cur.setIfInBounds (i * 2) u)[j * 2 + 1]? = some (.string (at0 (marksL k n) j).2) := fun j hj' => by
  obtain ⟨a1, a2⟩ := hj j hj'
  exact ⟨by rw [Array.getElem?_setIfInBounds_ne (by omega)]; exact a1, by rw [Array.getElem?_setIfInBounds_ne (by omega)]; exact a2⟩
end Go.Proofs.YtehdpkigfjjbaaaGreatDoor.pairs
namespace Go.Proofs.YtehdpkigfjjbaaaGreatDoor.pairs
open Go.ChangeShapes Go.WideShapes Go.ChangeAt Go.RowKit
open marks (markT)
set_option linter.unusedVariables false
set_option maxRecDepth 100000 in
set_option maxHeartbeats 4000000 in
theorem mark_RawS (w : World) (g n cap k : Nat) (hn : n ≤ 4000000) (hk : k ≤ 100000000) (hM : Hid (Made w g (marksL k n) 0)) :
    Calls Tryz.prog 25 #[.slice (some ⟨g, 0, none⟩) n cap, .int .i64 k] w fun e w' => e = .returned (.int .i64 ((k + 2 * n : Nat) : Int)) ∧ Made w' g (marksL k n) n ∧ w.grownBy w' (some g) := by
  go_enter Tryz.func25, Tryz.ntmps25
  go_wp2
  go_loopw [1, 5] (fun q t wr => ∃ i : Nat, i ≤ n ∧ t = .int .i64 i ∧ q = .int .i64 ((k + 2 * i : Nat) : Int) ∧ Hid (Made wr g (marksL k n) i) ∧ Hid (w.grownBy wr (some g))) (fun _ t _ => n - (intOf t).toNat)
  case atStart => exact ⟨0, Nat.zero_le _, rfl, rfl, hM, grown_refl _ _⟩
  case round =>
    obtain ⟨i, hi, rfl, rfl, hm, hgr⟩ := hrel
    by_cases hlt : i < n
    · obtain ⟨cur, t, hg, hs, hj⟩ := hm.out
      rw [marks_len] at hs
      have H1 : Hid (∀ w, _) := fun w => marks.mark_text (k + 2 * i) w (by omega)
      have H2 : Hid (∀ w, _) := mark_next k i (by omega)
      have HJ : Hid _ := hj
      have HG : Hid _ := hg
      clear hg hj hm
      go_wp2_with fail
      refine (H1.out _).mono ?_
      rintro e w2 ⟨rfl, hb2⟩
      have hg2 := (hb2.block g (lt_heap HG.out)).trans HG.out
      obtain ⟨hc1, hf1⟩ := blk_cell (i := i * 2) hg2 (by omega)
      have HG2 : Hid _ := hg2
      have HR2 : Hid _ := grown_trans hgr.out (grown_below (g := g) hb2)
      clear hb2 hg2
      go_wp2_with fail
      refine (H2.out _).mono ?_
      rintro e w3 ⟨rfl, hb3⟩
      have hg3 := (hb3.block g (lt_heap (block_set _ HG2.out))).trans (block_set (.string (markT (k + 2 * i))) HG2.out)
      obtain ⟨hc2, hf2⟩ := blk_cell (i := i * 2 + 1) hg3 (by simp; omega)
      have HMD : Hid _ := made_marks hg3 (by simp; omega) hlt (set_keeps HJ.out) (by rw [Array.getElem?_setIfInBounds_self_of_lt (by omega)])
      have HR3 : Hid _ := grown_trans (grown_trans HR2.out (grown_set _ _ _ _)) (grown_below (g := g) hb3)
      clear hb3 hg3 hc1 hf1
      go_wp2
      go_roundw
      case rel => exact ⟨i + 1, by omega, by go_num, (by congr 1), HMD.out, grown_trans HR3.out (grown_set _ _ _ _)⟩
      case measure => simp [intOf]; omega
    · obtain rfl : i = n := by omega
      go_wp2
      go_ret
      exact ⟨rfl, hm.out, hgr.out⟩
set_option maxRecDepth 100000 in
theorem mark_nil_Raw (k : Nat) (w : World) : Calls Tryz.prog 25 #[.slice none 0 0, .int .i64 k] w fun e w' => e = .returned (.int .i64 k) ∧ Below w.heap.size w w' := by
  go_enter Tryz.func25, Tryz.ntmps25
  go_wp2
  go_loop [1, 5] (fun q t => q = .int .i64 (k : Int) ∧ t = .int .i64 0) (fun _ _ => 0)
  case atStart => exact ⟨rfl, rfl⟩
  case round =>
    obtain ⟨rfl, rfl⟩ := hrel
    go_wp2
    go_ret
    exact ⟨rfl, Below.refl _ _⟩
set_option maxRecDepth 100000 in
theorem held_nil_Raw (k : Nat) (w : World) : Calls Tryz.prog 26 #[.slice none 0 0, .int .i64 k] w fun e w' => e = .returned (.int .i64 k) ∧ Below w.heap.size w w' := by
  go_enter Tryz.func26, Tryz.ntmps26
  go_wp2
  go_loop [1, 5] (fun q t => q = .int .i64 (k : Int) ∧ t = .int .i64 0) (fun _ _ => 0)
  case atStart => exact ⟨rfl, rfl⟩
  case round =>
    obtain ⟨rfl, rfl⟩ := hrel
    go_wp2
    go_ret
    exact ⟨rfl, Below.refl _ _⟩
set_option maxRecDepth 100000 in
set_option maxHeartbeats 4000000 in
theorem held_RawS (w : World) (g n cap k : Nat) (hn : n ≤ 4000000) (hk : k ≤ 100000000) (hM : Hid (Made w g (marksL k n) n)) :
    Calls Tryz.prog 26 #[.slice (some ⟨g, 0, none⟩) n cap, .int .i64 k] w fun e w' => e = .returned (.int .i64 ((k + 2 * n : Nat) : Int)) ∧ Below w.heap.size w w' := by
  go_enter Tryz.func26, Tryz.ntmps26
  go_wp2
  go_loopw [1, 5] (fun q t wr => ∃ i : Nat, i ≤ n ∧ t = .int .i64 i ∧ q = .int .i64 ((k + 2 * i : Nat) : Int) ∧ Hid (Below w.heap.size w wr)) (fun _ t _ => n - (intOf t).toNat)
  case atStart => exact ⟨0, Nat.zero_le _, rfl, rfl, Below.refl _ _⟩
  case round =>
    obtain ⟨i, hi, rfl, rfl, hbw⟩ := hrel
    by_cases hlt : i < n
    · obtain ⟨cur, t, hg, hs, hj⟩ := hM.out.below hbw.out
      obtain ⟨hj1, hj2⟩ := hj i hlt
      rw [marks_at k n i hlt] at hj1 hj2
      have h1 := mark_first k i (by omega)
      have h2 := mark_next k i (by omega)
      have hl1 : ∀ W, Below wr.heap.size wr W → W.cell? ⟨g, i * 2, none⟩ = some (.string (markT (k + 2 * i))) := fun W h => (h.cell (p := ⟨g, i * 2, none⟩) (lt_heap hg)).trans (by simp [World.cell?, hg, hj1])
      have hl2 : ∀ W, Below wr.heap.size wr W → W.cell? ⟨g, i * 2 + 1, none⟩ = some (.string (markT (k + 2 * i + 1))) := fun W h => (h.cell (p := ⟨g, i * 2 + 1, none⟩) (lt_heap hg)).trans (by simp [World.cell?, hg, hj2])
      clear hg hj hj1 hj2 hs
      go_wp2_with fail
      refine quiets.wp_region_below (by kernel_rfl) (by kernel_rfl) ?_
      repeat (go_big_quiet_step ((first | (intro hq; rfl) | (intro hq; simp [go_sem, hl1 _ hq]; rfl) | (intro hq; simp [go_sem]; try rfl) | (intro hq; exact quiets.below_call (h1 _) hq))))
      refine wpQuiet_nil ?_
      intro w4 hb4
      have HB4 : Hid _ := hbw.out.trans (hb4.mono hbw.out.size)
      have hl3 : ∀ W, Below w4.heap.size w4 W → W.cell? ⟨g, i * 2 + 1, none⟩ = some (.string (markT (k + 2 * i + 1))) := fun W h => hl2 W (hb4.trans (h.mono hb4.size))
      clear hb4 hl1 hl2 h1
      go_wp2_with fail
      refine quiets.wp_region_below (by kernel_rfl) (by kernel_rfl) ?_
      repeat (go_big_quiet_step ((first | (intro hq; rfl) | (intro hq; simp [go_sem, hl3 _ hq]; rfl) | (intro hq; simp [go_sem]; try rfl) | (intro hq; exact quiets.below_call (h2 _) hq))))
      refine wpQuiet_nil ?_
      intro w5 hb5
      have HB5 : Hid _ := HB4.out.trans (hb5.mono HB4.out.size)
      clear hb5 hl3 h2
      go_wp2
      go_roundw
      case rel => exact ⟨i + 1, by omega, by go_num, (by congr 1), HB5.out⟩
      case measure => simp [intOf]; omega
    · obtain rfl : i = n := by omega
      go_wp2
      go_ret
      exact ⟨rfl, hbw.out⟩
end Go.Proofs.YtehdpkigfjjbaaaGreatDoor.pairs
namespace Go.Proofs.YtehdpkigfjjbaaaGreatDoor.cuts
open Go.ChangeShapes Go.WideShapes Go.ChangeAt Go.RowKit
open pairs (Pair at0 PairsAt marksL)
open trees (Rng Out Bset)
set_option linter.unusedVariables false
theorem own_at {w : World} {ad : Option Addr} {R : List Pair} {F : Bset} (h : trees.OwnP w ad R F) (hR : RFit R) (hl : R.length ≤ 1048576) : PairsAt w ad R := trees.OwnP.at h ⟨by unfold maxLen; omega, hR.texts⟩
set_option maxRecDepth 100000 in
set_option maxHeartbeats 4000000 in
theorem eq_mk (m : MarkV) (a a' : Option Addr) (c c' : Nat) (w : World) (hP : PairsAt w a m.raws) (hP' : PairsAt w a' m.raws) : Calls Tryz.prog 8 #[mkV m a c, mkV m a' c'] w fun e w' => e = .returned (.bool true) ∧ Below w.heap.size w w' := by
  obtain ⟨k, n, R, b, x⟩ := m
  unfold mkV
  have HP : Hid (PairsAt w a R) := hP
  have HP' : Hid (PairsAt w a' R) := hP'
  have HB2 : Hid (∀ o o', Below w.heap.size w ((w.alloc o).alloc o')) := fun o o' => ((Below.refl _ _).alloc (Nat.le_refl _) o).alloc (by simp) o'
  clear hP hP'
  simp only
  go_enter Tryz.func8, Tryz.ntmps8
  go_wp2_with fail
  refine (pairs.eq_RawS _ a a' R c c' (HP.out.below (Nat.le_refl _) (HB2.out _ _)) (HP'.out.below (Nat.le_refl _) (HB2.out _ _))).mono ?_
  rintro e w1 ⟨rfl, hb⟩
  have HB1 : Hid (Below w.heap.size w w1) := (HB2.out _ _).trans (hb.mono (HB2.out _ _).size)
  have h1 := (hb.block _ (by simp; omega)).trans ((Below.heap_alloc _ _ _ (by simp)).trans (heap_alloc_new w (.cells #[.int .i64 k, .string n, .slice a R.length c, .bool b, .string x] 26)))
  have h2 := (hb.block _ (by simp)).trans (heap_alloc_new (w.alloc (.cells #[.int .i64 k, .string n, .slice a R.length c, .bool b, .string x] 26)) (.cells #[.int .i64 k, .string n, .slice a' R.length c', .bool b, .string x] 26))
  rw [World.size_alloc] at h2
  obtain ⟨⟨o0, o1, o2, o3, o4⟩, -⟩ := box5 h1
  obtain ⟨⟨p0, p1, p2, p3, p4⟩, -⟩ := box5 h2
  clear hb h1 h2
  go_wp2
  go_ret
  exact ⟨rfl, HB1.out⟩
set_option maxRecDepth 100000 in
theorem mark_zero (ad : Option Addr) (c k : Nat) (w : World) : Calls Tryz.prog 25 #[.slice ad 0 c, .int .i64 k] w fun e w' => e = .returned (.int .i64 k) ∧ Below w.heap.size w w' := by
  go_enter Tryz.func25, Tryz.ntmps25
  go_wp2
  go_loop [1, 5] (fun q t => q = .int .i64 (k : Int) ∧ t = .int .i64 0) (fun _ _ => 0)
  case atStart => exact ⟨rfl, rfl⟩
  case round =>
    obtain ⟨rfl, rfl⟩ := hrel
    go_wp2
    go_ret
    exact ⟨rfl, Below.refl _ _⟩
set_option maxRecDepth 100000 in
theorem held_zero (ad : Option Addr) (c k : Nat) (w : World) : Calls Tryz.prog 26 #[.slice ad 0 c, .int .i64 k] w fun e w' => e = .returned (.int .i64 k) ∧ Below w.heap.size w w' := by
  go_enter Tryz.func26, Tryz.ntmps26
  go_wp2
  go_loop [1, 5] (fun q t => q = .int .i64 (k : Int) ∧ t = .int .i64 0) (fun _ _ => 0)
  case atStart => exact ⟨rfl, rfl⟩
  case round =>
    obtain ⟨rfl, rfl⟩ := hrel
    go_wp2
    go_ret
    exact ⟨rfl, Below.refl _ _⟩
/-- The laws' marks in an owned row. -/
theorem mark_rows (w : World) (ad : Option Addr) (R : List Pair) (c k : Nat) (F : Bset) (hl : R.length ≤ 1048576) (hk : k ≤ 100000000) (h : trees.OwnP w ad R F) : Calls Tryz.prog 25 #[.slice ad R.length c, .int .i64 k] w fun e w' => e = .returned (.int .i64 ((k + 2 * R.length : Nat) : Int)) ∧ trees.OwnP w' ad (marksL k R.length) F ∧ Out F w w' := by
  by_cases h0 : 0 < R.length
  · obtain ⟨g, rfl, hF, hm⟩ := h h0
    refine (pairs.mark_RawS w g R.length c k (by omega) hk (hm.forget (pairs.marks_len _ _))).mono ?_
    rintro e w' ⟨he, hm', hg⟩
    exact ⟨he, fun _ => ⟨g, rfl, hF, by rw [pairs.marks_len]; exact hm'⟩, Out.grown hg hF⟩
  · have hz : R.length = 0 := by omega
    rw [hz]
    refine (mark_zero ad c k w).mono ?_
    rintro e w' ⟨he, hb⟩
    exact ⟨he, fun h => absurd h (by rw [pairs.marks_len]; exact Nat.lt_irrefl _), Out.of_below hb⟩
theorem held_rows (w : World) (ad : Option Addr) (n c k : Nat) (F : Bset) (hl : n ≤ 1048576) (hk : k ≤ 100000000) (h : trees.OwnP w ad (marksL k n) F) : Calls Tryz.prog 26 #[.slice ad n c, .int .i64 k] w fun e w' => e = .returned (.int .i64 ((k + 2 * n : Nat) : Int)) ∧ Below w.heap.size w w' := by
  by_cases h0 : 0 < n
  · obtain ⟨g, rfl, hF, hm⟩ := h (by rw [pairs.marks_len]; exact h0)
    rw [pairs.marks_len] at hm
    exact pairs.held_RawS w g n c k (by omega) hk hm
  · obtain rfl : n = 0 := by omega
    exact held_zero ad c k w
set_option maxRecDepth 100000 in
set_option maxHeartbeats 4000000 in
theorem mark_mk (m : MarkV) (ad : Option Addr) (c q : Nat) (F : Bset) (w : World) (hl : m.raws.length ≤ 1048576) (hq : 1 + 2 * m.raws.length = q) (h : trees.OwnP w ad m.raws F) : Calls Tryz.prog 11 #[mkV m ad c, .int .i64 1] w fun e w' => e = .returned (.int .i64 (q : Int)) ∧ trees.OwnP w' ad (marksL 1 m.raws.length) F ∧ Out F w w' := by
  obtain ⟨k, n, R, b, x⟩ := m
  unfold mkV
  simp only at *
  have HA : Hid (∀ o, Below w.heap.size w (w.alloc o)) := fun o => (Below.refl _ _).alloc (Nat.le_refl _) o
  have H1 : Hid (∀ W, trees.OwnP W ad R F → Calls Tryz.prog 25 #[.slice ad R.length c, .int .i64 1] W fun e w' => e = .returned (.int .i64 (q : Int)) ∧ trees.OwnP w' ad (marksL 1 R.length) F ∧ Out F W w') := fun W hh => by
    have := mark_rows W ad R c 1 F hl (by omega) hh
    rw [hq] at this
    exact this
  have HO : Hid (∀ o, trees.OwnP (w.alloc o) ad R F) := fun o => trees.OwnP.out (G := fun _ => False) h (Out.of_below (HA.out o)) (fun _ _ h => h)
  clear h hq
  go_enter Tryz.func11, Tryz.ntmps11
  go_wp2_with fail
  refine Calls.mono (H1.out _ (HO.out _)) ?_
  rintro e w1 ⟨rfl, ho, hout⟩
  have HO1 : Hid _ := ho
  have HU1 : Hid (Out F w w1) := (Out.of_below (HA.out _)).trans hout
  clear ho hout
  go_wp2
  go_ret
  exact ⟨rfl, HO1.out, HU1.out⟩
set_option maxRecDepth 100000 in
set_option maxHeartbeats 4000000 in
theorem held_mk (m : MarkV) (ad : Option Addr) (c q : Nat) (F : Bset) (w : World) (hl : m.raws.length ≤ 1048576) (hq : 1 + 2 * m.raws.length = q) (h : trees.OwnP w ad (marksL 1 m.raws.length) F) : Calls Tryz.prog 12 #[mkV m ad c, .int .i64 1] w fun e w' => e = .returned (.int .i64 (q : Int)) ∧ Below w.heap.size w w' := by
  obtain ⟨k, n, R, b, x⟩ := m
  unfold mkV
  simp only at *
  have HA : Hid (∀ o, Below w.heap.size w (w.alloc o)) := fun o => (Below.refl _ _).alloc (Nat.le_refl _) o
  have H1 : Hid (∀ W, trees.OwnP W ad (marksL 1 R.length) F → Calls Tryz.prog 26 #[.slice ad R.length c, .int .i64 1] W fun e w' => e = .returned (.int .i64 (q : Int)) ∧ Below W.heap.size W w') := fun W hh => by
    have := held_rows W ad R.length c 1 F hl (by omega) hh
    rw [hq] at this
    exact this
  have HO : Hid (∀ o, trees.OwnP (w.alloc o) ad (marksL 1 R.length) F) := fun o => trees.OwnP.out (G := fun _ => False) h (Out.of_below (HA.out o)) (fun _ _ h => h)
  have hq0 : ¬ (q : Int) < 0 := by omega
  clear h hq
  go_enter Tryz.func12, Tryz.ntmps12
  go_wp2_with fail
  refine Calls.mono (H1.out _ (HO.out _)) ?_
  rintro e w1 ⟨rfl, hb⟩
  have HB1 : Hid (Below w.heap.size w w1) := (HA.out _).trans (hb.mono (HA.out _).size)
  clear hb
  go_wp2
  go_ret
  exact ⟨rfl, HB1.out⟩
end Go.Proofs.YtehdpkigfjjbaaaGreatDoor.cuts
namespace Go.Proofs.YtehdpkigfjjbaaaGreatDoor.parseu
open Go.RowKit Go.ChangeShapes
set_option linter.unusedVariables false
theorem star : "*" ++ "errors.errorString" = "*errors.errorString" := by decide
theorem rowE (u : TypeId) (h : Tryz.prog.typeName? 3 u = some "*errors.errorString") : u = 135 :=
  typeName_ptr_named (nm := "errors.errorString") (by rw [star]; kernel_rfl) (by kernel_rfl) (by decide) u (by rw [star]; exact h)
theorem err_of {text : List UInt8} {r : List (String × DataW Unit)} {W : World} (h : laidMet Tryz.prog (("strconv.ErrSyntax", .iface "*errors.errorString" (.ptr (.agg [.lit (.string text)]))) :: r) W) : ErrAt W := by
  have hg : Tryz.prog.globalNamed "strconv.ErrSyntax" = some 7 := by kernel_rfl
  obtain ⟨a, s, hv, _⟩ := laid_sentinel h hg (ti := 112) (by kernel_rfl) Tryz.underlying112 rowE Tryz.underlying135 Tryz.underlying137 rfl rfl Tryz.underlying9 (by kernel_rfl) (by kernel_rfl)
  have hc := World.var?_cell hg hv 0
  exact ⟨_, by simpa using hc, .inr ⟨_, _, rfl⟩⟩
theorem err_at {laid : List (String × DataW Unit)} {W : World} (h : laidMet Tryz.prog laid W) {text : List UInt8} : ∀ (k : Nat), laid[k]? = some ("strconv.ErrSyntax", .iface "*errors.errorString" (.ptr (.agg [.lit (.string text)]))) → ErrAt W
  | k, hk => by
    induction k generalizing laid with
    | zero =>
      match laid, hk, h with
      | x :: r, hk, h =>
        obtain rfl := Option.some.inj hk
        exact err_of h
    | succ k ih =>
      match laid, hk, h with
      | x :: r, hk, h => exact ih (laidMet.tail h) (by simpa using hk)
end Go.Proofs.YtehdpkigfjjbaaaGreatDoor.parseu
namespace Go.Proofs.YtehdpkigfjjbaaaGreatDoor.pairs
open Go.ChangeShapes Go.WideShapes Go.ChangeAt Go.RowKit
set_option linter.unusedVariables false
set_option maxHeartbeats 1000000 in
theorem sz_Ent (n v : ByteArray) (left : Int) (w : World) (hn : n.size ≤ maxLen) (hv : v.size ≤ maxLen) (h0 : 0 ≤ left) (h1 : left ≤ 1048576) :
    Calls Tryz.prog 13 #[.agg #[.string n, .string v], .int .i64 left] w fun e w' => (∃ r : Int, e = .returned (.int .i64 r) ∧ (r < 0 ∨ r = left - n.size - v.size ∧ 0 ≤ r)) ∧ Below w.heap.size w w' := by
  unfold maxLen at hn hv
  by_cases h2 : left - n.size < 0
  · go_enter Tryz.func13, Tryz.ntmps13
    go_wp2
    go_ret
    exact ⟨⟨-1, rfl, .inl (by decide)⟩, (Below.refl _ _).alloc (Nat.le_refl _) _⟩
  · by_cases h3 : left - n.size - v.size < 0
    · go_enter Tryz.func13, Tryz.ntmps13
      go_wp2
      go_ret
      exact ⟨⟨-1, rfl, .inl (by decide)⟩, (Below.refl _ _).alloc (Nat.le_refl _) _⟩
    · have H3 : Hid (0 ≤ left - n.size - v.size) := by show _ ≤ _; omega
      go_enter Tryz.func13, Tryz.ntmps13
      go_wp2
      go_ret
      exact ⟨⟨_, rfl, .inr ⟨rfl, H3.out⟩⟩, (Below.refl _ _).alloc (Nat.le_refl _) _⟩
set_option maxRecDepth 100000 in
set_option maxHeartbeats 2000000 in
theorem szx_EntS (w : World) (a : Option Addr) (L : List Pair) (cap : Nat) (left : Nat) (hl : left ≤ 1048576) (hL : Hid (PairsAt w a L)) :
    Calls Tryz.prog 4 #[.slice a L.length cap, .int .i64 left] w fun e w' => (∃ r : Int, e = .returned (.int .i64 r) ∧ (0 ≤ r → r = (left : Int) - ((L.length + sizeTo L L.length : Nat) : Int))) ∧ Below w.heap.size w w' := by
  have hlen := hL.out.short
  unfold maxLen at hlen
  by_cases hb : (left : Int) - (L.length : Int) < 0
  · go_enter Tryz.func4, Tryz.ntmps4
    go_wp2
    go_ret
    exact ⟨⟨-1, rfl, fun h => by omega⟩, Below.refl _ _⟩
  · go_enter Tryz.func4, Tryz.ntmps4
    go_wp2
    go_loopw [1, 5] (fun l t wr => ∃ (k : Nat) (r : Int), k ≤ L.length ∧ t = .int .i64 k ∧ l = .int .i64 r ∧ 0 ≤ r ∧ r ≤ 1048576 ∧ Hid (r = left - L.length - sizeTo L k) ∧ Hid (Below w.heap.size w wr)) (fun _ t _ => L.length - (intOf t).toNat)
    case atStart => exact ⟨0, _, Nat.zero_le _, rfl, rfl, by omega, by omega, by show _ = _; simp [sizeTo], Below.refl _ _⟩
    case round =>
      obtain ⟨k, r, hk, rfl, rfl, hr0, hr1, hr, hbw⟩ := hrel
      by_cases hlt : k < L.length
      · obtain ⟨b, off, ha, hblt, hc⟩ := (hL.out.below (Nat.le_refl _) hbw.out).row (by omega)
        obtain ⟨hc1, hc2⟩ := hc k hlt
        have hts := hL.out.texts k hlt
        have hsz := fun w => sz_Ent (at0 L k).1 (at0 L k).2 r w hts.1 hts.2 hr0 hr1
        have hst : sizeTo L (k + 1) = sizeTo L k + (at0 L k).1.size + (at0 L k).2.size := rfl
        subst ha
        generalize (at0 L k).1 = n at hc1 hsz hst
        generalize (at0 L k).2 = v at hc2 hsz hst
        have HSZ : Hid (∀ w, _) := hsz
        have HST : Hid _ := hst
        clear hsz hst hts hc
        go_wp2_with fail
        refine (HSZ.out _).mono ?_
        rintro e w2 ⟨⟨r', rfl, hr'⟩, hb2⟩
        have HB2 : Hid _ := hbw.out.trans (hb2.mono hbw.out.size)
        clear hb2
        rcases hr' with hr' | ⟨hr', hr2⟩
        · go_wp2
          go_ret
          exact ⟨⟨-1, rfl, fun h => by omega⟩, HB2.out⟩
        · have HR : Hid (r' = r - n.size - v.size) := hr'
          have hle : r' ≤ 1048576 := by omega
          clear hr'
          go_wp2
          go_roundw
          case rel => exact ⟨k + 1, r', by omega, by go_num, rfl, hr2, hle, by show _ = _; rw [HR.out, hr.out, HST.out]; omega, HB2.out⟩
          case measure => simp [intOf]; omega
      · have HF : Hid (r = (left : Int) - ((L.length + sizeTo L L.length : Nat) : Int)) := by
          have h1 := hr.out
          show r = _
          rw [show k = L.length by omega] at h1
          omega
        go_wp2
        go_ret
        exact ⟨⟨_, rfl, fun _ => HF.out⟩, hbw.out⟩
theorem sz_EntS (w : World) (a : Option Addr) (L : List Pair) (cap : Nat) (left : Nat) (hl : left ≤ 1048576) (hL : Hid (PairsAt w a L)) :
    Calls Tryz.prog 4 #[.slice a L.length cap, .int .i64 left] w fun e w' => (∃ r : Int, e = .returned (.int .i64 r) ∧ (0 ≤ r → r ≤ left ∧ Small L left)) ∧ Below w.heap.size w w' :=
  (szx_EntS w a L cap left hl hL).mono fun e w' ⟨⟨r, he, hr⟩, hb⟩ => ⟨⟨r, he, fun h => by have := hr h; unfold Small; omega⟩, hb⟩
theorem info_Ent : (Tryz.prog.info? 43).map (fun i => (i.zero, i.size, i.bytes)) = some (some (.agg #[.string ⟨#[]⟩, .string ⟨#[]⟩]), 2, 32) := by kernel_rfl
set_option maxHeartbeats 1000000 in
theorem to_Ent (n v : ByteArray) (w : World) : Calls Tryz.prog 17 #[.agg #[.string n, .string v]] w fun e w' => e = .returned (.agg #[.string n, .string v]) ∧ Below w.heap.size w w' := by
  go_enter Tryz.func17, Tryz.ntmps17
  go_wp2
  refine bodyPost_ret (by simp [results, Tryz.results17, go_sem]; try rfl) rfl ?_
  exact ⟨rfl, (((Below.refl _ _).alloc (Nat.le_refl _) _).alloc (by simp) _).alloc (by simp; omega) _⟩
set_option maxHeartbeats 1000000 in
theorem eq_Ent (n v : ByteArray) (w : World) : Calls Tryz.prog 23 #[.agg #[.string n, .string v], .agg #[.string n, .string v]] w fun e w' => e = .returned (.bool true) ∧ Below w.heap.size w w' := by
  go_enter Tryz.func23, Tryz.ntmps23
  go_wp2
  go_ret
  exact ⟨rfl, ((Below.refl _ _).alloc (Nat.le_refl _) _).alloc (by simp) _⟩
set_option maxRecDepth 100000 in
set_option maxHeartbeats 2000000 in
theorem eq_EntS (w : World) (a a' : Option Addr) (L : List Pair) (cap cap' : Nat) (hL : Hid (PairsAt w a L)) (hL' : Hid (PairsAt w a' L)) :
    Calls Tryz.prog 9 #[.slice a L.length cap, .slice a' L.length cap'] w fun e w' => e = .returned (.bool true) ∧ Below w.heap.size w w' := by
  have hlen := hL.out.short
  unfold maxLen at hlen
  go_enter Tryz.func9, Tryz.ntmps9
  go_wp2
  go_loopw [5] (fun t wr => ∃ (k : Nat), k ≤ L.length ∧ t = .int .i64 k ∧ Hid (Below w.heap.size w wr)) (fun t _ => L.length - (intOf t).toNat)
  case atStart => exact ⟨0, Nat.zero_le _, rfl, Below.refl _ _⟩
  case round =>
    obtain ⟨k, hk, rfl, hbw⟩ := hrel
    by_cases hlt : k < L.length
    · obtain ⟨b, off, ha, hblt, hc⟩ := (hL.out.below (Nat.le_refl _) hbw.out).row (by omega)
      obtain ⟨b', off', ha', hblt', hc'⟩ := (hL'.out.below (Nat.le_refl _) hbw.out).row (by omega)
      obtain ⟨hc1, hc2⟩ := hc k hlt
      obtain ⟨hc1', hc2'⟩ := hc' k hlt
      subst ha ha'
      generalize (at0 L k).1 = n at hc1 hc1'
      generalize (at0 L k).2 = v at hc2 hc2'
      clear hc hc'
      have hl : ∀ W, Below wr.heap.size wr W → W.cell? ⟨b, off + k * 2, none⟩ = some (.string n) ∧ W.cell? ⟨b, off + k * 2 + 1, none⟩ = some (.string v) := fun W h => ⟨(h.cell (p := ⟨b, off + k * 2, none⟩) hblt).trans hc1, (h.cell (p := ⟨b, off + k * 2 + 1, none⟩) hblt).trans hc2⟩
      have hl' : ∀ W, Below wr.heap.size wr W → W.cell? ⟨b', off' + k * 2, none⟩ = some (.string n) ∧ W.cell? ⟨b', off' + k * 2 + 1, none⟩ = some (.string v) := fun W h => ⟨(h.cell (p := ⟨b', off' + k * 2, none⟩) hblt').trans hc1', (h.cell (p := ⟨b', off' + k * 2 + 1, none⟩) hblt').trans hc2'⟩
      go_wp2_with fail
      refine quiets.wp_region_below (by kernel_rfl) (by kernel_rfl) ?_
      repeat (go_big_quiet_step ((first | (intro hq; rfl) | (intro hq; simp [go_sem, (hl _ hq).1, (hl _ hq).2]; rfl) | (intro hq; simp [go_sem, (hl' _ hq).1, (hl' _ hq).2]; rfl) | (intro hq; exact quiets.below_call (eq_Ent _ _ _) hq))))
      refine wpQuiet_nil ?_
      intro w6 hb6
      have HB6 : Hid _ := hbw.out.trans (hb6.mono hbw.out.size)
      clear hb6 hl hl'
      go_wp2
      go_roundw
      case rel => exact ⟨k + 1, by omega, by go_num, HB6.out⟩
      case measure => simp [intOf]; omega
    · go_wp2
      go_ret
      exact ⟨rfl, hbw.out⟩
set_option maxRecDepth 100000 in
set_option maxHeartbeats 2000000 in
theorem mk_EntS (w : World) (a : Option Addr) (L : List Pair) (cap : Nat) (hL : Hid (PairsAt w a L)) (hz : L.length ≤ 1048576) :
    Calls Tryz.prog 6 #[.slice a L.length cap] w fun e w' => (∃ g, e = .returned (.slice (some ⟨g, 0, none⟩) L.length L.length) ∧ w.heap.size ≤ g ∧ PairsAt w' (some ⟨g, 0, none⟩) L ∧ Made w' g L L.length) ∧ Below w.heap.size w w' := by
  go_enter Tryz.func6, Tryz.ntmps6
  go_wp2
  obtain ⟨i0, hi, hz0, hz1, hz2⟩ := info_parts info_Ent
  obtain ⟨w1, hrun, hown, hgr⟩ := run_make_full (P := Tryz.prog) w w.heap.size 29 43 i0 (.agg #[.string ⟨#[]⟩, .string ⟨#[]⟩]) 2 Tryz.underlying29 hi hz0 hz1 .i64 .i64 L.length (by rw [hz2]; omega) (by unfold maxLen; omega) (Nat.le_refl _)
  refine upon_of_run hrun ?_
  have hm : Made w1 w.heap.size L 0 := made_new hown rfl
  have HM : Hid _ := hm
  have HB : Hid (Below w.heap.size w w1) := (Below.refl _ _).grown hgr (Nat.le_refl _) (fun k hk => by cases hk)
  clear hm hrun hown hgr
  go_wp2
  go_loopw [4] (fun t wr => ∃ (k : Nat), k ≤ L.length ∧ t = .int .i64 k ∧ Hid (Made wr w.heap.size L k) ∧ Hid (Below w.heap.size w wr)) (fun t _ => L.length - (intOf t).toNat)
  case atStart => exact ⟨0, Nat.zero_le _, rfl, HM, HB⟩
  case round =>
    obtain ⟨k, hk, rfl, hmr, hbw⟩ := hrel
    by_cases hlt : k < L.length
    · obtain ⟨b, off, ha, hblt, hc⟩ := (hL.out.below (Nat.le_refl _) hbw.out).row (by omega)
      obtain ⟨hc1, hc2⟩ := hc k hlt
      have hmn := fun w2 (h : Below wr.heap.size wr w2) => hmr.out.next hlt h
      subst ha
      generalize (at0 L k).1 = n at hc1 hmn
      generalize (at0 L k).2 = v at hc2 hmn
      have HMN : Hid _ := hmn
      clear hc hmn
      go_wp2_with fail
      refine (to_Ent _ _ _).mono ?_
      rintro e w2 ⟨rfl, hb2⟩
      obtain ⟨c1, c2, hd1, hd2, hf1, hf2, hnext⟩ := HMN.out w2 hb2
      have HB2 : Hid _ := hbw.out.trans (hb2.mono hbw.out.size)
      have HNX : Hid _ := hnext
      clear hb2 hnext
      go_wp2
      go_roundw
      case rel => exact ⟨k + 1, by omega, by go_num, HNX.out, below_set (below_set HB2.out (Nat.le_refl _)) (Nat.le_refl _)⟩
      case measure => simp [intOf]; omega
    · have HF : Hid (PairsAt wr (some ⟨w.heap.size, 0, none⟩) L ∧ Made wr w.heap.size L L.length) := by
        have h1 := hmr.out
        rw [show k = L.length by omega] at h1
        exact ⟨h1.pairs hL.out.short hL.out.texts, h1⟩
      go_wp2
      go_ret
      exact ⟨⟨_, rfl, Nat.le_refl _, HF.out⟩, hbw.out⟩
theorem to_EntS (w : World) (a : Option Addr) (L : List Pair) (cap : Nat) (hL : Hid (PairsAt w a L)) (hz : L.length ≤ 1048576) :
    Calls Tryz.prog 6 #[.slice a L.length cap] w fun e w' => (∃ g, e = .returned (.slice (some ⟨g, 0, none⟩) L.length L.length) ∧ w.heap.size ≤ g ∧ PairsAt w' (some ⟨g, 0, none⟩) L) ∧ Below w.heap.size w w' :=
  (mk_EntS w a L cap hL hz).mono fun _ _ ⟨⟨g, he, hg, hp, _⟩, hb⟩ => ⟨⟨g, he, hg, hp⟩, hb⟩
/-! ### What came in -/
theorem under_Ent : ∃ f0 f1 : Field, Tryz.prog.underlying 38 = some (.struct #[f0, f1]) ∧ f0.offset = 0 ∧ f1.offset = 1 ∧ f0.type = 9 ∧ f1.type = 9 := by
  refine ⟨_, _, Tryz.underlying38, rfl, rfl, rfl, rfl⟩
theorem cells_Ent : Tryz.prog.cellsOf 38 = 2 := by kernel_rfl
theorem open_Ent {H : Type} {enc : TypeId × Value → H} {W : World} {base : Nat} {spare : Nat → Bool} {held : Bool} {fuel : Nat} {cs : List Value} {x : DataW H × List MemPlace}
    (h : DataW.trod enc Tryz.prog W base spare held fuel 22 cs = some x) : ∃ (a : Option Addr) (cap : Nat) (L : List Pair), cs = [.slice a L.length cap] ∧ PairsAt W a L := by
  obtain ⟨f0, f1, hu, o0, o1, t0, t1⟩ := under_Ent
  have c0 : Tryz.prog.cellsOf f0.type = 1 := by rw [t0]; kernel_rfl
  have c1 : Tryz.prog.cellsOf f1.type = 1 := by rw [t1]; kernel_rfl
  rcases Deep.open_slice_pairs Tryz.underlying22 hu cells_Ent o0 o1 c0 c1 h with ⟨hcs, _⟩ | ⟨a, len, cap, m, k, V0, V1, D0, D1, P0, P1, hcs, _, hlc, hcm, hm, hx, hel⟩
  · exact ⟨none, 0, [], hcs, ⟨fun h => absurd h (by decide), Nat.zero_le _, fun i hi => absurd hi (Nat.not_lt_zero _)⟩⟩
  · have hlm : len ≤ m := by rw [hm]; split <;> omega
    have hstr : ∀ i, i < len → (∃ s0, V0 i = .string s0 ∧ s0.size ≤ maxLen) ∧ ∃ s1, V1 i = .string s1 ∧ s1.size ≤ maxLen := by
      intro i hi
      obtain ⟨_, _, r0, r1⟩ := hel i (by omega)
      rw [t0] at r0
      rw [t1] at r1
      obtain ⟨s0, e0, _, z0⟩ := DataW.trod_string Tryz.underlying9 r0
      obtain ⟨s1, e1, _, z1⟩ := DataW.trod_string Tryz.underlying9 r1
      simp only [List.cons.injEq, and_true] at e0 e1
      exact ⟨⟨s0, e0, z0⟩, s1, e1, z1⟩
    have hL : ∀ i, i < len → at0 ((List.range len).map fun i => (strOf (V0 i), strOf (V1 i))) i = (strOf (V0 i), strOf (V1 i)) := fun i hi => by
      unfold at0
      simp [List.getD, hi]
    refine ⟨some a, cap, (List.range len).map fun i => (strOf (V0 i), strOf (V1 i)), by simpa using hcs, ⟨fun h0 => ?_, ?_, fun i hi => ?_⟩⟩
    · rw [List.length_map, List.length_range] at h0
      obtain ⟨g0, g1, _, _⟩ := hel 0 (by omega)
      obtain ⟨b, off, spot⟩ := a
      have hspot : spot = none := by simpa [Addr.add] using World.cell?_spot g0
      subst hspot
      refine ⟨b, off, rfl, ?_, fun i hi => ?_⟩
      · have := World.block_lt_of_cell? W _ g0
        rwa [Addr.add_lit] at this
      · rw [List.length_map, List.length_range] at hi
        obtain ⟨d0, d1, _, _⟩ := hel i (by omega)
        obtain ⟨⟨s0, e0, _⟩, s1, e1, _⟩ := hstr i hi
        rw [hL i hi, e0, e1]
        rw [Addr.add_lit, e0] at d0
        rw [Addr.add_lit, e1, ← Nat.add_assoc] at d1
        exact ⟨d0, d1⟩
    · rw [List.length_map, List.length_range]
      exact Nat.le_trans hlc hcm
    · rw [List.length_map, List.length_range] at hi
      obtain ⟨⟨s0, e0, z0⟩, s1, e1, z1⟩ := hstr i hi
      rw [hL i hi, e0, e1]
      exact ⟨z0, z1⟩
set_option maxRecDepth 100000 in
theorem open_val_Ent {H : Type} {enc : TypeId × Value → H} {W : World} {base : Nat} {spare : Nat → Bool} {held : Bool} {r : Reach} {b0 : Nat} {v : Value} {d : DataW H} {p : List MemPlace}
    (hv : Value.okWide Tryz.prog W r b0 38 v) (h : DataW.Trod enc Tryz.prog W base spare held 38 v d p) : ∃ n u : ByteArray, v = .agg #[.string n, .string u] ∧ n.size ≤ maxLen ∧ u.size ≤ maxLen := by
  obtain ⟨f0, f1, hu, o0, o1, t0, t1⟩ := under_Ent
  have c0 : Tryz.prog.cellsOf f0.type = 1 := by rw [t0]; kernel_rfl
  have c1 : Tryz.prog.cellsOf f1.type = 1 := by rw [t1]; kernel_rfl
  obtain ⟨cs, rfl, hsz⟩ := okWide_struct hu hv
  obtain ⟨x0, x1, rfl⟩ := Joins.array2 (hsz.trans cells_Ent)
  obtain ⟨fuel, hf⟩ := h
  obtain ⟨y0, y1, n, hx, _, h0, h1⟩ := trod_struct2 hu hf
  have h0' : DataW.trod enc Tryz.prog W base spare held n f0.type [x0] = some y0 := by simpa [Value.cells, o0, c0] using h0
  have h1' : DataW.trod enc Tryz.prog W base spare held n f1.type [x1] = some y1 := by simpa [Value.cells, o1, c1] using h1
  rw [t0] at h0'
  rw [t1] at h1'
  obtain ⟨s0, e0, _, z0⟩ := DataW.trod_string Tryz.underlying9 h0'
  obtain ⟨s1, e1, _, z1⟩ := DataW.trod_string Tryz.underlying9 h1'
  simp only [List.cons.injEq, and_true] at e0 e1
  exact ⟨s0, s1, by rw [e0, e1], z0, z1⟩
end Go.Proofs.YtehdpkigfjjbaaaGreatDoor.pairs
namespace Go.Proofs.YtehdpkigfjjbaaaGreatDoor.pairs
open Go.ChangeShapes Go.WideShapes Go.ChangeAt Go.RowKit
open marks (markT)
set_option linter.unusedVariables false
set_option maxRecDepth 100000 in
set_option maxHeartbeats 4000000 in
theorem mark_EntS (w : World) (g n cap k : Nat) (hn : n ≤ 4000000) (hk : k ≤ 100000000) (hM : Hid (Made w g (marksL k n) 0)) :
    Calls Tryz.prog 10 #[.slice (some ⟨g, 0, none⟩) n cap, .int .i64 k] w fun e w' => e = .returned (.int .i64 ((k + 2 * n : Nat) : Int)) ∧ Made w' g (marksL k n) n ∧ w.grownBy w' (some g) := by
  go_enter Tryz.func10, Tryz.ntmps10
  go_wp2
  go_loopw [1, 5] (fun q t wr => ∃ i : Nat, i ≤ n ∧ t = .int .i64 i ∧ q = .int .i64 ((k + 2 * i : Nat) : Int) ∧ Hid (Made wr g (marksL k n) i) ∧ Hid (w.grownBy wr (some g))) (fun _ t _ => n - (intOf t).toNat)
  case atStart => exact ⟨0, Nat.zero_le _, rfl, rfl, hM, grown_refl _ _⟩
  case round =>
    obtain ⟨i, hi, rfl, rfl, hm, hgr⟩ := hrel
    by_cases hlt : i < n
    · obtain ⟨cur, t, hg, hs, hj⟩ := hm.out
      rw [marks_len] at hs
      have H1 : Hid (∀ w, _) := fun w => marks.mark_text (k + 2 * i) w (by omega)
      have H2 : Hid (∀ w, _) := mark_next k i (by omega)
      have HJ : Hid _ := hj
      have HG : Hid _ := hg
      clear hg hj hm
      go_wp2_with fail
      refine (H1.out _).mono ?_
      rintro e w2 ⟨rfl, hb2⟩
      have hg2 := (hb2.block g (lt_heap HG.out)).trans HG.out
      obtain ⟨hc1, hf1⟩ := blk_cell (i := i * 2) hg2 (by omega)
      have HG2 : Hid _ := hg2
      have HR2 : Hid _ := grown_trans hgr.out (grown_below (g := g) hb2)
      clear hb2 hg2
      go_wp2_with fail
      refine (H2.out _).mono ?_
      rintro e w3 ⟨rfl, hb3⟩
      have hg3 := (hb3.block g (lt_heap (block_set _ HG2.out))).trans (block_set (.string (markT (k + 2 * i))) HG2.out)
      obtain ⟨hc2, hf2⟩ := blk_cell (i := i * 2 + 1) hg3 (by simp; omega)
      have HMD : Hid _ := made_marks hg3 (by simp; omega) hlt (set_keeps HJ.out) (by rw [Array.getElem?_setIfInBounds_self_of_lt (by omega)])
      have HR3 : Hid _ := grown_trans (grown_trans HR2.out (grown_set _ _ _ _)) (grown_below (g := g) hb3)
      clear hb3 hg3 hc1 hf1
      go_wp2
      go_roundw
      case rel => exact ⟨i + 1, by omega, by go_num, (by congr 1), HMD.out, grown_trans HR3.out (grown_set _ _ _ _)⟩
      case measure => simp [intOf]; omega
    · obtain rfl : i = n := by omega
      go_wp2
      go_ret
      exact ⟨rfl, hm.out, hgr.out⟩
set_option maxRecDepth 100000 in
theorem mark_nil_Ent (k : Nat) (w : World) : Calls Tryz.prog 10 #[.slice none 0 0, .int .i64 k] w fun e w' => e = .returned (.int .i64 k) ∧ Below w.heap.size w w' := by
  go_enter Tryz.func10, Tryz.ntmps10
  go_wp2
  go_loop [1, 5] (fun q t => q = .int .i64 (k : Int) ∧ t = .int .i64 0) (fun _ _ => 0)
  case atStart => exact ⟨rfl, rfl⟩
  case round =>
    obtain ⟨rfl, rfl⟩ := hrel
    go_wp2
    go_ret
    exact ⟨rfl, Below.refl _ _⟩
end Go.Proofs.YtehdpkigfjjbaaaGreatDoor.pairs
namespace Go.Proofs.YtehdpkigfjjbaaaGreatDoor.fnExactMarkAt
open Go.ChangeShapes Go.WideShapes Go.ChangeAt Go.RowKit Go.WideMaps Go.WideElems
open Go.ChangeMaps (open_string shut_string)
set_option linter.unusedVariables false

theorem own : ownKnob Tryz.prog.godebug = none := by kernel_rfl
theorem laidOut : laidOutB Tryz.prog = true := by kernel_rfl

theorem tables {W : World} (h : laidMetH Tryz.prog Rows.fnExactMarkAtRow.laid W) (hsh : W.ShapedOpen Tryz.prog) : refs.XTabs W := by
  rw [MakeChecks.laidMetH_plain _ _ _ (by kernel_rfl)] at h
  refine ⟨refs.tabs_of (D1 := Rows.laid_unicode_utf8_acceptRanges) (D2 := Rows.laid_unicode_utf8_first) (D3 := Rows.laid_loop_example_g00484_impl_signSpans) (D4 := Rows.laid_loop_example_g00484_impl_startSpans) (D5 := Rows.laid_loop_example_g00484_impl_partSpans) (D6 := Rows.laid_loop_example_g00484_impl_fixedEnts) (by kernel_rfl) (by kernel_rfl) rfl rfl rfl rfl ?_ ?_ ?_ ?_ ?_ ?_, parseu.err_at h 5 rfl, frames.maxAt_of hsh⟩
  all_goals exact Lib.laidMet.reads h (by repeat (first | exact List.Mem.head _ | apply List.Mem.tail))
open cuts (mkV MarkV fin ansOk)
/-- What MarkAt answers, the parts named. -/
theorem ans_parts {r : Option (MarkV × Nat)} {m : MarkV} {j : Nat} {ok : Bool} (h : fin r = (m, j, ok)) {w w' : World} {e : Ending} (ha : ansOk r w w' e) : ∃ ad c, e = .returned (.tuple #[.agg #[.int .i64 m.kind, .string m.name, .slice ad m.raws.length c, .bool m.empty, .string m.text], .int .i64 (j : Int), .bool ok]) ∧ trees.OwnP w' ad m.raws (trees.Rng w w') := by
  obtain ⟨ad, c, he, ho⟩ := ha
  rw [h] at he ho
  exact ⟨ad, c, he, ho⟩
theorem spec_flat {s : ByteArray} {at_ : Int} {L : List pairs.Pair} {m : MarkV} {j : Nat} {ok : Bool} (h : fin (cuts.markR s at_ L) = (m, j, ok)) (hs : s.size ≤ 1048576) (hv : ∀ i, i < L.length → (pairs.at0 L i).2.size ≤ 1048576) (ad : Option Addr) (cap : Nat) (w : World) (hL : pairs.PairsAt w ad L) : Calls Tryz.prog 5 #[.string s, .int .i64 at_, .slice ad L.length cap] w fun e w' => (∃ ad c, e = .returned (.tuple #[.agg #[.int .i64 m.kind, .string m.name, .slice ad m.raws.length c, .bool m.empty, .string m.text], .int .i64 (j : Int), .bool ok]) ∧ trees.OwnP w' ad m.raws (trees.Rng w w')) ∧ Below w.heap.size w w' :=
  (cuts.spec_markAt s at_ ad L cap w hs hL hv).mono fun e w' hh => ⟨ans_parts h hh.1, hh.2⟩
theorem impl_flat {s : ByteArray} {at_ : Int} {L : List pairs.Pair} {m : MarkV} {j : Nat} {ok : Bool} (h : fin (cuts.markR s at_ L) = (m, j, ok)) (hs : s.size ≤ 1048576) (hv : ∀ i, i < L.length → (pairs.at0 L i).2.size ≤ 1048576) (ad : Option Addr) (cap : Nat) (w : World) (hT : refs.XTabs w) (hL : pairs.PairsAt w ad L) : Calls Tryz.prog 7 #[.string s, .int .i64 at_, .slice ad L.length cap] w fun e w' => (∃ ad c, e = .returned (.tuple #[.agg #[.int .i64 m.kind, .string m.name, .slice ad m.raws.length c, .bool m.empty, .string m.text], .int .i64 (j : Int), .bool ok]) ∧ trees.OwnP w' ad m.raws (trees.Rng w w')) ∧ Below w.heap.size w w' :=
  (cuts.impl_markAt s at_ ad L cap w hs hT hL hv).mono fun e w' hh => ⟨ans_parts h hh.1, hh.2⟩
theorem fin_fit {s : ByteArray} {at_ : Int} {L : List pairs.Pair} {m : MarkV} {j : Nat} {ok : Bool} (h : fin (cuts.markR s at_ L) = (m, j, ok)) (hs : s.size ≤ 1048576) : cuts.RFit m.raws ∧ m.raws.length ≤ 1048576 := by
  cases hr : cuts.markR s at_ L with
  | none =>
    rw [hr] at h
    simp only [fin, Prod.mk.injEq] at h
    rw [← h.1]
    exact ⟨cuts.rfit_nil, Nat.zero_le _⟩
  | some y =>
    obtain ⟨m', j'⟩ := y
    rw [hr] at h
    simp only [fin, Prod.mk.injEq] at h
    obtain ⟨rfl, _, _⟩ := h
    exact (cuts.markR_fit hr hs).2
theorem eq_flat {m : MarkV} {a a' : Option Addr} {c c' : Nat} {w : World} {F F' : trees.Bset} (hR : cuts.RFit m.raws) (hl : m.raws.length ≤ 1048576) (h : trees.OwnP w a m.raws F) (h' : trees.OwnP w a' m.raws F') : Calls Tryz.prog 8 #[.agg #[.int .i64 m.kind, .string m.name, .slice a m.raws.length c, .bool m.empty, .string m.text], .agg #[.int .i64 m.kind, .string m.name, .slice a' m.raws.length c', .bool m.empty, .string m.text]] w fun e w' => e = .returned (.bool true) ∧ Below w.heap.size w w' :=
  cuts.eq_mk m a a' c c' w (cuts.own_at h hR hl) (cuts.own_at h' hR hl)
theorem mark_flat {m : MarkV} {a : Option Addr} {c q : Nat} {w : World} {F : trees.Bset} (hl : m.raws.length ≤ 1048576) (hq : 1 + 2 * m.raws.length = q) (h : trees.OwnP w a m.raws F) : Calls Tryz.prog 11 #[.agg #[.int .i64 m.kind, .string m.name, .slice a m.raws.length c, .bool m.empty, .string m.text], .int .i64 1] w fun e w' => e = .returned (.int .i64 (q : Int)) ∧ trees.OwnP w' a (pairs.marksL 1 m.raws.length) F ∧ trees.Out F w w' := cuts.mark_mk m a c q F w hl hq h
theorem held_flat {m : MarkV} {a : Option Addr} {c q : Nat} {w : World} {F : trees.Bset} (hl : m.raws.length ≤ 1048576) (hq : 1 + 2 * m.raws.length = q) (h : trees.OwnP w a (pairs.marksL 1 m.raws.length) F) : Calls Tryz.prog 12 #[.agg #[.int .i64 m.kind, .string m.name, .slice a m.raws.length c, .bool m.empty, .string m.text], .int .i64 1] w fun e w' => e = .returned (.int .i64 (q : Int)) ∧ Below w.heap.size w w' := cuts.held_mk m a c q F w hl hq h
theorem to_flat {L : List pairs.Pair} {a : Option Addr} {cap : Nat} {w : World} (hL : pairs.PairsAt w a L) (hz : L.length ≤ 1048576) : Calls Tryz.prog 6 #[.slice a L.length cap] w fun e w' => (∃ g, e = .returned (.slice (some ⟨g, 0, none⟩) L.length L.length) ∧ w.heap.size ≤ g ∧ pairs.PairsAt w' (some ⟨g, 0, none⟩) L ∧ pairs.Made w' g L L.length) ∧ Below w.heap.size w w' := pairs.mk_EntS w a L cap hL hz
theorem own_below {w w' : World} {a : Option Addr} {L : List pairs.Pair} {F : trees.Bset} (h : trees.OwnP w a L F) (hb : Below w.heap.size w w') : trees.OwnP w' a L F := trees.OwnP.out (G := fun _ => False) h (trees.Out.of_below hb) (fun _ _ h => h)
theorem box_below {w w' : World} {b : Nat} {o : Obj} (h : w.heap[b]? = some o) (hb : Below w.heap.size w w') : w'.heap[b]? = some o := (hb.block b (cuts.lt_heap h)).trans h
theorem box_alloc {w : World} {b : Nat} {o o' : Obj} (h : w.heap[b]? = some o) : (w.alloc o').heap[b]? = some o := (Below.heap_alloc w o' b (cuts.lt_heap h)).trans h
theorem own_alloc {w : World} {a : Option Addr} {L : List pairs.Pair} {F : trees.Bset} {o : Obj} (h : trees.OwnP w a L F) : trees.OwnP (w.alloc o) a L F := own_below h ((Below.refl _ _).alloc (Nat.le_refl _) _)

/-! ### The walk: the law returns true, and nothing that was there has turned -/
set_option maxRecDepth 100000 in
set_option maxHeartbeats 8000000 in
theorem walk (a0 : ByteArray) (a1 : Int) (a2 : Option Addr) (cap2 : Nat) (L2 : List pairs.Pair) (w : World) (w0 : a0.size ≤ maxLen) (w1 : (Lit.int .i64 a1).wf = true) (w2 : pairs.PairsAt w a2 L2) (hL : laidMetH Tryz.prog Rows.fnExactMarkAtRow.laid w) (hsh : w.ShapedOpen Tryz.prog) :
    Calls Tryz.prog 3 #[.string a0, .int .i64 a1, .slice a2 L2.length cap2] w fun e w' => e = .returned (.bool true) ∧ Below w.heap.size w w' := by
  have HT : Hid (refs.XTabs w) := tables hL hsh
  have HL : Hid _ := w2
  clear hL hsh w2 w0
  by_cases hbig : 1048576 < (a0.size : Int)
  · go_enter Tryz.func3, Tryz.ntmps3
    go_wp2
    go_ret
    exact ⟨rfl, Below.refl _ _⟩
  have hs : a0.size ≤ 1048576 := by omega
  have HSZ : Hid (a0.size ≤ 1048576) := hs
  go_enter Tryz.func3, Tryz.ntmps3
  go_wp2_with fail
  refine (pairs.sz_EntS _ _ _ _ 1048576 (Nat.le_refl _) HL).mono ?_
  rintro e w1 ⟨⟨r, rfl, hr⟩, hb⟩
  have HB1 : Hid (Below w.heap.size w w1) := hb
  have HSM : Hid _ := hr
  clear hb hr
  by_cases hneg : r < 0
  · go_wp2
    go_ret
    exact ⟨rfl, HB1.out⟩
  have HS : Hid (pairs.Small L2 1048576) := (HSM.out (by omega)).2
  have hv : ∀ i, i < L2.length → (pairs.at0 L2 i).2.size ≤ 1048576 := fun i hi => (HS.out.texts hi).2
  have HLZ : Hid (L2.length ≤ 1048576) := HS.out.len
  obtain ⟨m, j, ok, hfin⟩ : ∃ m j ok, fin (cuts.markR a0 a1 L2) = (m, j, ok) := ⟨_, _, _, rfl⟩
  have HRF : Hid (cuts.RFit m.raws) := (fin_fit hfin hs).1
  have HRL : Hid (m.raws.length ≤ 1048576) := (fin_fit hfin hs).2
  have H1 : Hid (∀ (ad : Option Addr) (cap : Nat) (w : World), pairs.PairsAt w ad L2 → _) := spec_flat hfin hs hv
  have H2 : Hid (∀ (ad : Option Addr) (cap : Nat) (w : World), refs.XTabs w → pairs.PairsAt w ad L2 → _) := impl_flat hfin hs hv
  obtain ⟨q, hq⟩ : ∃ q, 1 + 2 * m.raws.length = q := ⟨_, rfl⟩
  have HQ : Hid _ := hq
  have hqq : ¬ (q : Int) < 0 := by omega
  clear hv hfin hq hs HSM

  go_wp2_with fail
  refine Calls.mono (to_flat (HL.out.below (Nat.le_refl _) HB1.out) HLZ.out) ?_
  rintro e w2 ⟨⟨gs, rfl, hg, hp, hm⟩, hb⟩
  have HB2 : Hid (Below w.heap.size w w2) := HB1.out.trans (hb.mono HB1.out.size)
  have HS2 : Hid (w1.heap.size ≤ w2.heap.size) := hb.size
  have HSP : Hid (pairs.PairsAt w2 (some ⟨gs, 0, none⟩) L2) := hp
  clear hg hp hm
  clear hb
  go_wp2_with fail
  refine Calls.mono (H1.out _ _ _ HSP.out) ?_
  rintro e w3 ⟨⟨aw, cw, rfl, ho⟩, hb⟩
  have HB3 : Hid (Below w.heap.size w w3) := HB2.out.trans (hb.mono HB2.out.size)
  have HS3 : Hid (w2.heap.size ≤ w3.heap.size) := hb.size
  have HW_3 : Hid (trees.OwnP w3 aw m.raws (trees.Rng w2 w3)) := ho
  clear ho
  clear hb
  have HA4 : Hid (Below w3.heap.size w3 (w3.alloc (.cells #[.int .i64 m.kind, .string m.name, .slice aw m.raws.length cw, .bool m.empty, .string m.text] 26))) := (Below.refl _ _).alloc (Nat.le_refl _) _
  have HB4a : Hid (Below w.heap.size w (w3.alloc (.cells #[.int .i64 m.kind, .string m.name, .slice aw m.raws.length cw, .bool m.empty, .string m.text] 26))) := HB3.out.trans (HA4.out.mono HB3.out.size)
  go_wp2_with fail
  refine Calls.mono (to_flat (HL.out.below (Nat.le_refl _) HB4a.out) HLZ.out) ?_
  rintro e w4 ⟨⟨gx, rfl, hg, hp, hm⟩, hb⟩
  have HB4 : Hid (Below w.heap.size w w4) := HB4a.out.trans (hb.mono HB4a.out.size)
  have HS4 : Hid (w3.heap.size < w4.heap.size ∧ w3.heap.size < gx) := by have h1 := hb.size; rw [World.size_alloc] at h1 hg; exact ⟨by omega, by omega⟩
  have HW_4 : Hid _ := own_below (own_alloc HW_3.out) hb
  have HBW_4 : Hid (w4.heap[w3.heap.size]? = some (.cells #[.int .i64 m.kind, .string m.name, .slice aw m.raws.length cw, .bool m.empty, .string m.text] 26 (0, 0))) := box_below (heap_alloc_new w3 _) hb
  have HX_4 : Hid (pairs.Made w4 gx L2 L2.length) := hm
  have HXP : Hid (pairs.PairsAt w4 (some ⟨gx, 0, none⟩) L2) := hp
  have HGX : Hid (gx < w4.heap.size) := pairs.Made.lt hm
  clear hb hg hp hm HW_3 HA4 HB4a
  obtain ⟨⟨BW0, BW1, BW2, BW3, BW4⟩, -⟩ := cuts.box5 HBW_4.out
  go_wp2_with fail
  refine Calls.mono (H2.out _ _ _ (HT.out.below HB4.out) HXP.out) ?_
  rintro e w5 ⟨⟨ag, cg, rfl, ho⟩, hb⟩
  have HB5 : Hid (Below w.heap.size w w5) := HB4.out.trans (hb.mono HB4.out.size)
  have HS5 : Hid (w4.heap.size ≤ w5.heap.size) := hb.size
  have HW_5 : Hid _ := own_below HW_4.out hb
  have HBW_5 : Hid _ := box_below HBW_4.out hb
  have HX_5 : Hid _ := pairs.Made.below HX_4.out hb
  have HG_5 : Hid (trees.OwnP w5 ag m.raws (trees.Rng w4 w5)) := ho
  clear ho
  clear BW0 BW1 BW2 BW3 BW4
  clear hb HW_4 HBW_4 HX_4
  obtain ⟨⟨BW0, BW1, BW2, BW3, BW4⟩, -⟩ := cuts.box5 HBW_5.out
  have HB6a : Hid (Below w.heap.size w (w5.alloc (.cells #[.int .i64 m.kind, .string m.name, .slice ag m.raws.length cg, .bool m.empty, .string m.text] 26))) := HB5.out.alloc HB5.out.size _
  clear BW0 BW1 BW2 BW3 BW4
  obtain ⟨⟨BW0, BW1, BW2, BW3, BW4⟩, -⟩ := cuts.box5 (box_alloc (o' := (.cells #[.int .i64 m.kind, .string m.name, .slice ag m.raws.length cg, .bool m.empty, .string m.text] 26)) HBW_5.out)
  go_wp2_with fail
  refine Calls.mono (eq_flat HRF.out HRL.out (own_alloc HG_5.out) (own_alloc HW_5.out)) ?_
  rintro e w6 ⟨rfl, hb⟩
  have HB6 : Hid (Below w.heap.size w w6) := HB6a.out.trans (hb.mono HB6a.out.size)
  have HS6 : Hid (w5.heap.size < w6.heap.size) := by have h1 := hb.size; rw [World.size_alloc] at h1; show _ < _; omega
  have HW_6 : Hid _ := own_below (own_alloc HW_5.out) hb
  have HG_6 : Hid _ := own_below (own_alloc HG_5.out) hb
  have HBW_6 : Hid _ := box_below (box_alloc HBW_5.out) hb
  have HBG_6 : Hid (w6.heap[w5.heap.size]? = some (.cells #[.int .i64 m.kind, .string m.name, .slice ag m.raws.length cg, .bool m.empty, .string m.text] 26 (0, 0))) := box_below (heap_alloc_new w5 _) hb
  have HX_6 : Hid _ := pairs.Made.below HX_5.out (((Below.refl _ _).alloc (Nat.le_refl _) _).trans (hb.mono (by simp)))
  clear hb BW0 BW1 BW2 BW3 BW4 HW_5 HG_5 HBW_5 HX_5 HB6a
  obtain ⟨⟨BW0, BW1, BW2, BW3, BW4⟩, -⟩ := cuts.box5 HBW_6.out
  obtain ⟨⟨BG0, BG1, BG2, BG3, BG4⟩, -⟩ := cuts.box5 HBG_6.out
  go_wp2_with fail
  refine Calls.mono (to_flat (HL.out.below (Nat.le_refl _) HB6.out) HLZ.out) ?_
  rintro e w7 ⟨⟨gc, rfl, hg, hp, hm⟩, hb⟩
  have HB7 : Hid (Below w.heap.size w w7) := HB6.out.trans (hb.mono HB6.out.size)
  have HS7 : Hid (w6.heap.size ≤ w7.heap.size) := hb.size
  have HW_7 : Hid _ := own_below HW_6.out hb
  have HG_7 : Hid _ := own_below HG_6.out hb
  have HBW_7 : Hid _ := box_below HBW_6.out hb
  have HBG_7 : Hid _ := box_below HBG_6.out hb
  have HX_7 : Hid _ := pairs.Made.below HX_6.out hb
  have HCP : Hid (pairs.PairsAt w7 (some ⟨gc, 0, none⟩) L2) := hp
  have HXP7 : Hid (pairs.PairsAt w7 (some ⟨gx, 0, none⟩) L2) := pairs.Made.pairs HX_7.out HL.out.short HL.out.texts
  clear hg hp hm
  clear BW0 BW1 BW2 BW3 BW4 BG0 BG1 BG2 BG3 BG4
  clear hb HW_6 HG_6 HBW_6 HBG_6 HX_6
  obtain ⟨⟨BW0, BW1, BW2, BW3, BW4⟩, -⟩ := cuts.box5 HBW_7.out
  obtain ⟨⟨BG0, BG1, BG2, BG3, BG4⟩, -⟩ := cuts.box5 HBG_7.out
  go_wp2_with fail
  refine Calls.mono (pairs.eq_EntS _ _ _ _ _ _ HXP7.out HCP.out) ?_
  rintro e w8 ⟨rfl, hb⟩
  have HB8 : Hid (Below w.heap.size w w8) := HB7.out.trans (hb.mono HB7.out.size)
  have HS8 : Hid (w7.heap.size ≤ w8.heap.size) := hb.size
  have HW_8 : Hid _ := own_below HW_7.out hb
  have HG_8 : Hid _ := own_below HG_7.out hb
  have HBW_8 : Hid _ := box_below HBW_7.out hb
  have HBG_8 : Hid _ := box_below HBG_7.out hb
  have HX_8 : Hid _ := pairs.Made.below HX_7.out hb
  clear HXP7 HCP
  clear BW0 BW1 BW2 BW3 BW4 BG0 BG1 BG2 BG3 BG4
  clear hb HW_7 HG_7 HBW_7 HBG_7 HX_7
  obtain ⟨⟨BW0, BW1, BW2, BW3, BW4⟩, -⟩ := cuts.box5 HBW_8.out
  obtain ⟨⟨BG0, BG1, BG2, BG3, BG4⟩, -⟩ := cuts.box5 HBG_8.out
  go_wp2_with fail
  refine Calls.mono (pairs.mark_EntS w8 gx L2.length L2.length 1 (by have := HLZ.out; omega) (by decide) (pairs.Made.forget HX_8.out (pairs.marks_len _ _))) ?_
  rintro e w9 ⟨rfl, -, hgr⟩
  have HO9 : Hid (trees.Out (fun b => b = gx) w8 w9) := trees.Out.grown hgr rfl
  have HB9 : Hid (Below w.heap.size w w9) := trees.Out.below HO9.out HB8.out (fun b hb => by have h1 := HB3.out.size; have h2 := HS4.out.2; have hb' : b = gx := hb; omega) HB8.out.size
  have HW_9 : Hid _ := trees.OwnP.out (F := trees.Rng w2 w3) HW_8.out HO9.out (fun b hb hc => by have h1 := hb.2; have h2 := HS4.out.2; have hc' : b = gx := hc; omega)
  have HG_9 : Hid _ := trees.OwnP.out (F := trees.Rng w4 w5) HG_8.out HO9.out (fun b hb hc => by have h1 := hb.1; have h2 := HGX.out; have hc' : b = gx := hc; omega)
  have HBW_9 : Hid _ := (HO9.out.block _ (cuts.lt_heap HBW_8.out) (fun e => by have h2 := HS4.out.2; have e' : w3.heap.size = gx := e; omega)).trans HBW_8.out
  have HBG_9 : Hid _ := (HO9.out.block _ (cuts.lt_heap HBG_8.out) (fun e => by have h2 := HGX.out; have h3 := HS5.out; have e' : w5.heap.size = gx := e; omega)).trans HBG_8.out
  have HS9 : Hid (w8.heap.size ≤ w9.heap.size) := HO9.out.size
  clear BW0 BW1 BW2 BW3 BW4 BG0 BG1 BG2 BG3 BG4
  clear hgr HO9 HW_8 HG_8 HBW_8 HBG_8 HX_8
  obtain ⟨⟨BW0, BW1, BW2, BW3, BW4⟩, -⟩ := cuts.box5 HBW_9.out
  obtain ⟨⟨BG0, BG1, BG2, BG3, BG4⟩, -⟩ := cuts.box5 HBG_9.out
  have hkk : ¬ ((1 + 2 * L2.length : Nat) : Int) < 0 := by omega
  go_wp2_with fail
  refine Calls.mono (eq_flat HRF.out HRL.out HG_9.out HW_9.out) ?_
  rintro e w10 ⟨rfl, hb⟩
  have HB10 : Hid (Below w.heap.size w w10) := HB9.out.trans (hb.mono HB9.out.size)
  have HS10 : Hid (w9.heap.size ≤ w10.heap.size) := hb.size
  have HW_10 : Hid _ := own_below HW_9.out hb
  have HG_10 : Hid _ := own_below HG_9.out hb
  have HBW_10 : Hid _ := box_below HBW_9.out hb
  have HBG_10 : Hid _ := box_below HBG_9.out hb
  clear BW0 BW1 BW2 BW3 BW4 BG0 BG1 BG2 BG3 BG4
  clear hb HW_9 HG_9 HBW_9 HBG_9
  obtain ⟨⟨BW0, BW1, BW2, BW3, BW4⟩, -⟩ := cuts.box5 HBW_10.out
  obtain ⟨⟨BG0, BG1, BG2, BG3, BG4⟩, -⟩ := cuts.box5 HBG_10.out
  go_wp2_with fail
  refine Calls.mono (mark_flat HRL.out HQ.out HG_10.out) ?_
  rintro e w11 ⟨rfl, ho, hout⟩
  have HG_11 : Hid (trees.OwnP w11 ag (pairs.marksL 1 m.raws.length) (trees.Rng w4 w5)) := ho
  have HO11 : Hid (trees.Out (trees.Rng w4 w5) w10 w11) := hout
  have HB11 : Hid (Below w.heap.size w w11) := trees.Out.below HO11.out HB10.out (fun b hb => Nat.le_trans HB4.out.size hb.1) HB10.out.size
  have HW_11 : Hid _ := trees.OwnP.out (F := trees.Rng w2 w3) HW_10.out HO11.out (fun b hb hc => by have h1 := hb.2; have h2 := hc.1; have h3 := HS4.out.1; omega)
  have HBW_11 : Hid _ := (HO11.out.block _ (cuts.lt_heap HBW_10.out) (fun e => by have h1 := e.1; have h3 := HS4.out.1; omega)).trans HBW_10.out
  have HBG_11 : Hid _ := (HO11.out.block _ (cuts.lt_heap HBG_10.out) (fun e => by have h1 := e.2; omega)).trans HBG_10.out
  have HS11 : Hid (w10.heap.size ≤ w11.heap.size) := HO11.out.size
  clear BW0 BW1 BW2 BW3 BW4 BG0 BG1 BG2 BG3 BG4
  clear ho hout HO11 HW_10 HG_10 HBW_10 HBG_10
  obtain ⟨⟨BW0, BW1, BW2, BW3, BW4⟩, -⟩ := cuts.box5 HBW_11.out
  obtain ⟨⟨BG0, BG1, BG2, BG3, BG4⟩, -⟩ := cuts.box5 HBG_11.out
  go_wp2_with fail
  refine Calls.mono (held_flat HRL.out HQ.out HG_11.out) ?_
  rintro e w12 ⟨rfl, hb⟩
  have HB12 : Hid (Below w.heap.size w w12) := HB11.out.trans (hb.mono HB11.out.size)
  have HS12 : Hid (w11.heap.size ≤ w12.heap.size) := hb.size
  have HW_12 : Hid _ := own_below HW_11.out hb
  have HG_12 : Hid _ := own_below HG_11.out hb
  have HBW_12 : Hid _ := box_below HBW_11.out hb
  have HBG_12 : Hid _ := box_below HBG_11.out hb
  clear BW0 BW1 BW2 BW3 BW4 BG0 BG1 BG2 BG3 BG4
  clear hb HW_11 HG_11 HBW_11 HBG_11
  obtain ⟨⟨BW0, BW1, BW2, BW3, BW4⟩, -⟩ := cuts.box5 HBW_12.out
  obtain ⟨⟨BG0, BG1, BG2, BG3, BG4⟩, -⟩ := cuts.box5 HBG_12.out
  go_wp2_with fail
  refine Calls.mono (to_flat (HL.out.below (Nat.le_refl _) HB12.out) HLZ.out) ?_
  rintro e w13 ⟨⟨gd, rfl, hg, hp, hm⟩, hb⟩
  have HB13 : Hid (Below w.heap.size w w13) := HB12.out.trans (hb.mono HB12.out.size)
  have HS13 : Hid (w12.heap.size ≤ w13.heap.size) := hb.size
  have HW_13 : Hid _ := own_below HW_12.out hb
  have HG_13 : Hid _ := own_below HG_12.out hb
  have HBW_13 : Hid _ := box_below HBW_12.out hb
  have HBG_13 : Hid _ := box_below HBG_12.out hb
  have HDP : Hid (pairs.PairsAt w13 (some ⟨gd, 0, none⟩) L2) := hp
  clear hg hp hm
  clear BW0 BW1 BW2 BW3 BW4 BG0 BG1 BG2 BG3 BG4
  clear hb HW_12 HG_12 HBW_12 HBG_12
  obtain ⟨⟨BW0, BW1, BW2, BW3, BW4⟩, -⟩ := cuts.box5 HBW_13.out
  obtain ⟨⟨BG0, BG1, BG2, BG3, BG4⟩, -⟩ := cuts.box5 HBG_13.out
  go_wp2_with fail
  refine Calls.mono (H2.out _ _ _ (HT.out.below HB13.out) HDP.out) ?_
  rintro e w14 ⟨⟨ah, ch, rfl, ho⟩, hb⟩
  have HB14 : Hid (Below w.heap.size w w14) := HB13.out.trans (hb.mono HB13.out.size)
  have HS14 : Hid (w13.heap.size ≤ w14.heap.size) := hb.size
  have HW_14 : Hid _ := own_below HW_13.out hb
  have HG_14 : Hid _ := own_below HG_13.out hb
  have HBW_14 : Hid _ := box_below HBW_13.out hb
  have HBG_14 : Hid _ := box_below HBG_13.out hb
  have HK_14 : Hid (trees.OwnP w14 ah m.raws (trees.Rng w13 w14)) := ho
  clear ho
  clear BW0 BW1 BW2 BW3 BW4 BG0 BG1 BG2 BG3 BG4
  clear hb HW_13 HG_13 HBW_13 HBG_13
  obtain ⟨⟨BW0, BW1, BW2, BW3, BW4⟩, -⟩ := cuts.box5 HBW_14.out
  obtain ⟨⟨BG0, BG1, BG2, BG3, BG4⟩, -⟩ := cuts.box5 HBG_14.out
  have HB15a : Hid (Below w.heap.size w (w14.alloc (.cells #[.int .i64 m.kind, .string m.name, .slice ah m.raws.length ch, .bool m.empty, .string m.text] 26))) := HB14.out.alloc HB14.out.size _
  clear BW0 BW1 BW2 BW3 BW4 BG0 BG1 BG2 BG3 BG4
  obtain ⟨⟨BW0, BW1, BW2, BW3, BW4⟩, -⟩ := cuts.box5 (box_alloc (o' := (.cells #[.int .i64 m.kind, .string m.name, .slice ah m.raws.length ch, .bool m.empty, .string m.text] 26)) HBW_14.out)
  obtain ⟨⟨BG0, BG1, BG2, BG3, BG4⟩, -⟩ := cuts.box5 (box_alloc (o' := (.cells #[.int .i64 m.kind, .string m.name, .slice ah m.raws.length ch, .bool m.empty, .string m.text] 26)) HBG_14.out)
  go_wp2_with fail
  refine Calls.mono (eq_flat HRF.out HRL.out (own_alloc HK_14.out) (own_alloc HW_14.out)) ?_
  rintro e w15 ⟨rfl, hb⟩
  have HB15 : Hid (Below w.heap.size w w15) := HB15a.out.trans (hb.mono HB15a.out.size)
  have HG_15 : Hid _ := own_below (own_alloc HG_14.out) hb
  have HBG_15 : Hid _ := box_below (box_alloc HBG_14.out) hb
  clear BW0 BW1 BW2 BW3 BW4 BG0 BG1 BG2 BG3 BG4
  clear hb HW_14 HG_14 HBW_14 HBG_14 HK_14 HB15a
  obtain ⟨⟨BG0, BG1, BG2, BG3, BG4⟩, -⟩ := cuts.box5 HBG_15.out
  go_wp2_with fail
  refine Calls.mono (held_flat HRL.out HQ.out HG_15.out) ?_
  rintro e w16 ⟨rfl, hb⟩
  have HB16 : Hid (Below w.heap.size w w16) := HB15.out.trans (hb.mono HB15.out.size)
  have HS16 : Hid (w15.heap.size ≤ w16.heap.size) := hb.size
  have HG_16 : Hid _ := own_below HG_15.out hb
  have HBG_16 : Hid _ := box_below HBG_15.out hb
  clear BG0 BG1 BG2 BG3 BG4
  clear hb HG_15 HBG_15
  obtain ⟨⟨BG0, BG1, BG2, BG3, BG4⟩, -⟩ := cuts.box5 HBG_16.out
  go_wp2
  go_ret
  exact ⟨rfl, HB16.out⟩

/-! ### The row -/
theorem vars_len {H : Type} {enc : TypeId × Value → H} {P : Program} {w : World} {sp : Nat → Bool} : ∀ {ns : List String} {gs : List (DataW H)} {ps : List MemPlace}, DataW.TrodVars enc P w sp ns gs ps → gs.length = ns.length
  | [], [], _, _ => rfl
  | [], _ :: _, _, h => h.elim
  | _ :: _, [], _, h => h.elim
  | _ :: ns, _ :: gs, _, h => by
    obtain ⟨_, _, _, _, _, _, _, _, _, _, h, _⟩ := h
    simp [vars_len h]
theorem list_len {α : Type} {l : List α} (h : l.length = 4) : ∃ g1 g2 g3 g4, l = [g1, g2, g3, g4] := by
  match l, h with
  | [g1, g2, g3, g4], _ => exact ⟨g1, g2, g3, g4, rfl⟩
set_option maxRecDepth 100000 in
theorem door_met (os : Os) (args : Array Value) : laidMetH Tryz.prog Rows.fnExactMarkAtRow.laid ({ World.doorLaid Tryz.prog 400 os with heap := (World.doorLaid Tryz.prog 400 os).heap.modify 3 fun
    | .cells _ t fz => .cells (Lib.firstTab.map fun z => Value.int .u8 z).toArray t fz
    | o => o }.forCall (fun _ _ => 0) ⟨#[], args, []⟩).memory :=
  laidMetH_of_parts3 (fuel := 8) (laidMet_of_run' 8 (by kernel_rfl) (by kernel_rfl)) (by kernel_rfl) (by kernel_rfl)
set_option maxRecDepth 100000 in
theorem lifted (os : Os) (started : os.Started) (H : Type) (enc : TypeId × Value → H) :
    ReturnsInHanded {} Tryz.checked os 3 .any (fun w args => (Rows.fnExactMarkAtSpec.pre enc Tryz.prog Tryz.f3 [] false w args ∧ laidMetH Tryz.prog Rows.fnExactMarkAtRow.laid w) ∧ sizedMet enc Tryz.prog Tryz.f3 (OpenSpec.ofChange Rows.fnExactMarkAtSpec) false w args)
      (Rows.fnExactMarkAtSpec.post enc Tryz.prog Tryz.f3 false true false false) := by
  refine frames.change_and_shaped (C := Tryz.checked) (X := fun w _ => laidMetH Tryz.prog Rows.fnExactMarkAtRow.laid w) (fun _ _ _ hh h => h.of_heap hh) own started (by kernel_rfl) Tryz.func3
    (ChangeSpec.witness_shaped (enc := enc) (C := Tryz.checked) (os := os) (X := fun w _ => laidMetH Tryz.prog Rows.fnExactMarkAtRow.laid w) false { World.doorLaid Tryz.prog 400 os with heap := (World.doorLaid Tryz.prog 400 os).heap.modify 3 fun
    | .cells _ t fz => .cells (Lib.firstTab.map fun z => Value.int .u8 z).toArray t fz
    | o => o } #[.string ByteArray.empty, .int .i64 0, .slice none 0 0] 8 rfl (World.shaped_of_RefB (by kernel_rfl) (by kernel_rfl)) (by kernel_rfl) (by kernel_rfl) (by kernel_rfl) (door_met os _)) ?_
  intro W base args ds gs before hval0 hW hL hsh
  have hval : ∀ (j : Nat) t v, Tryz.f3.params[j]? = some t → args[j]? = some v → Value.okWide Tryz.prog W .any base t v := hval0
  have hW' := hW
  obtain ⟨p, q, hA0, hV, rfl, hfz, hnd⟩ := hW
  have hA : DataW.TrodAll enc Tryz.prog W 0 (fun _ => true) true Tryz.f3.params.toList args.toList ds p := hA0
  rw [Tryz.params3] at hA hval
  obtain ⟨v0, vs0, d0, ds0, p0, q0, hargs, rfl, rfl, h0, r0⟩ := trodAll_cons hA
  obtain ⟨v1, vs1, d1, ds1, p1, q1, rfl, rfl, rfl, h1, r1⟩ := trodAll_cons r0
  obtain ⟨v2, vs2, d2, ds2, p2, q2, rfl, rfl, rfl, h2, r2⟩ := trodAll_cons r1
  obtain ⟨rfl, rfl, rfl⟩ := trodAll_nil r2
  obtain rfl : args = #[v0, v1, v2] := by cases args; simp_all
  obtain ⟨g1, g2, g3, g4, rfl⟩ := list_len (vars_len hV)
  obtain ⟨a0, rfl, rfl, rfl, w0⟩ := open_string Tryz.underlying9 (hval 0 9 v0 rfl rfl) h0
  obtain ⟨a1, rfl, rfl, rfl, w1⟩ := open_int Tryz.underlying3 (hval 1 3 v1 rfl rfl) h1
  obtain ⟨a2, len2, cap2, rfl⟩ := okWide_slice Tryz.underlying22 (hval 2 22 v2 rfl rfl)
  have k2 := h2
  have lt2 : ∀ x ∈ p2, x.block < W.heap.size := by obtain ⟨m, hm⟩ := k2; exact DataW.trod_lt m _ _ _ hm
  obtain ⟨L2, hl2, w2⟩ : ∃ L : List pairs.Pair, len2 = L.length ∧ pairs.PairsAt W a2 L := by
    obtain ⟨fuel, hf⟩ := h2
    obtain ⟨a', c', L, hcs, hp⟩ := pairs.open_Ent hf
    simp [Value.cells] at hcs
    obtain ⟨rfl, rfl, rfl⟩ := hcs
    exact ⟨L, rfl, hp⟩
  subst hl2
  clear hA0 hval0
  refine (walk a0 a1 a2 cap2 L2 W w0 w1 w2 hL hsh).mono fun e W' ⟨he, bel⟩ => ?_
  subst he
  exact ⟨_, rfl, _, _, _, [], _, _, hW', trodAll_mk1 (shut_bool Tryz.underlying4 _), (trodAll_cons_mk (shut_string Tryz.underlying9 w0) (trodAll_cons_mk (shut_int Tryz.underlying3 w1) (trodAll_cons_mk (Below.trod laidOut (by kernel_rfl) (of_decide_eq_true (by kernel_rfl)) k2 bel lt2) trodAll_mk0))), Below.trodVars laidOut bel (by kernel_rfl) hV, bel.frame _, fun h => by cases h⟩

theorem said : Rows.FnExactMarkAtSaid :=
  OpenClaim.holds_of_wide 3 Tryz.f3 rfl rfl rfl rfl rfl rfl rfl ⟨rfl, rfl, rfl, rfl, rfl⟩ rfl rfl rfl rfl rfl (by kernel_rfl) Tryz.func3 (by kernel_rfl)
    (of_decide_eq_true (by kernel_rfl)) (by unfold Func.isWrapper; first | (rw [if_pos (by decide +kernel)]; kernel_rfl) | (rw [if_neg (by decide +kernel)]; exact ⟨rfl, rfl⟩))
    (fun os started H enc _ => lifted os started H enc)

/-! ### The card -/
theorem plain (f : FuncId) (fn : Func) (hf : Tryz.pinned.checked.prog.funcNamed "loop.example/g00484/laws.FnExactMarkAt" = some f) (hfn : Tryz.pinned.checked.prog.funcs[f]? = some fn) :
    true = Tryz.pinned.checked.prog.looks [] ∧ ∀ (j : Nat) t, fn.params[j]? = some t → Tryz.pinned.checked.prog.wantsStandIn t = false := by
  obtain rfl : f = 3 := Option.some.inj ((show Tryz.prog.funcNamed "loop.example/g00484/laws.FnExactMarkAt" = some 3 by kernel_rfl).symm.trans hf) |>.symm
  obtain rfl : fn = Tryz.f3 := (Option.some.inj (Tryz.func3.symm.trans hfn)).symm
  refine ⟨by kernel_rfl, fun j t ht => ?_⟩
  rw [Tryz.params3] at ht
  have hm : t ∈ [9, 3, 22] := by simpa using Array.mem_of_getElem? ht
  have hall : ([9, 3, 22].all fun u => !Tryz.prog.wantsStandIn u) = true := by kernel_rfl
  exact (show Tryz.prog.wantsStandIn t = false by simpa using List.all_eq_true.1 hall t hm)

/-- The statement. -/
theorem card : Rows.FnExactMarkAtCardSaid :=
  Claim7.holds_tied_plain_at .later [] _ _ _ _ said (fun _ h => by cases h) (by kernel_rfl) (fun _ h => by cases h) fnExactMarkAt_row_tie rfl ⟨rfl, rfl⟩ (by kernel_rfl) rfl plain (by kernel_rfl)
#print axioms card
end Go.Proofs.YtehdpkigfjjbaaaGreatDoor.fnExactMarkAt
