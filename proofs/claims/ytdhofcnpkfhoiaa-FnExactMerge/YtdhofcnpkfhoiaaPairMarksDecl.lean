/-
  The laws' marks in a row of structs of two texts (Decl): laid, and found again.
-/
import Derived.Test.YtdhofcnpkfhoiaaPairs
import Derived.Test.YtdhofcnpkfhoiaaMarkText
import Derived.Test.YtdhofcnpkfhoiaaQuiet
namespace Go.Proofs.Ytdhofcnpkfhoiaa.pairs
open Go.ChangeShapes Go.WideShapes Go.ChangeAt Go.RowKit
open marks (markT)
set_option linter.unusedVariables false
def marksL (k n : Nat) : List Pair := (List.range n).map fun i => (markT (k + 2 * i), markT (k + 2 * i + 1))
theorem marks_len (k n : Nat) : (marksL k n).length = n := by simp [marksL]
theorem marks_at (k n i : Nat) (hi : i < n) : at0 (marksL k n) i = (markT (k + 2 * i), markT (k + 2 * i + 1)) := by simp [marksL, at0, List.getD, hi]
theorem mark_next (k i : Nat) (h : k + 2 * i + 1 ≤ 1000000000) (w : World) : Calls Try.prog 25 #[.int .i64 ((k : Int) + 2 * (i : Int) + 1)] w fun e w' => e = .returned (.string (markT (k + 2 * i + 1))) ∧ Below w.heap.size w w' := by
  have := marks.mark_text (k + 2 * i + 1) w h
  rw [show ((k + 2 * i + 1 : Nat) : Int) = (k : Int) + 2 * (i : Int) + 1 by omega] at this
  exact this
theorem mark_first (k i : Nat) (h : k + 2 * i ≤ 1000000000) (w : World) : Calls Try.prog 25 #[.int .i64 ((k : Int) + 2 * (i : Int))] w fun e w' => e = .returned (.string (markT (k + 2 * i))) ∧ Below w.heap.size w w' := by
  have := marks.mark_text (k + 2 * i) w h
  rw [show ((k + 2 * i : Nat) : Int) = (k : Int) + 2 * (i : Int) by omega] at this
  exact this
theorem made_marks {w : World} {g n k i : Nat} {cur : Array Value} {t : TypeId} (hg : w.heap[g]? = some (.cells cur t (0, 0))) (hs : n * 2 ≤ cur.size) (hi : i < n) (hj : ∀ j, j < i → cur[j * 2]? = some (.string (at0 (marksL k n) j).1) ∧ cur[j * 2 + 1]? = some (.string (at0 (marksL k n) j).2))
    (h1 : cur[i * 2]? = some (.string (markT (k + 2 * i)))) : Made (w.setCell ⟨g, i * 2 + 1, none⟩ (.string (markT (k + 2 * i + 1)))) g (marksL k n) (i + 1) := by
  refine ⟨_, t, block_set _ hg, by rw [marks_len]; simpa using hs, fun j hj' => ?_⟩
  by_cases e : j = i
  · subst e
    rw [marks_at k n j hi]
    exact ⟨by rw [Array.getElem?_setIfInBounds_ne (by omega)]; exact h1, by rw [Array.getElem?_setIfInBounds_self_of_lt (by omega)]⟩
  · obtain ⟨a1, a2⟩ := hj j (by omega)
    exact ⟨by rw [Array.getElem?_setIfInBounds_ne (by omega)]; exact a1, by rw [Array.getElem?_setIfInBounds_ne (by omega)]; exact a2⟩
theorem set_keeps {cur : Array Value} {n k i : Nat} {u : Value} (hj : ∀ j, j < i → cur[j * 2]? = some (.string (at0 (marksL k n) j).1) ∧ cur[j * 2 + 1]? = some (.string (at0 (marksL k n) j).2)) : ∀ j, j < i → (cur.setIfInBounds (i * 2) u)[j * 2]? = some (.string (at0 (marksL k n) j).1) ∧ (cur.setIfInBounds (i * 2) u)[j * 2 + 1]? = some (.string (at0 (marksL k n) j).2) := fun j hj' => by
  obtain ⟨a1, a2⟩ := hj j hj'
  exact ⟨by rw [Array.getElem?_setIfInBounds_ne (by omega)]; exact a1, by rw [Array.getElem?_setIfInBounds_ne (by omega)]; exact a2⟩
set_option maxRecDepth 100000 in
set_option maxHeartbeats 4000000 in
theorem mark_DeclS (w : World) (g n cap k : Nat) (hn : n ≤ 4000000) (hk : k ≤ 100000000) (hM : Hid (Made w g (marksL k n) 0)) :
    Calls Try.prog 26 #[.slice (some ⟨g, 0, none⟩) n cap, .int .i64 k] w fun e w' => e = .returned (.int .i64 ((k + 2 * n : Nat) : Int)) ∧ Made w' g (marksL k n) n ∧ w.grownBy w' (some g) := by
  go_enter Try.func26, Try.ntmps26
  go_wp2
  go_loopw [1, 5] (fun q t wr => ∃ i : Nat, i ≤ n ∧ t = .int .i64 i ∧ q = .int .i64 ((k + 2 * i : Nat) : Int) ∧ Hid (Made wr g (marksL k n) i) ∧ Hid (w.grownBy wr (some g))) (fun _ t _ => n - (intOf t).toNat)
  case atStart => exact ⟨0, Nat.zero_le _, rfl, rfl, hM, grown_refl _ _⟩
  case round =>
    obtain ⟨i, hi, rfl, rfl, hm, hgr⟩ := hrel
    by_cases hlt : i < n
    · obtain ⟨cur, t, hg, hs, hj⟩ := hm.out
      rw [marks_len] at hs
      have H1 : Hid (∀ w, _) := fun w => marks.mark_text (k + 2 * i) w (by omega)
      have H2 : Hid (∀ w, _) := mark_next k i (by omega)
      have HJ : Hid _ := hj
      have HG : Hid _ := hg
      clear hg hj hm
      go_wp2_with fail
      refine (H1.out _).mono ?_
      rintro e w2 ⟨rfl, hb2⟩
      have hg2 := (hb2.block g (lt_heap HG.out)).trans HG.out
      obtain ⟨hc1, hf1⟩ := blk_cell (i := i * 2) hg2 (by omega)
      have HG2 : Hid _ := hg2
      have HR2 : Hid _ := grown_trans hgr.out (grown_below (g := g) hb2)
      clear hb2 hg2
      go_wp2_with fail
      refine (H2.out _).mono ?_
      rintro e w3 ⟨rfl, hb3⟩
      have hg3 := (hb3.block g (lt_heap (block_set _ HG2.out))).trans (block_set (.string (markT (k + 2 * i))) HG2.out)
      obtain ⟨hc2, hf2⟩ := blk_cell (i := i * 2 + 1) hg3 (by simp; omega)
      have HMD : Hid _ := made_marks hg3 (by simp; omega) hlt (set_keeps HJ.out) (by rw [Array.getElem?_setIfInBounds_self_of_lt (by omega)])
      have HR3 : Hid _ := grown_trans (grown_trans HR2.out (grown_set _ _ _ _)) (grown_below (g := g) hb3)
      clear hb3 hg3 hc1 hf1
      go_wp2
      go_roundw
      case rel => exact ⟨i + 1, by omega, by go_num, (by congr 1), HMD.out, grown_trans HR3.out (grown_set _ _ _ _)⟩
      case measure => simp [intOf]; omega
    · obtain rfl : i = n := by omega
      go_wp2
      go_ret
      exact ⟨rfl, hm.out, hgr.out⟩
set_option maxRecDepth 100000 in
theorem mark_nil_Decl (k : Nat) (w : World) : Calls Try.prog 26 #[.slice none 0 0, .int .i64 k] w fun e w' => e = .returned (.int .i64 k) ∧ Below w.heap.size w w' := by
  go_enter Try.func26, Try.ntmps26
  go_wp2
  go_loop [1, 5] (fun q t => q = .int .i64 (k : Int) ∧ t = .int .i64 0) (fun _ _ => 0)
  case atStart => exact ⟨rfl, rfl⟩
  case round =>
    obtain ⟨rfl, rfl⟩ := hrel
    go_wp2
    go_ret
    exact ⟨rfl, Below.refl _ _⟩
set_option maxRecDepth 100000 in
theorem held_nil_Decl (k : Nat) (w : World) : Calls Try.prog 28 #[.slice none 0 0, .int .i64 k] w fun e w' => e = .returned (.int .i64 k) ∧ Below w.heap.size w w' := by
  go_enter Try.func28, Try.ntmps28
  go_wp2
  go_loop [1, 5] (fun q t => q = .int .i64 (k : Int) ∧ t = .int .i64 0) (fun _ _ => 0)
  case atStart => exact ⟨rfl, rfl⟩
  case round =>
    obtain ⟨rfl, rfl⟩ := hrel
    go_wp2
    go_ret
    exact ⟨rfl, Below.refl _ _⟩
set_option maxRecDepth 100000 in
set_option maxHeartbeats 4000000 in
theorem held_DeclS (w : World) (g n cap k : Nat) (hn : n ≤ 4000000) (hk : k ≤ 100000000) (hM : Hid (Made w g (marksL k n) n)) :
    Calls Try.prog 28 #[.slice (some ⟨g, 0, none⟩) n cap, .int .i64 k] w fun e w' => e = .returned (.int .i64 ((k + 2 * n : Nat) : Int)) ∧ Below w.heap.size w w' := by
  go_enter Try.func28, Try.ntmps28
  go_wp2
  go_loopw [1, 5] (fun q t wr => ∃ i : Nat, i ≤ n ∧ t = .int .i64 i ∧ q = .int .i64 ((k + 2 * i : Nat) : Int) ∧ Hid (Below w.heap.size w wr)) (fun _ t _ => n - (intOf t).toNat)
  case atStart => exact ⟨0, Nat.zero_le _, rfl, rfl, Below.refl _ _⟩
  case round =>
    obtain ⟨i, hi, rfl, rfl, hbw⟩ := hrel
    by_cases hlt : i < n
    · obtain ⟨cur, t, hg, hs, hj⟩ := hM.out.below hbw.out
      obtain ⟨hj1, hj2⟩ := hj i hlt
      rw [marks_at k n i hlt] at hj1 hj2
      have h1 := mark_first k i (by omega)
      have h2 := mark_next k i (by omega)
      have hl1 : ∀ W, Below wr.heap.size wr W → W.cell? ⟨g, i * 2, none⟩ = some (.string (markT (k + 2 * i))) := fun W h => (h.cell (p := ⟨g, i * 2, none⟩) (lt_heap hg)).trans (by simp [World.cell?, hg, hj1])
      have hl2 : ∀ W, Below wr.heap.size wr W → W.cell? ⟨g, i * 2 + 1, none⟩ = some (.string (markT (k + 2 * i + 1))) := fun W h => (h.cell (p := ⟨g, i * 2 + 1, none⟩) (lt_heap hg)).trans (by simp [World.cell?, hg, hj2])
      clear hg hj hj1 hj2 hs
      go_wp2_with fail
      refine quiets.wp_region_below (by kernel_rfl) (by kernel_rfl) ?_
      repeat (go_big_quiet_step ((first | (intro hq; rfl) | (intro hq; simp [go_sem, hl1 _ hq]; rfl) | (intro hq; simp [go_sem]; try rfl) | (intro hq; exact quiets.below_call (h1 _) hq))))
      refine wpQuiet_nil ?_
      intro w4 hb4
      have HB4 : Hid _ := hbw.out.trans (hb4.mono hbw.out.size)
      have hl3 : ∀ W, Below w4.heap.size w4 W → W.cell? ⟨g, i * 2 + 1, none⟩ = some (.string (markT (k + 2 * i + 1))) := fun W h => hl2 W (hb4.trans (h.mono hb4.size))
      clear hb4 hl1 hl2 h1
      go_wp2_with fail
      refine quiets.wp_region_below (by kernel_rfl) (by kernel_rfl) ?_
      repeat (go_big_quiet_step ((first | (intro hq; rfl) | (intro hq; simp [go_sem, hl3 _ hq]; rfl) | (intro hq; simp [go_sem]; try rfl) | (intro hq; exact quiets.below_call (h2 _) hq))))
      refine wpQuiet_nil ?_
      intro w5 hb5
      have HB5 : Hid _ := HB4.out.trans (hb5.mono HB4.out.size)
      clear hb5 hl3 h2
      go_wp2
      go_roundw
      case rel => exact ⟨i + 1, by omega, by go_num, (by congr 1), HB5.out⟩
      case measure => simp [intOf]; omega
    · obtain rfl : i = n := by omega
      go_wp2
      go_ret
      exact ⟨rfl, hbw.out⟩
end Go.Proofs.Ytdhofcnpkfhoiaa.pairs
