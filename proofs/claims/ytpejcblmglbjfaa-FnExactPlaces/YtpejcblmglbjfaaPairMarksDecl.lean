/-
  The laws' marks in a row of structs of two texts (Decl): laid, and found again.
-/
import Derived.Test.YtpejcblmglbjfaaPairMarkL
import Derived.Test.YtpejcblmglbjfaaQuiet
namespace Go.Proofs.Ytpejcblmglbjfaa.pairs
open Go.ChangeShapes Go.WideShapes Go.ChangeAt Go.RowKit
open marks (markT)
set_option linter.unusedVariables false
set_option maxRecDepth 100000 in
set_option maxHeartbeats 4000000 in
theorem mark_DeclS (w : World) (g n cap k : Nat) (hn : n ≤ 4000000) (hk : k ≤ 100000000) (hM : Hid (Made w g (marksL k n) 0)) :
    Calls Try.prog 72 #[.slice (some ⟨g, 0, none⟩) n cap, .int .i64 k] w fun e w' => e = .returned (.int .i64 ((k + 2 * n : Nat) : Int)) ∧ Made w' g (marksL k n) n ∧ w.grownBy w' (some g) := by
  go_enter Try.func72, Try.ntmps72
  go_wp2
  go_loopw [1, 5] (fun q t wr => ∃ i : Nat, i ≤ n ∧ t = .int .i64 i ∧ q = .int .i64 ((k + 2 * i : Nat) : Int) ∧ Hid (Made wr g (marksL k n) i) ∧ Hid (w.grownBy wr (some g))) (fun _ t _ => n - (intOf t).toNat)
  case atStart => exact ⟨0, Nat.zero_le _, rfl, rfl, hM, grown_refl _ _⟩
  case round =>
    obtain ⟨i, hi, rfl, rfl, hm, hgr⟩ := hrel
    by_cases hlt : i < n
    · obtain ⟨cur, t, hg, hs, hj⟩ := hm.out
      rw [marks_len] at hs
      have H1 : Hid (∀ w, _) := fun w => marks.mark_text (k + 2 * i) w (by omega)
      have H2 : Hid (∀ w, _) := mark_next k i (by omega)
      have HJ : Hid _ := hj
      have HG : Hid _ := hg
      clear hg hj hm
      go_wp2_with fail
      refine (H1.out _).mono ?_
      rintro e w2 ⟨rfl, hb2⟩
      have hg2 := (hb2.block g (lt_heap HG.out)).trans HG.out
      obtain ⟨hc1, hf1⟩ := blk_cell (i := i * 2) hg2 (by omega)
      have HG2 : Hid _ := hg2
      have HR2 : Hid _ := grown_trans hgr.out (grown_below (g := g) hb2)
      clear hb2 hg2
      go_wp2_with fail
      refine (H2.out _).mono ?_
      rintro e w3 ⟨rfl, hb3⟩
      have hg3 := (hb3.block g (lt_heap (block_set _ HG2.out))).trans (block_set (.string (markT (k + 2 * i))) HG2.out)
      obtain ⟨hc2, hf2⟩ := blk_cell (i := i * 2 + 1) hg3 (by simp; omega)
      have HMD : Hid _ := made_marks hg3 (by simp; omega) hlt (set_keeps HJ.out) (by rw [Array.getElem?_setIfInBounds_self_of_lt (by omega)])
      have HR3 : Hid _ := grown_trans (grown_trans HR2.out (grown_set _ _ _ _)) (grown_below (g := g) hb3)
      clear hb3 hg3 hc1 hf1
      go_wp2
      go_roundw
      case rel => exact ⟨i + 1, by omega, by go_num, (by congr 1), HMD.out, grown_trans HR3.out (grown_set _ _ _ _)⟩
      case measure => simp [intOf]; omega
    · obtain rfl : i = n := by omega
      go_wp2
      go_ret
      exact ⟨rfl, hm.out, hgr.out⟩
set_option maxRecDepth 100000 in
theorem mark_nil_Decl (k : Nat) (w : World) : Calls Try.prog 72 #[.slice none 0 0, .int .i64 k] w fun e w' => e = .returned (.int .i64 k) ∧ Below w.heap.size w w' := by
  go_enter Try.func72, Try.ntmps72
  go_wp2
  go_loop [1, 5] (fun q t => q = .int .i64 (k : Int) ∧ t = .int .i64 0) (fun _ _ => 0)
  case atStart => exact ⟨rfl, rfl⟩
  case round =>
    obtain ⟨rfl, rfl⟩ := hrel
    go_wp2
    go_ret
    exact ⟨rfl, Below.refl _ _⟩
set_option maxRecDepth 100000 in
theorem held_nil_Decl (k : Nat) (w : World) : Calls Try.prog 74 #[.slice none 0 0, .int .i64 k] w fun e w' => e = .returned (.int .i64 k) ∧ Below w.heap.size w w' := by
  go_enter Try.func74, Try.ntmps74
  go_wp2
  go_loop [1, 5] (fun q t => q = .int .i64 (k : Int) ∧ t = .int .i64 0) (fun _ _ => 0)
  case atStart => exact ⟨rfl, rfl⟩
  case round =>
    obtain ⟨rfl, rfl⟩ := hrel
    go_wp2
    go_ret
    exact ⟨rfl, Below.refl _ _⟩
set_option maxRecDepth 100000 in
set_option maxHeartbeats 4000000 in
theorem held_DeclS (w : World) (g n cap k : Nat) (hn : n ≤ 4000000) (hk : k ≤ 100000000) (hM : Hid (Made w g (marksL k n) n)) :
    Calls Try.prog 74 #[.slice (some ⟨g, 0, none⟩) n cap, .int .i64 k] w fun e w' => e = .returned (.int .i64 ((k + 2 * n : Nat) : Int)) ∧ Below w.heap.size w w' := by
  go_enter Try.func74, Try.ntmps74
  go_wp2
  go_loopw [1, 5] (fun q t wr => ∃ i : Nat, i ≤ n ∧ t = .int .i64 i ∧ q = .int .i64 ((k + 2 * i : Nat) : Int) ∧ Hid (Below w.heap.size w wr)) (fun _ t _ => n - (intOf t).toNat)
  case atStart => exact ⟨0, Nat.zero_le _, rfl, rfl, Below.refl _ _⟩
  case round =>
    obtain ⟨i, hi, rfl, rfl, hbw⟩ := hrel
    by_cases hlt : i < n
    · obtain ⟨cur, t, hg, hs, hj⟩ := hM.out.below hbw.out
      obtain ⟨hj1, hj2⟩ := hj i hlt
      rw [marks_at k n i hlt] at hj1 hj2
      have h1 := mark_first k i (by omega)
      have h2 := mark_next k i (by omega)
      have hl1 : ∀ W, Below wr.heap.size wr W → W.cell? ⟨g, i * 2, none⟩ = some (.string (markT (k + 2 * i))) := fun W h => (h.cell (p := ⟨g, i * 2, none⟩) (lt_heap hg)).trans (by simp [World.cell?, hg, hj1])
      have hl2 : ∀ W, Below wr.heap.size wr W → W.cell? ⟨g, i * 2 + 1, none⟩ = some (.string (markT (k + 2 * i + 1))) := fun W h => (h.cell (p := ⟨g, i * 2 + 1, none⟩) (lt_heap hg)).trans (by simp [World.cell?, hg, hj2])
      clear hg hj hj1 hj2 hs
      go_wp2_with fail
      refine quiets.wp_region_below (by kernel_rfl) (by kernel_rfl) ?_
      repeat (go_big_quiet_step ((first | (intro hq; rfl) | (intro hq; simp [go_sem, hl1 _ hq]; rfl) | (intro hq; simp [go_sem]; try rfl) | (intro hq; exact quiets.below_call (h1 _) hq))))
      refine wpQuiet_nil ?_
      intro w4 hb4
      have HB4 : Hid _ := hbw.out.trans (hb4.mono hbw.out.size)
      have hl3 : ∀ W, Below w4.heap.size w4 W → W.cell? ⟨g, i * 2 + 1, none⟩ = some (.string (markT (k + 2 * i + 1))) := fun W h => hl2 W (hb4.trans (h.mono hb4.size))
      clear hb4 hl1 hl2 h1
      go_wp2_with fail
      refine quiets.wp_region_below (by kernel_rfl) (by kernel_rfl) ?_
      repeat (go_big_quiet_step ((first | (intro hq; rfl) | (intro hq; simp [go_sem, hl3 _ hq]; rfl) | (intro hq; simp [go_sem]; try rfl) | (intro hq; exact quiets.below_call (h2 _) hq))))
      refine wpQuiet_nil ?_
      intro w5 hb5
      have HB5 : Hid _ := HB4.out.trans (hb5.mono HB4.out.size)
      clear hb5 hl3 h2
      go_wp2
      go_roundw
      case rel => exact ⟨i + 1, by omega, by go_num, (by congr 1), HB5.out⟩
      case measure => simp [intOf]; omega
    · obtain rfl : i = n := by omega
      go_wp2
      go_ret
      exact ⟨rfl, hbw.out⟩
end Go.Proofs.Ytpejcblmglbjfaa.pairs
